/- Several texts in one: WireBuilder, WireCopy, WireCount8, WireWriter, WireAll, WireSpare, WireTold. -/
import Derived.Test.YtngikahadkoliaaGreatDoorWireMid
import Derived.Lib.Builder
import Derived.Lib.MakeNoZero
import Derived.Laws.Externs
import Derived.Laws.IdiomCopy
import Derived.Lib.BufferWrite
import Derived.Laws.IdiomStrings
import Derived.Shelf.RegionOpenPlain
import Derived.Lib.UnsafeStr
/- Contracts of the library's strings.Builder where it is the one field of a writer: it is walked in the library's own text. -/
namespace Go.Wire
open Go.RowKit
/-- Block b is a writer of the bytes l. -/
def Wr (T B b : Nat) (l : List UInt8) (w : World) : Prop :=
  B ≤ b ∧ ∃ p v, (p = .pointer none ∨ p = .pointer (some ⟨b, 0, none⟩)) ∧ w.heap[b]? = some (.cells #[p, v] T (0, 0)) ∧ w.ownsRow B 5 1 v l.length (Lib.byteCells l) ∧ v.ownBlock ≠ some b ∧ (l = [] → v = .slice none 0 0)
theorem Wr.below {T B b : Nat} {l : List UInt8} {w w' : World} (h : Wr T B b l w) (k : Below w.heap.size w w') : Wr T B b l w' := by
  obtain ⟨hB, p, v, hp, hb, ho, hn, he⟩ := h
  have lt : ∀ {g : Nat} {o : Obj}, w.heap[g]? = some o → w'.heap[g]? = some o := fun {g o} h => (k.block g (by
    rcases Nat.lt_or_ge g w.heap.size with x | x
    · exact x
    · rw [Array.getElem?_eq_none x] at h; cases h)).trans h
  refine ⟨hB, p, v, hp, lt hb, ?_, hn, he⟩
  obtain ⟨h0, h1⟩ := ho
  refine ⟨h0, ?_⟩
  rcases h1 with h1 | ⟨g, cap, cur, h1, h2, h3, h4⟩
  · exact .inl h1
  · exact .inr ⟨g, cap, cur, h1, h2, lt h3, h4⟩
theorem Wr.fresh (T : Nat) (w : World) : Wr T w.heap.size w.heap.size [] (w.alloc (.cells #[.pointer none, .slice none 0 0] T (0, 0))) :=
  ⟨Nat.le_refl _, _, _, .inl rfl, heap_alloc_new _ _, World.ownsRow_nil _ _ _ _, (by intro h; cases h), fun _ => rfl⟩
end Go.Wire
namespace Go.Proofs.YtngikahadkoliaaGreatDoor
open Go.RowKit Go.Wire
theorem underUP : Tryz.prog.underlying 251 = some .unsafePointer := by kernel_rfl
theorem cells5 : Tryz.prog.cellsOf 5 = 1 := by kernel_rfl
end Go.Proofs.YtngikahadkoliaaGreatDoor
/- A string that is copied over a row of bytes, as far as the row goes; the noughts behind it; of no program. -/
namespace Go.Wire
open Go.RowKit Go.Lib
theorem run_copy_row_min {P : Program} (w : World) (dT sT ty elem : TypeId) (g dLen dCap m : Nat) (s : ByteArray) (cur : Array Value) (t : TypeId)
    (hu : P.underlying dT = some (.slice elem)) (hs : (P.info? elem).map (·.size) = some 1) (hg : w.heap[g]? = some (.cells cur t (0, 0))) (hm : min s.size dLen = m) (hfit : m ≤ cur.size) :
    (Builtin.copy_ #[dT, sT] ty #[.slice (some ⟨g, 0, none⟩) dLen dCap, .string s]).run P w =
      .ok (goInt m) (w.setRow g (byteCells (s.data.toList.take m) ++ cur.toList.drop m).toArray) := by
  have hlen : (byteCells (s.data.toList.take m)).length = m := by
    rw [byteCells_length, List.length_take, ← size_eq]; omega
  have hst := run_storeCells_at P g 0 t (byteCells (s.data.toList.take m)) 0 cur w hg (by rw [hlen]; simpa using hfit) (byteCells_one _)
  have hmin : Nat.min s.size dLen = m := hm
  have htk : List.take m (List.map (fun b : UInt8 => Value.int IntKind.u8 (b.toNat : Int)) s.data.toList) = byteCells (s.data.toList.take m) := by
    rw [← List.map_take]; rfl
  rw [hlen] at hst
  simp only [Nat.add_zero, List.take_zero, List.nil_append, Nat.zero_add] at hst
  cases hq : P.info? elem with
  | none => simp [hq] at hs
  | some i =>
    simp [Builtin.copy_, run_underlying hu, Builtin.lenOf, Builtin.firstCells, sizeOf, typeInfo, hq, hmin]
    rw [htk, hst]
    simp [Result.andThen]
theorem wpList_copy_row_min {P : Program} {w : World} {ops : Array Oper} {rest : List Oper} {o : Oper} {a : Act} {Q : Exit → Act → World → Prop} (hgd : o.guard = none) (d s : Operand) (dT sT : TypeId)
    (ho : o.op = .call { callee := .builtin .copy, args := #[d, s], argTypes := #[dT, sT] }) (elem : TypeId) (hu : P.underlying dT = some (.slice elem)) (hsz : (P.info? elem).map (·.size) = some 1)
    (g dLen dCap m : Nat) (x : ByteArray) (hd : a.eval d = .slice (some ⟨g, 0, none⟩) dLen dCap) (hs : a.eval s = .string x)
    (cur : Array Value) (t : TypeId) (hg : w.heap[g]? = some (.cells cur t (0, 0))) (hm : min x.size dLen = m) (hfit : m ≤ cur.size)
    (h : wpList P ops Q rest (a.put o.dst (goInt m)) (w.setRow g (byteCells (x.data.toList.take m) ++ cur.toList.drop m).toArray)) : wpList P ops Q (o :: rest) a w := by
  refine wpList_plain hgd fun K hK => ?_
  have hrun := run_copy_row_min (P := P) w dT sT o.type elem g dLen dCap m x cur t hu hsz hg hm hfit
  unfold Oper.wp
  simp [execOp, ho, resolve, invoke, builtin, hd, hs, hrun, Result.andThen]
  exact hK _ _ h
/-- A digest's bytes: cut at 32, or filled up. -/
def pad (l : List UInt8) : List UInt8 := l.take 32 ++ List.replicate (32 - l.length) 0
theorem pad_length (l : List UInt8) : (pad l).length = 32 := by
  simp [pad]; omega
def bcells (l : List UInt8) : Array Value := (byteCells l).toArray
def zeros32 : List UInt8 := List.replicate 32 0
theorem bcells_size (l : List UInt8) : (bcells l).size = l.length := by simp [bcells, byteCells]
theorem pad_row (s : ByteArray) (m : Nat) (hm : min s.size 32 = m) : (byteCells (s.data.toList.take m) ++ (bcells zeros32).toList.drop m).toArray = bcells (pad s.data.toList) := by
  have h1 : s.data.toList.length = s.size := by simp
  have h2 : s.data.toList.take m = s.data.toList.take 32 := by
    rcases Nat.le_total s.size 32 with h | h
    · rw [List.take_of_length_le (by omega), List.take_of_length_le (by omega)]
    · rw [← hm, Nat.min_eq_right h]
  have h3 : (byteCells zeros32).drop m = byteCells (List.replicate (32 - s.data.toList.length) 0) := by
    simp only [byteCells, zeros32, List.map_replicate, List.drop_replicate]
    congr 1
    omega
  unfold bcells pad
  rw [h2, byteCells_append, h3]
theorem bcells_has {base g : Nat} {w : World} {l : List UInt8} {e : TypeId} (hh : w.heap[g]? = some (.cells (bcells l) e (0, 0))) (hb : base ≤ g) : ByteRow.Has base w (.slice (some ⟨g, 0, none⟩) l.length l.length) l := by
  have hlt : g < w.heap.size := by
    rcases Nat.lt_or_ge g w.heap.size with h | h
    · exact h
    · rw [Array.getElem?_eq_none h] at hh; cases hh
  refine .inr ⟨g, l.length, rfl, hb, hlt, Nat.le_refl _, fun j c hj => ?_, fun j hj => ?_⟩
  · rw [cell_of_row _ _ _ _ _ _ hh]; simp [bcells, byteCells, hj, Sha.byteV]
  · exact ⟨by rw [cell_of_row _ _ _ _ _ _ hh, Array.getElem?_eq_getElem (by rw [bcells_size]; exact hj)]; rfl, frozen_of_row _ _ _ _ _ hh⟩
theorem below_row {B : Nat} {w w1 : World} (h : Below B w w1) {g : Nat} (hg : B ≤ g) (cs : Array Value) : Below B w (w1.setRow g cs) :=
  h.trans ⟨rfl, rfl, rfl, by simp, fun k hk => setRow_other _ _ _ _ (by omega)⟩
theorem pad_world {w W : World} {T : TypeId} {s : ByteArray} {m : Nat} (hm : min s.size 32 = m) (hW : (w.alloc (.cells (bcells zeros32) T (0, 0))).setRow w.heap.size (byteCells (s.data.toList.take m) ++ (bcells zeros32).toList.drop m).toArray = W) :
    ByteRow.Has w.heap.size W (.slice (some ⟨w.heap.size, 0, none⟩) 32 32) (pad s.data.toList) ∧ Below w.heap.size w W := by
  rw [pad_row s m hm] at hW
  subst hW
  have h1 := bcells_has (setRow_heap _ _ _ (bcells (pad s.data.toList)) _ _ (heap_alloc_new w (.cells (bcells zeros32) T (0, 0)))) (Nat.le_refl w.heap.size)
  rw [pad_length] at h1
  exact ⟨h1, below_row ((Below.refl _ _).alloc (Nat.le_refl _) _) (Nat.le_refl _) _⟩
end Go.Wire
/- The contract of a text's count. -/
namespace Go.Proofs.YtngikahadkoliaaGreatDoor
open Go.RowKit Go.Wire
end Go.Proofs.YtngikahadkoliaaGreatDoor
/- Contracts of the writer: one that is there, and a nil one. -/
namespace Go.Wire
open Go.RowKit
/-- The pointer v is nil, or leads to a writer of the bytes l. -/
def WAt (T B : Nat) (v : Value) (l : List UInt8) (w : World) : Prop := v = .pointer none ∨ ∃ b, v = .pointer (some ⟨b, 0, none⟩) ∧ Wr T B b l w
theorem WAt.below {T B : Nat} {v : Value} {l : List UInt8} {w w' : World} (h : WAt T B v l w) (k : Below w.heap.size w w') : WAt T B v l w' := by
  rcases h with h | ⟨b, h, hr⟩
  · exact .inl h
  · exact .inr ⟨b, h, hr.below k⟩
end Go.Wire
namespace Go.Proofs.YtngikahadkoliaaGreatDoor
open Go.RowKit Go.Wire
theorem size5 : (Tryz.prog.info? 5).map (·.size) = some 1 := by kernel_rfl
theorem zero32 : (Tryz.prog.info? 234).map (fun i => (i.zero, i.size)) = some (some (.agg (bcells zeros32)), 32) := by kernel_rfl
end Go.Proofs.YtngikahadkoliaaGreatDoor
/- Contracts of a writer's bytes and their number, of a new writer, and of a digest and yes or no as the document has them. -/
namespace Go.Wire
open Go.RowKit
theorem pad_more (l : List UInt8) (h : l.length < 32) : pad (l ++ [0]) = pad l := by
  unfold pad
  rw [List.take_of_length_le (by simp; omega), List.take_of_length_le (by omega), List.length_append, List.length_singleton, List.append_assoc]
  congr 1
  rw [show 32 - l.length = (32 - (l.length + 1)) + 1 by omega, List.replicate_succ]
  rfl
theorem pad_done (l : List UInt8) (h : 32 ≤ l.length) : pad l = l.take 32 := by
  unfold pad
  rw [show 32 - l.length = 0 by omega]
  simp
def sizeV : Value → Nat
  | .string t => t.size
  | _ => 0
theorem freeze_other (w : World) (a : Addr) (n k : Nat) (h : k ≠ a.block) : (w.freeze a n).heap[k]? = w.heap[k]? := by
  unfold World.freeze
  split
  · rfl
  · simp [Array.getElem?_modify, Ne.symm h]
end Go.Wire
namespace Go.Proofs.YtngikahadkoliaaGreatDoor
open Go.RowKit Go.Wire
theorem underP5 : Tryz.prog.underlying 246 = some (.pointer 5) := by kernel_rfl
end Go.Proofs.YtngikahadkoliaaGreatDoor
/- The writer's contracts once more, with what they leave alone: all blocks but the writer's own that are no rows of bytes. -/
namespace Go.Wire
open Go.RowKit
/-- What was there below B stands, and all else that is no row of bytes, but for the writer v itself. -/
structure Wrote (B : Nat) (v : Value) (w w' : World) : Prop where
  below : Below B w w'
  spare : ∀ k c T fr, v ≠ .pointer (some ⟨k, 0, none⟩) → T ≠ 5 → w.heap[k]? = some (.cells c T fr) → w'.heap[k]? = w.heap[k]?
theorem Wrote.refl (B : Nat) (v : Value) (w : World) : Wrote B v w w := ⟨Below.refl _ _, fun _ _ _ _ _ _ _ => rfl⟩
theorem Wrote.of {B : Nat} {v : Value} {w w' : World} (h : Below w.heap.size w w') (hB : B ≤ w.heap.size) : Wrote B v w w' := ⟨h.mono hB, fun k _ _ _ _ _ hc => h.block k (row_lt hc)⟩
theorem Wrote.trans {B : Nat} {v : Value} {w w1 w2 : World} (h : Wrote B v w w1) (k : Wrote B v w1 w2) : Wrote B v w w2 :=
  ⟨h.below.trans k.below, fun j c T fr hj hT hc => (k.spare j c T fr hj hT ((h.spare j c T fr hj hT hc).trans hc)).trans (h.spare j c T fr hj hT hc)⟩
theorem Wrote.set {B b : Nat} {w : World} (hB : B ≤ b) (i : Nat) (x : Value) : Wrote B (.pointer (some ⟨b, 0, none⟩)) w (w.setCell ⟨b, i, none⟩ x) :=
  ⟨(Below.refl B w).setCell (p := ⟨b, i, none⟩) hB _, fun k _ _ _ hk _ _ => Below.heap_setCell _ ⟨b, i, none⟩ _ k (fun e => hk (by rw [e]))⟩
theorem Wrote.row {B k : Nat} {v : Value} {w w' : World} {c : Array Value} {T : TypeId} {fr : Nat × Nat} (h : Wrote B v w w') (hk : v ≠ .pointer (some ⟨k, 0, none⟩)) (hT : T ≠ 5) (hc : w.heap[k]? = some (.cells c T fr)) : w'.heap[k]? = some (.cells c T fr) := (h.spare k c T fr hk hT hc).trans hc
theorem own_tag {w : World} {B n k : Nat} {v : Value} {xs : List Value} {c : Array Value} {T : TypeId} {fr : Nat × Nat} (h : w.ownsRow B 5 1 v n xs) (e : v.ownBlock = some k) (hc : w.heap[k]? = some (.cells c T fr)) : T = 5 := by
  rcases h.2 with ⟨rfl, _⟩ | ⟨g, cap, cur, rfl, _, hg, _⟩
  · cases e
  · obtain rfl : g = k := by simpa [Value.ownBlock] using e
    rw [hg] at hc
    simp only [Option.some.injEq, Obj.cells.injEq] at hc
    exact hc.2.1.symm
end Go.Wire
namespace Go.Proofs.YtngikahadkoliaaGreatDoor
open Go.RowKit Go.Wire
theorem size5' : (Tryz.prog.info? 5).map (·.size) = some 1 := by kernel_rfl
theorem zero32' : (Tryz.prog.info? 234).map (fun i => (i.zero, i.size)) = some (some (.agg (bcells zeros32)), 32) := by kernel_rfl
end Go.Proofs.YtngikahadkoliaaGreatDoor
/- A writer that is only asked any more: what it has is told again and again. -/
namespace Go.Wire
open Go.RowKit
theorem freeze_same {w : World} {g : Nat} {cur : Array Value} {T : TypeId} {fr : Nat × Nat} (h : w.heap[g]? = some (.cells cur T fr)) (n : Nat) : ∃ fr', (w.freeze ⟨g, 0, none⟩ n).heap[g]? = some (.cells cur T fr') := by
  unfold World.freeze
  split
  · exact ⟨fr, h⟩
  · obtain ⟨lo, hi⟩ := fr
    refine ⟨if lo == hi then (0, 0 + n) else (min lo 0, max hi (0 + n)), ?_⟩
    simp only [Array.getElem?_modify, if_true, h, Option.map_some]
/-- Block b is a writer that has the bytes l; they may have been told. -/
def Wt (T B b : Nat) (l : List UInt8) (w : World) : Prop :=
  ∃ p, (l = [] ∧ w.heap[b]? = some (.cells #[p, .slice none 0 0] T (0, 0))) ∨
    ∃ g cap cur fr, l ≠ [] ∧ B ≤ g ∧ g ≠ b ∧ w.heap[b]? = some (.cells #[p, .slice (some ⟨g, 0, none⟩) l.length cap] T (0, 0)) ∧ w.heap[g]? = some (.cells cur 5 fr) ∧ l.length ≤ cap ∧ cap ≤ maxLen ∧ cur.size = cap * 1 ∧ cur.toList.take (l.length * 1) = Lib.byteCells l
theorem Wr.told {T B b : Nat} {l : List UInt8} {w : World} (h : Wr T B b l w) : Wt T B b l w := by
  obtain ⟨hBb, p, v, hp, hb, ho, hn, he⟩ := h
  refine ⟨p, ?_⟩
  by_cases h0 : l = []
  · have hv := he h0
    subst hv
    exact .inl ⟨h0, hb⟩
  · have hl0 : l.length ≠ 0 := by simpa using h0
    rcases ho.2 with ⟨_, hz⟩ | ⟨g, cap, cur, hv, hbg, hg, hnc, hcm, hcs, htake⟩
    · exact absurd hz hl0
    · subst hv
      exact .inr ⟨g, cap, cur, _, h0, hbg, fun e => hn (by rw [e]; rfl), hb, hg, hnc, hcm, hcs, htake⟩
theorem Wt.below {T B b : Nat} {l : List UInt8} {w w' : World} (h : Wt T B b l w) (k : Below w.heap.size w w') : Wt T B b l w' := by
  have kb : ∀ {g : Nat} {o : Obj}, w.heap[g]? = some o → w'.heap[g]? = some o := fun {g o} h => (k.block g (by
    rcases Nat.lt_or_ge g w.heap.size with x | x
    · exact x
    · rw [Array.getElem?_eq_none x] at h; cases h)).trans h
  obtain ⟨p, h | ⟨g, cap, cur, fr, h0, h1, h2, h3, h4, h5⟩⟩ := h
  · exact ⟨p, .inl ⟨h.1, kb h.2⟩⟩
  · exact ⟨p, .inr ⟨g, cap, cur, fr, h0, h1, h2, kb h3, kb h4, h5⟩⟩
end Go.Wire
namespace Go.Proofs.YtngikahadkoliaaGreatDoor
open Go.RowKit Go.Wire
end Go.Proofs.YtngikahadkoliaaGreatDoor
