/- Several texts in one: WireBuilder, WireCopy, WireWriter, WireAll. -/
import Derived.Test.YtoineobjmllicaaGreatDoorNumberOne
import Derived.Lib.Builder
import Derived.Lib.MakeNoZero
import Derived.Laws.Externs
import Derived.Laws.IdiomCopy
import Derived.Lib.BufferWrite
import Derived.Test.YtoineobjmllicaaGreatDoorWirTwo
import Derived.Laws.IdiomStrings
import Derived.Shelf.RegionOpenPlain
import Derived.Lib.UnsafeStr
/- Contracts of the library's strings.Builder where it is the one field of a writer: it is walked in the library's own text. -/
namespace Go.Wire
open Go.RowKit
/-- Block b is a writer of the bytes l. -/
def Wr (T B b : Nat) (l : List UInt8) (w : World) : Prop :=
  B ≤ b ∧ ∃ p v, (p = .pointer none ∨ p = .pointer (some ⟨b, 0, none⟩)) ∧ w.heap[b]? = some (.cells #[p, v] T (0, 0)) ∧ w.ownsRow B 5 1 v l.length (Lib.byteCells l) ∧ v.ownBlock ≠ some b ∧ (l = [] → v = .slice none 0 0)
theorem Wr.below {T B b : Nat} {l : List UInt8} {w w' : World} (h : Wr T B b l w) (k : Below w.heap.size w w') : Wr T B b l w' := by
  obtain ⟨hB, p, v, hp, hb, ho, hn, he⟩ := h
  have lt : ∀ {g : Nat} {o : Obj}, w.heap[g]? = some o → w'.heap[g]? = some o := fun {g o} h => (k.block g (by
    rcases Nat.lt_or_ge g w.heap.size with x | x
    · exact x
    · rw [Array.getElem?_eq_none x] at h; cases h)).trans h
  refine ⟨hB, p, v, hp, lt hb, ?_, hn, he⟩
  obtain ⟨h0, h1⟩ := ho
  refine ⟨h0, ?_⟩
  rcases h1 with h1 | ⟨g, cap, cur, h1, h2, h3, h4⟩
  · exact .inl h1
  · exact .inr ⟨g, cap, cur, h1, h2, lt h3, h4⟩
theorem Wr.fresh (T : Nat) (w : World) : Wr T w.heap.size w.heap.size [] (w.alloc (.cells #[.pointer none, .slice none 0 0] T (0, 0))) :=
  ⟨Nat.le_refl _, _, _, .inl rfl, heap_alloc_new _ _, World.ownsRow_nil _ _ _ _, (by intro h; cases h), fun _ => rfl⟩
end Go.Wire
namespace Go.Proofs.YtoineobjmllicaaGreatDoor
open Go.RowKit Go.Wire
theorem sizeBuilder : (Tryz.prog.info? 142).map (·.size) = some 2 := by kernel_rfl
theorem liesBuilder : liesAt Tryz.prog Tryz.prog.depth 144 (2 / Tryz.prog.cellsOf 144) 0 142 1 = true := by kernel_rfl
theorem underPB : Tryz.prog.underlying 140 = some (.pointer 142) := by kernel_rfl
theorem underUP : Tryz.prog.underlying 192 = some .unsafePointer := by kernel_rfl
theorem cells5 : Tryz.prog.cellsOf 5 = 1 := by kernel_rfl
theorem neB5 : (144 : TypeId) ≠ 5 := by decide
set_option maxHeartbeats 1000000 in
set_option maxRecDepth 100000 in
theorem copyCheck_used (b : Nat) (w : World) (h0 : w.cell? ⟨b, 0, none⟩ = some (.pointer (some ⟨b, 0, none⟩))) :
    Calls Tryz.prog 117 #[.pointer (some ⟨b, 0, none⟩)] w fun e w' => e = .returned (.tuple #[]) ∧ w' = w := by
  obtain ⟨j, hj, _⟩ := Option.map_eq_some_iff.1 sizeBuilder
  go_enter Tryz.func117, Tryz.ntmps117
  go_wp2
  rw [Lib.run_neq_ptr_same w _ underPB hj]
  go_wp2
  go_end0
  exact ⟨rfl, rfl⟩
set_option maxHeartbeats 1000000 in
set_option maxRecDepth 100000 in
theorem copyCheck_fresh (b : Nat) (w : World) (h0 : w.cell? ⟨b, 0, none⟩ = some (.pointer none)) (hsh : w.shape? b = some (144, 2)) (hfz : w.frozen? ⟨b, 0, none⟩ = false) :
    Calls Tryz.prog 117 #[.pointer (some ⟨b, 0, none⟩)] w fun e w' => e = .returned (.tuple #[]) ∧ w' = w.setCell ⟨b, 0, none⟩ (.pointer (some ⟨b, 0, none⟩)) := by
  obtain ⟨j, hj, hjs⟩ := Option.map_eq_some_iff.1 sizeBuilder
  go_enter Tryz.func117, Tryz.ntmps117
  go_wp2
  rw [Lib.run_to_unsafe w ⟨b, 0, none⟩ underPB underUP hj (by rw [hjs]; decide) hsh (Nat.zero_lt_succ 1)]
  simp only [Result.andThen]
  rw [Oper.upon_value]
  go_wp2
  rw [run_callFunc_extern Tryz.func156 (by kernel_rfl) (by kernel_rfl) (by kernel_rfl) (e := Extern.AbiNoEscape.same) (by kernel_rfl)]
  rw [Lib.run_noEscape]
  simp only [Result.andThen]
  rw [Oper.upon_value]
  go_wp2
  rw [Lib.run_from_unsafe w ⟨b, 0, none⟩ underUP underPB hj hsh liesBuilder]
  simp only [Result.andThen]
  rw [Oper.upon_value]
  go_wp2
  go_end0
  exact ⟨rfl, rfl⟩
theorem copyCheck_any (B b : Nat) (l : List UInt8) (w : World) (h : Wr 144 B b l w) :
    Calls Tryz.prog 117 #[.pointer (some ⟨b, 0, none⟩)] w fun e w' => e = .returned (.tuple #[]) ∧ (∃ v, w'.heap[b]? = some (.cells #[.pointer (some ⟨b, 0, none⟩), v] 144 (0, 0)) ∧ w'.ownsRow B 5 1 v l.length (Lib.byteCells l) ∧ v.ownBlock ≠ some b ∧ (l = [] → v = .slice none 0 0)) ∧ Below B w w' := by
  obtain ⟨hB, p, v, hp, hb, ho, hn, he⟩ := h
  have hat : Lib.BuilderAt 144 5 B b p (Lib.byteCells l) w := ⟨hB, v, hb, by rw [Lib.byteCells_length]; exact ho, hn⟩
  rcases hp with rfl | rfl
  · refine (copyCheck_fresh b w hat.cell0 hat.shape hat.frozen0).mono ?_
    rintro e w' ⟨rfl, rfl⟩
    have hb' : (w.setCell ⟨b, 0, none⟩ (.pointer (some ⟨b, 0, none⟩))).heap[b]? = some (.cells #[.pointer (some ⟨b, 0, none⟩), v] 144 (0, 0)) := by rw [heap_setCell_same _ _ _ _ _ _ hb]; rfl
    obtain ⟨-, v', h1, h2, h3⟩ := hat.used (.pointer (some ⟨b, 0, none⟩))
    rw [hb'] at h1
    obtain rfl : v = v' := by simpa using h1
    rw [Lib.byteCells_length] at h2
    exact ⟨rfl, ⟨v, hb', h2, h3, he⟩, (Below.refl B w).setCell (p := ⟨b, 0, none⟩) hB _⟩
  · refine (copyCheck_used b w hat.cell0).mono ?_
    rintro e w' ⟨rfl, rfl⟩
    exact ⟨rfl, ⟨v, hb, ho, hn, he⟩, Below.refl B _⟩
set_option maxHeartbeats 2000000 in
set_option maxRecDepth 100000 in
theorem writeString_any (B b : Nat) (l : List UInt8) (s : ByteArray) (w : World) (h : Wr 144 B b l w) (hlen : l.length + s.size ≤ 140737488355328) (hBw : B ≤ w.heap.size) :
    Calls Tryz.prog 100 #[.pointer (some ⟨b, 0, none⟩), .string s] w fun e w' => e = .returned (.tuple #[.int .i64 s.size, .nilIface]) ∧ Wr 144 B b (l ++ s.data.toList) w' ∧ Below B w w' := by
  have hB := h.1
  obtain ⟨i0, hi, hz0, hz1, hz2⟩ := info_parts info5
  go_enter Tryz.func100, Tryz.ntmps100
  go_wp2_with (go_at_call 117; refine (copyCheck_any B b l _ h).mono ?_)
  rintro e w1 ⟨rfl, ⟨v, hbk, hown, hne, hnil⟩, hb1⟩
  have c0 : w1.cell? ⟨b, 0, none⟩ = some (.pointer (some ⟨b, 0, none⟩)) := by rw [Lib.cell_of_heap hbk]; rfl
  have c1 : w1.cell? ⟨b, 1, none⟩ = some v := by rw [Lib.cell_of_heap hbk]; rfl
  go_wp2_with (at_builtin; refine Lib.wpList_append_own_string _ rfl _ _ 100 9 rfl B 5 i0 underB under9 hi hz0 hz1 hz2 _ _ _ rfl hown s rfl ?c3 ?c4 ?c5 ?_)
  case c3 => unfold maxLen; omega
  case c4 => omega
  case c5 => have := hb1.size; omega
  intro v' w2 hown' hgrow hiff
  have hlt : b < w1.heap.size := by
    rcases Nat.lt_or_ge b w1.heap.size with h' | h'
    · exact h'
    · simp [Array.getElem?_eq_none h'] at hbk
  have hb2 : w2.heap[b]? = some (.cells #[.pointer (some ⟨b, 0, none⟩), v] 144 (0, 0)) := by
    rw [hgrow.block b hlt (fun e => hne e.symm)]
    exact hbk
  have d0 : w2.cell? ⟨b, 0, none⟩ = some (.pointer (some ⟨b, 0, none⟩)) := by rw [Lib.cell_of_heap hb2]; rfl
  have d1 : w2.cell? ⟨b, 1, none⟩ = some v := by rw [Lib.cell_of_heap hb2]; rfl
  have f1 : w2.frozen? ⟨b, 1, none⟩ = false := Lib.frozen_of_heap hb2 1
  have HI : Hid (v' = .slice none 0 0 ↔ v = .slice none 0 0 ∧ s = ByteArray.empty) := hiff
  have HV : Hid (l = [] → v = .slice none 0 0) := hnil
  clear hiff hnil
  obtain ⟨ao, n', cap, rfl⟩ : ∃ ao n' cap, v' = .slice ao n' cap := by
    rcases hown'.2 with ⟨hv, _⟩ | ⟨g, cap, cur, hv, _⟩
    · exact ⟨_, _, _, hv⟩
    · exact ⟨_, _, _, hv⟩
  go_wp2
  go_ret2
  refine ⟨rfl, ?_, ?_⟩
  · obtain ⟨-, v2, h1, h2, h3⟩ := Lib.BuilderAt.put (T := 144) (e := 5) hB hb2 (v' := .slice ao n' cap) (bs' := Lib.byteCells (l ++ s.data.toList)) (by rw [Lib.byteCells_length, List.length_append, Lib.byteCells_append]; exact hown') neB5
    have hb3 : (w2.setCell ⟨b, 1, none⟩ (.slice ao n' cap)).heap[b]? = some (.cells #[.pointer (some ⟨b, 0, none⟩), .slice ao n' cap] 144 (0, 0)) := by rw [heap_setCell_same _ _ _ _ _ _ hb2]; rfl
    rw [hb3] at h1
    obtain rfl : Value.slice ao n' cap = v2 := by simpa using h1
    rw [Lib.byteCells_length] at h2
    refine ⟨hB, _, _, .inr rfl, hb3, h2, h3, fun h0 => ?_⟩
    obtain ⟨ha, hs0⟩ := List.append_eq_nil_iff.1 h0
    exact HI.out.2 ⟨HV.out ha, ByteArray.ext (Array.toList_inj.1 hs0)⟩
  · exact (hb1.grown hgrow (by have := hb1.size; omega) (fun k hk => (hown.lt k hk).1)).setCell (p := ⟨b, 1, none⟩) hB _
end Go.Proofs.YtoineobjmllicaaGreatDoor
/- A string that is copied over a row of bytes, as far as the row goes; the noughts behind it; of no program. -/
namespace Go.Wire
open Go.RowKit Go.Lib
theorem run_copy_row_min {P : Program} (w : World) (dT sT ty elem : TypeId) (g dLen dCap m : Nat) (s : ByteArray) (cur : Array Value) (t : TypeId)
    (hu : P.underlying dT = some (.slice elem)) (hs : (P.info? elem).map (·.size) = some 1) (hg : w.heap[g]? = some (.cells cur t (0, 0))) (hm : min s.size dLen = m) (hfit : m ≤ cur.size) :
    (Builtin.copy_ #[dT, sT] ty #[.slice (some ⟨g, 0, none⟩) dLen dCap, .string s]).run P w =
      .ok (goInt m) (w.setRow g (byteCells (s.data.toList.take m) ++ cur.toList.drop m).toArray) := by
  have hlen : (byteCells (s.data.toList.take m)).length = m := by
    rw [byteCells_length, List.length_take, ← size_eq]; omega
  have hst := run_storeCells_at P g 0 t (byteCells (s.data.toList.take m)) 0 cur w hg (by rw [hlen]; simpa using hfit) (byteCells_one _)
  have hmin : Nat.min s.size dLen = m := hm
  have htk : List.take m (List.map (fun b : UInt8 => Value.int IntKind.u8 (b.toNat : Int)) s.data.toList) = byteCells (s.data.toList.take m) := by
    rw [← List.map_take]; rfl
  rw [hlen] at hst
  simp only [Nat.add_zero, List.take_zero, List.nil_append, Nat.zero_add] at hst
  cases hq : P.info? elem with
  | none => simp [hq] at hs
  | some i =>
    simp [Builtin.copy_, run_underlying hu, Builtin.lenOf, Builtin.firstCells, sizeOf, typeInfo, hq, hmin]
    rw [htk, hst]
    simp [Result.andThen]
theorem wpList_copy_row_min {P : Program} {w : World} {ops : Array Oper} {rest : List Oper} {o : Oper} {a : Act} {Q : Exit → Act → World → Prop} (hgd : o.guard = none) (d s : Operand) (dT sT : TypeId)
    (ho : o.op = .call { callee := .builtin .copy, args := #[d, s], argTypes := #[dT, sT] }) (elem : TypeId) (hu : P.underlying dT = some (.slice elem)) (hsz : (P.info? elem).map (·.size) = some 1)
    (g dLen dCap m : Nat) (x : ByteArray) (hd : a.eval d = .slice (some ⟨g, 0, none⟩) dLen dCap) (hs : a.eval s = .string x)
    (cur : Array Value) (t : TypeId) (hg : w.heap[g]? = some (.cells cur t (0, 0))) (hm : min x.size dLen = m) (hfit : m ≤ cur.size)
    (h : wpList P ops Q rest (a.put o.dst (goInt m)) (w.setRow g (byteCells (x.data.toList.take m) ++ cur.toList.drop m).toArray)) : wpList P ops Q (o :: rest) a w := by
  refine wpList_plain hgd fun K hK => ?_
  have hrun := run_copy_row_min (P := P) w dT sT o.type elem g dLen dCap m x cur t hu hsz hg hm hfit
  unfold Oper.wp
  simp [execOp, ho, resolve, invoke, builtin, hd, hs, hrun, Result.andThen]
  exact hK _ _ h
/-- A digest's bytes: cut at 32, or filled up. -/
def pad (l : List UInt8) : List UInt8 := l.take 32 ++ List.replicate (32 - l.length) 0
theorem pad_length (l : List UInt8) : (pad l).length = 32 := by
  simp [pad]; omega
def bcells (l : List UInt8) : Array Value := (byteCells l).toArray
def zeros32 : List UInt8 := List.replicate 32 0
theorem bcells_size (l : List UInt8) : (bcells l).size = l.length := by simp [bcells, byteCells]
theorem pad_row (s : ByteArray) (m : Nat) (hm : min s.size 32 = m) : (byteCells (s.data.toList.take m) ++ (bcells zeros32).toList.drop m).toArray = bcells (pad s.data.toList) := by
  have h1 : s.data.toList.length = s.size := by simp
  have h2 : s.data.toList.take m = s.data.toList.take 32 := by
    rcases Nat.le_total s.size 32 with h | h
    · rw [List.take_of_length_le (by omega), List.take_of_length_le (by omega)]
    · rw [← hm, Nat.min_eq_right h]
  have h3 : (byteCells zeros32).drop m = byteCells (List.replicate (32 - s.data.toList.length) 0) := by
    simp only [byteCells, zeros32, List.map_replicate, List.drop_replicate]
    congr 1
    omega
  unfold bcells pad
  rw [h2, byteCells_append, h3]
theorem bcells_has {base g : Nat} {w : World} {l : List UInt8} {e : TypeId} (hh : w.heap[g]? = some (.cells (bcells l) e (0, 0))) (hb : base ≤ g) : ByteRow.Has base w (.slice (some ⟨g, 0, none⟩) l.length l.length) l := by
  have hlt : g < w.heap.size := by
    rcases Nat.lt_or_ge g w.heap.size with h | h
    · exact h
    · rw [Array.getElem?_eq_none h] at hh; cases hh
  refine .inr ⟨g, l.length, rfl, hb, hlt, Nat.le_refl _, fun j c hj => ?_, fun j hj => ?_⟩
  · rw [cell_of_row _ _ _ _ _ _ hh]; simp [bcells, byteCells, hj, Sha.byteV]
  · exact ⟨by rw [cell_of_row _ _ _ _ _ _ hh, Array.getElem?_eq_getElem (by rw [bcells_size]; exact hj)]; rfl, frozen_of_row _ _ _ _ _ hh⟩
theorem below_row {B : Nat} {w w1 : World} (h : Below B w w1) {g : Nat} (hg : B ≤ g) (cs : Array Value) : Below B w (w1.setRow g cs) :=
  h.trans ⟨rfl, rfl, rfl, by simp, fun k hk => setRow_other _ _ _ _ (by omega)⟩
theorem pad_world {w W : World} {T : TypeId} {s : ByteArray} {m : Nat} (hm : min s.size 32 = m) (hW : (w.alloc (.cells (bcells zeros32) T (0, 0))).setRow w.heap.size (byteCells (s.data.toList.take m) ++ (bcells zeros32).toList.drop m).toArray = W) :
    ByteRow.Has w.heap.size W (.slice (some ⟨w.heap.size, 0, none⟩) 32 32) (pad s.data.toList) ∧ Below w.heap.size w W := by
  rw [pad_row s m hm] at hW
  subst hW
  have h1 := bcells_has (setRow_heap _ _ _ (bcells (pad s.data.toList)) _ _ (heap_alloc_new w (.cells (bcells zeros32) T (0, 0)))) (Nat.le_refl w.heap.size)
  rw [pad_length] at h1
  exact ⟨h1, below_row ((Below.refl _ _).alloc (Nat.le_refl _) _) (Nat.le_refl _) _⟩
end Go.Wire
/- Contracts of the writer: one that is there, and a nil one. -/
namespace Go.Wire
open Go.RowKit
/-- The pointer v is nil, or leads to a writer of the bytes l. -/
def WAt (T B : Nat) (v : Value) (l : List UInt8) (w : World) : Prop := v = .pointer none ∨ ∃ b, v = .pointer (some ⟨b, 0, none⟩) ∧ Wr T B b l w
theorem WAt.below {T B : Nat} {v : Value} {l : List UInt8} {w w' : World} (h : WAt T B v l w) (k : Below w.heap.size w w') : WAt T B v l w' := by
  rcases h with h | ⟨b, h, hr⟩
  · exact .inl h
  · exact .inr ⟨b, h, hr.below k⟩
end Go.Wire
namespace Go.Proofs.YtoineobjmllicaaGreatDoor
open Go.RowKit Go.Wire
set_option maxHeartbeats 400000 in
theorem wbytes_any (B : Nat) (v : Value) (l : List UInt8) (s : ByteArray) (w : World) (h : WAt 144 B v l w) (hl : v = .pointer none ∨ l.length + s.size ≤ 140737488355328) (hB : B ≤ w.heap.size) :
    Calls Tryz.prog 75 #[v, .string s] w fun e w' => e = .returned (.tuple #[]) ∧ WAt 144 B v (l ++ s.data.toList) w' ∧ Below B w w' := by
  rcases h with rfl | ⟨b, rfl, hr⟩
  · go_enter Tryz.func75, Tryz.ntmps75
    go_wp2
    go_end0
    exact ⟨rfl, .inl rfl, Below.refl _ _⟩
  · have hl2 : l.length + s.size ≤ 140737488355328 := hl.resolve_left (by intro x; cases x)
    clear hl
    go_enter Tryz.func75, Tryz.ntmps75
    go_wp2_with (go_at_call 100; refine (writeString_any B b l s _ hr hl2 hB).mono ?_; rintro e w1 ⟨rfl, h1, k1⟩)
    go_end0
    exact ⟨rfl, .inr ⟨b, rfl, by assumption⟩, by assumption⟩
theorem size5 : (Tryz.prog.info? 5).map (·.size) = some 1 := by kernel_rfl
theorem zero32 : (Tryz.prog.info? 216).map (fun i => (i.zero, i.size)) = some (some (.agg (bcells zeros32)), 32) := by kernel_rfl
end Go.Proofs.YtoineobjmllicaaGreatDoor
/- Contracts of a writer's bytes and their number, of a new writer, and of a digest and yes or no as the document has them. -/
namespace Go.Wire
open Go.RowKit
theorem pad_more (l : List UInt8) (h : l.length < 32) : pad (l ++ [0]) = pad l := by
  unfold pad
  rw [List.take_of_length_le (by simp; omega), List.take_of_length_le (by omega), List.length_append, List.length_singleton, List.append_assoc]
  congr 1
  rw [show 32 - l.length = (32 - (l.length + 1)) + 1 by omega, List.replicate_succ]
  rfl
theorem pad_done (l : List UInt8) (h : 32 ≤ l.length) : pad l = l.take 32 := by
  unfold pad
  rw [show 32 - l.length = 0 by omega]
  simp
def sizeV : Value → Nat
  | .string t => t.size
  | _ => 0
theorem freeze_other (w : World) (a : Addr) (n k : Nat) (h : k ≠ a.block) : (w.freeze a n).heap[k]? = w.heap[k]? := by
  unfold World.freeze
  split
  · rfl
  · simp [Array.getElem?_modify, Ne.symm h]
end Go.Wire
namespace Go.Proofs.YtoineobjmllicaaGreatDoor
open Go.RowKit Go.Wire
theorem underP5 : Tryz.prog.underlying 164 = some (.pointer 5) := by kernel_rfl
set_option maxHeartbeats 400000 in
theorem newWriter_any (w : World) :
    Calls Tryz.prog 74 #[] w fun e w' => e = .returned (.pointer (some ⟨w.heap.size, 0, none⟩)) ∧ Wr 144 w.heap.size w.heap.size [] w' ∧ Below w.heap.size w w' := by
  go_enter Tryz.func74, Tryz.ntmps74
  go_wp2
  go_ret
  exact ⟨rfl, Wr.fresh _ _, (Below.refl _ _).alloc (Nat.le_refl _) _⟩
set_option maxHeartbeats 2000000 in
set_option maxRecDepth 100000 in
theorem bstring_row (B b g cap : Nat) (p : Value) (cur : Array Value) (l : List UInt8) (w : World) (h0 : l ≠ []) (hbg : B ≤ g) (hgb : g ≠ b) (hbk : w.heap[b]? = some (.cells #[p, .slice (some ⟨g, 0, none⟩) l.length cap] 144 (0, 0)))
    (hg : w.heap[g]? = some (.cells cur 5 (0, 0))) (hnc : l.length ≤ cap) (hcm : cap ≤ maxLen) (hcs : cur.size = cap * 1) (htake : cur.toList.take (l.length * 1) = Lib.byteCells l) :
    Calls Tryz.prog 101 #[.pointer (some ⟨b, 0, none⟩)] w fun e w' => e = .returned (.string ⟨l.toArray⟩) ∧ w'.heap[b]? = some (.cells #[p, .slice (some ⟨g, 0, none⟩) l.length cap] 144 (0, 0)) ∧ Below B w w' := by
  have hl0 : l.length ≠ 0 := by simpa using h0
  have c1 : w.drew.cell? ⟨b, 1, none⟩ = some (.slice (some ⟨g, 0, none⟩) l.length cap) := by
    have : w.drew.heap[b]? = some (.cells #[p, .slice (some ⟨g, 0, none⟩) l.length cap] 144 (0, 0)) := hbk
    rw [Lib.cell_of_heap this]; rfl
  have hSD : (Builtin.unsafeSliceData_ #[100] 164 #[.slice (some ⟨g, 0, none⟩) l.length cap]).run Tryz.prog w.drew = .ok (.pointer (some ⟨g, 0, none⟩)) w.drew :=
    Lib.run_unsafeSliceData_row _ _ _ _ _ _ (by omega)
  have hUS : (Builtin.unsafeString_ #[164, 3] 9 #[.pointer (some ⟨g, 0, none⟩), .int .i64 l.length]).run Tryz.prog w.drew = .ok (.string ⟨l.toArray⟩) (w.drew.freeze ⟨g, 0, none⟩ l.length) := by
    refine Lib.run_unsafeString_row w.drew 164 3 9 5 underP5 cells5 g cur.size (by have hg' : w.drew.heap[g]? = some (.cells cur 5 (0, 0)) := hg; simp [World.shape?, hg']) l h0 (by omega) (by unfold maxLen at hcm; omega) ?_
    intro j x hx
    have hj : j < l.length := (List.getElem?_eq_some_iff.1 hx).1
    have hg' : w.drew.heap[g]? = some (.cells cur 5 (0, 0)) := hg
    rw [show (⟨g, 0, none⟩ : Addr).add j = ⟨g, j, none⟩ by unfold Addr.add; split <;> simp_all, Lib.cell_of_heap hg', ← Array.getElem?_toList]
    have h1 : (cur.toList.take (l.length * 1))[j]? = some (.int .u8 x.toNat) := by rw [htake]; simp [Lib.byteCells, hx]
    rwa [List.getElem?_take_of_lt (by omega)] at h1
  have HB : Hid ((w.drew.freeze ⟨g, 0, none⟩ l.length).heap[b]? = some (.cells #[p, .slice (some ⟨g, 0, none⟩) l.length cap] 144 (0, 0))) := (freeze_other _ ⟨g, 0, none⟩ _ b (fun e => hgb e.symm)).trans hbk
  have mixed : Tryz.prog.follows Departure.mixedOrders = true := by kernel_rfl
  go_enter Tryz.func101, Tryz.ntmps101
  go_wp2
  go_region_o
  all_goals (go_wp2; go_ret; exact ⟨rfl, HB.out, Lib.below_freeze (Below.drew (Below.refl B w)) (p := ⟨g, 0, none⟩) hbg _⟩)
set_option maxHeartbeats 2000000 in
set_option maxRecDepth 100000 in
theorem bstring_nil (b : Nat) (p : Value) (w : World) (hbk : w.heap[b]? = some (.cells #[p, .slice none 0 0] 144 (0, 0))) :
    Calls Tryz.prog 101 #[.pointer (some ⟨b, 0, none⟩)] w fun e w' => e = .returned (.string ⟨#[]⟩) ∧ w'.heap[b]? = w.heap[b]? ∧ Below w.heap.size w w' := by
  have hUS : ∀ (W : World) (q : Option Addr), (Builtin.unsafeString_ #[164, 3] 9 #[.pointer q, .int .i64 0]).run Tryz.prog W = .ok (.string .empty) W := fun W q => Lib.run_unsafeString_none W _ _ _ q
  have c1 : w.drew.cell? ⟨b, 1, none⟩ = some (.slice none 0 0) := by
    have : w.drew.heap[b]? = some (.cells #[p, .slice none 0 0] 144 (0, 0)) := hbk
    rw [Lib.cell_of_heap this]; rfl
  have hSD : (Builtin.unsafeSliceData_ #[100] 164 #[.slice none 0 0]).run Tryz.prog w.drew = .ok (.pointer none) w.drew := rfl
  have mixed : Tryz.prog.follows Departure.mixedOrders = true := by kernel_rfl
  go_enter Tryz.func101, Tryz.ntmps101
  go_wp2
  go_region_o
  all_goals (go_wp2; go_ret; exact ⟨rfl, rfl, Below.drew (Below.refl _ w)⟩)
set_option maxHeartbeats 400000 in
theorem all_any (B b : Nat) (l : List UInt8) (w : World) (hB : B ≤ w.heap.size) (h : Wr 144 B b l w) :
    Calls Tryz.prog 76 #[.pointer (some ⟨b, 0, none⟩)] w fun e w' => e = .returned (.string ⟨l.toArray⟩) ∧ (∃ p ao cap, w'.heap[b]? = some (.cells #[p, .slice ao l.length cap] 144 (0, 0))) ∧ Below B w w' := by
  have HS : Hid (Calls Tryz.prog 101 #[.pointer (some ⟨b, 0, none⟩)] w fun e w' => e = .returned (.string ⟨l.toArray⟩) ∧ (∃ p ao cap, w'.heap[b]? = some (.cells #[p, .slice ao l.length cap] 144 (0, 0))) ∧ Below B w w') := by
    obtain ⟨hBb, p, v, hp, hb, ho, hn, he⟩ := h
    by_cases h0 : l = []
    · have hv := he h0
      subst hv
      subst h0
      refine (bstring_nil b p w hb).mono fun e w' ⟨h1, h2, h3⟩ => ⟨h1, ⟨p, none, 0, by rw [h2]; exact hb⟩, h3.mono hB⟩
    · have hl0 : l.length ≠ 0 := by simpa using h0
      rcases ho.2 with ⟨_, hz⟩ | ⟨g, cap, cur, hv, hbg, hg, hnc, hcm, hcs, htake⟩
      · exact absurd hz hl0
      · subst hv
        have hgb : g ≠ b := fun e => hn (by rw [e]; rfl)
        exact (bstring_row B b g cap p cur l w h0 hbg hgb hb hg hnc hcm hcs htake).mono fun e w' ⟨h1, h2, h3⟩ => ⟨h1, ⟨p, _, cap, h2⟩, h3⟩
  go_enter Tryz.func76, Tryz.ntmps76
  go_wp2_with (go_at_call 101; refine HS.out.mono ?_; rintro e w1 ⟨rfl, h1, k1⟩)
  go_ret
  exact ⟨rfl, by assumption, by assumption⟩
end Go.Proofs.YtoineobjmllicaaGreatDoor
