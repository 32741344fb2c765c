/- Several texts in one: WireRd, WireDigit, WireReader, WireValue, WireRef, WireFnv, WireRefNum, WireNumber, WireRefDigits. -/
import Derived.Test.YtngikahadkoliaaGreatDoorWirePure
import Derived.WalkKit
import Derived.WalkSpells
import Derived.WalkLawsBesides
import Derived.Deep.QuietTactic
import Derived.Deep.RegionWith
import Derived.BigQuiet
import Derived.Deep.WholeRow
import Derived.Test.YtngikahadkoliaaGreatDoorRows
import Derived.Laws.ResultCell
import Derived.Test.YtngikahadkoliaaGreatDoorRunAA
import Derived.Laws.MakeOwn
/- A reader as it lies in memory, and what leaves all but one block alone; of no program. -/
namespace Go.Wire
open Go.RowKit
/-- What was there stands, but for the block b. -/
structure Kept (b : Nat) (w w' : World) : Prop where
  below : Below b w w'
  other : ∀ k, k ≠ b → k < w.heap.size → w'.heap[k]? = w.heap[k]?
theorem Kept.refl (b : Nat) (w : World) : Kept b w w := ⟨Below.refl _ _, fun _ _ _ => rfl⟩
theorem Kept.trans {b : Nat} {w w1 w2 : World} (h : Kept b w w1) (k : Kept b w1 w2) : Kept b w w2 :=
  ⟨h.below.trans k.below, fun j hj hl => (k.other j hj (Nat.lt_of_lt_of_le hl h.below.size)).trans (h.other j hj hl)⟩
theorem Kept.drewN {b : Nat} {w w1 : World} (h : Kept b w w1) (n : Nat) : Kept b w (w1.drewN n) := ⟨⟨h.below.os, h.below.tape, h.below.output, h.below.size, h.below.block⟩, h.other⟩
theorem Kept.drew {b : Nat} {w w1 : World} (h : Kept b w w1) : Kept b w w1.drew := ⟨h.below.drew, h.other⟩
theorem Kept.set {b : Nat} {w w1 : World} (h : Kept b w w1) (i : Nat) (v : Value) : Kept b w (w1.setCell ⟨b, i, none⟩ v) :=
  ⟨h.below.setCell (p := ⟨b, i, none⟩) (Nat.le_refl _) v, fun j hj hl => (Below.heap_setCell w1 ⟨b, i, none⟩ v j hj).trans (h.other j hj hl)⟩
theorem Kept.cell {b : Nat} {w w' : World} (h : Kept b w w') {p : Addr} (hp : p.block ≠ b) (hl : p.block < w.heap.size) : w'.cell? p = w.cell? p := World.cell?_of_block (w := w) (h.other p.block hp hl)
theorem Kept.frozen {b : Nat} {w w' : World} (h : Kept b w w') {p : Addr} (hp : p.block ≠ b) (hl : p.block < w.heap.size) : w'.frozen? p = w.frozen? p := World.frozen?_of_block (w := w) (h.other p.block hp hl)
theorem Kept.of_below {b : Nat} {w w' : World} (h : Below w.heap.size w w') (hb : b < w.heap.size) : Kept b w w' :=
  ⟨h.mono (Nat.le_of_lt hb), fun k _ hl => h.block k hl⟩
/-- Cells of a block that is new are set. -/
theorem Kept.setNew {b g : Nat} {w w' : World} (h : Kept b w w') (hb : b < w.heap.size) (hg : w.heap.size ≤ g) (i : Nat) (v : Value) : Kept b w (w'.setCell ⟨g, i, none⟩ v) :=
  ⟨h.below.setCell (p := ⟨g, i, none⟩) (Nat.le_trans (Nat.le_of_lt hb) hg) v, fun j hj hl => (Below.heap_setCell w' ⟨g, i, none⟩ v j (Nat.ne_of_lt (Nat.lt_of_lt_of_le hl hg))).trans (h.other j hj hl)⟩
theorem row_lt {w : World} {g : Nat} {o : Obj} (h : w.heap[g]? = some o) : g < w.heap.size := by
  rcases Nat.lt_or_ge g w.heap.size with x | x
  · exact x
  · rw [Array.getElem?_eq_none x] at h; cases h
/-- Block b is a reader. -/
def Rd (T b : Nat) (q : St) (w : World) : Prop := w.heap[b]? = some (.cells #[.string q.s, .int .i64 q.pos, .int .i64 q.err] T (0, 0))
theorem Rd.lt {T b : Nat} {q : St} {w : World} (h : Rd T b q w) : b < w.heap.size := by
  rcases Nat.lt_or_ge b w.heap.size with k | k
  · exact k
  · unfold Rd at h; rw [Array.getElem?_eq_none k] at h; cases h
theorem Rd.of_heap {T b : Nat} {q : St} {w w' : World} (h : Rd T b q w) (e : w'.heap[b]? = w.heap[b]?) : Rd T b q w' := by unfold Rd; rw [e]; exact h
theorem Rd.cells {T b : Nat} {q : St} {w : World} (h : Rd T b q w) : w.cell? ⟨b, 0, none⟩ = some (.string q.s) ∧ w.cell? ⟨b, 1, none⟩ = some (.int .i64 q.pos) ∧ w.cell? ⟨b, 2, none⟩ = some (.int .i64 q.err) ∧ w.frozen? ⟨b, 1, none⟩ = false ∧ w.frozen? ⟨b, 2, none⟩ = false :=
  ⟨cell_of_row _ _ _ _ _ _ h, cell_of_row _ _ _ _ _ _ h, cell_of_row _ _ _ _ _ _ h, frozen_of_row _ _ _ _ _ h, frozen_of_row _ _ _ _ _ h⟩
theorem Rd.setErr {T b : Nat} {q : St} {w : World} (h : Rd T b q w) (e : Int) : Rd T b ⟨q.s, q.pos, e⟩ (w.setCell ⟨b, 2, none⟩ (.int .i64 e)) := by
  unfold Rd; rw [heap_setCell_same _ _ _ _ _ _ h]; rfl
theorem Rd.setPos {T b : Nat} {q : St} {w : World} (h : Rd T b q w) (p : Nat) : Rd T b ⟨q.s, p, q.err⟩ (w.setCell ⟨b, 1, none⟩ (.int .i64 p)) := by
  unfold Rd; rw [heap_setCell_same _ _ _ _ _ _ h]; rfl
theorem lit_ne {x : ByteArray} {a : Array UInt8} {l : List UInt8} (ha : a.toList = l) (h : x ≠ ⟨a⟩) : (x.toList == l) = false := by
  rw [beq_eq_false_iff_ne]
  intro e
  apply h
  rw [ByteArray.toList_eq, ← ha] at e
  exact ByteArray.ext (Array.toList_inj.1 e)
theorem lit_eq (x y : ByteArray) : (x.toList == y.toList) = decide (x = y) := by
  by_cases h : x = y
  · subst h; simp
  · rw [decide_eq_false h, beq_eq_false_iff_ne]
    intro e
    apply h
    rw [ByteArray.toList_eq, ByteArray.toList_eq] at e
    exact ByteArray.ext (Array.toList_inj.1 e)
end Go.Wire
/- Contracts of a digit. -/
namespace Go.Wire
theorem take_snoc (s : ByteArray) (k : Nat) (h : k < s.size) : s.data.toList.take (k + 1) = s.data.toList.take k ++ [s[k]] := by
  rw [List.take_succ_eq_append_getElem (by simpa using h)]; rfl
theorem take_all (s : ByteArray) (k : Nat) (h : ¬ k < s.size) : s.data.toList.take k = s.data.toList :=
  List.take_of_length_le (by simp only [Array.length_toList]; exact Nat.le_of_not_lt h)
theorem take_drop (s : ByteArray) (k : Nat) (h : k < s.size) : s.data.toList = s.data.toList.take k ++ s[k] :: s.data.toList.drop (k + 1) := by
  have h2 : k < s.data.toList.length := by simpa using h
  rw [show s[k] = s.data.toList[k] from rfl, List.getElem_cons_drop, List.take_append_drop]
end Go.Wire
namespace Go.Proofs.YtngikahadkoliaaGreatDoor
open Go.RowKit Go.Wire
end Go.Proofs.YtngikahadkoliaaGreatDoor
/- Contracts of the small calls of the program's reader. -/
namespace Go.Proofs.YtngikahadkoliaaGreatDoor
open Go.RowKit Go.Wire
end Go.Proofs.YtngikahadkoliaaGreatDoor
/- Contracts of the numbers that digits are: the program's, and the document's reader's. -/
namespace Go.Wire
theorem pow16 {k : Nat} (h : k ≤ 15) : 16 ^ k ≤ 1152921504606846976 := by
  have := Nat.pow_le_pow_right (n := 16) (by decide) h
  exact this
theorem val_take_lt (s : ByteArray) (k m : Nat) (hs : s.size ≤ 16) (hk : k < s.size) (h : val (s.data.toList.take k) = some m) : m < 1152921504606846976 := by
  have h1 := val_lt _ _ h
  have h2 : (s.data.toList.take k).length ≤ 15 := by rw [List.length_take]; omega
  exact Nat.lt_of_lt_of_le h1 (pow16 h2)
theorem val_step (s : ByteArray) (k m d : Nat) (hk : k < s.size) (h : val (s.data.toList.take k) = some m) (hd : dig s[k] = some d) : val (s.data.toList.take (k + 1)) = some (m * 16 + d) := by
  rw [take_snoc s k hk, val_snoc, h]; simp [vstep, hd]
theorem val_stop (s : ByteArray) (k : Nat) (hk : k < s.size) (hd : dig s[k] = none) : val s.data.toList = none := by
  rw [take_drop s k hk]; exact val_none hd
end Go.Wire
namespace Go.Proofs.YtngikahadkoliaaGreatDoor
open Go.RowKit Go.Wire
end Go.Proofs.YtngikahadkoliaaGreatDoor
/- Contracts of the document's reader: a value, and the reader behind each call. -/
namespace Go.Wire
open Go.RowKit
/-- A reader as a value. -/
def St.v (q : St) : Value := .agg #[.string q.s, .int .i64 q.pos, .int .i64 q.err]
theorem results_cell2_row {P : Program} {fn : Func} {p u : Tmp} {ty : TypeId} (h : fn.results = #[.cell p ty, .tmp u]) (tmps : Array Value) (w : World) (g : Nat) (t : TypeId) (cs : Array Value) (fr : Nat × Nat) (d : TypeDesc)
    (hp : tmps.getD p undef = .pointer (some ⟨g, 0, none⟩)) (hg : w.heap[g]? = some (.cells cs t fr))
    (hu : P.underlying ty = some d) (hd : (match d with | .struct _ | .array _ _ => true | _ => false) = true) (hi : (P.info? ty).map (·.size) = some cs.size) :
    (results fn tmps).run P w = .ok (.tuple #[.agg cs, tmps.getD u undef]) w := by
  rw [results_cell_tmp h, hp]
  simp [asAddr, Result.andThen, run_loadVar_row w g t ty cs fr d hg hu hd hi]
theorem cells3 {w : World} {g : Nat} {a b c : Value} {T : TypeId} (h : w.heap[g]? = some (.cells #[a, b, c] T (0, 0))) :
    w.cell? ⟨g, 0, none⟩ = some a ∧ w.cell? ⟨g, 1, none⟩ = some b ∧ w.cell? ⟨g, 2, none⟩ = some c ∧ w.frozen? ⟨g, 0, none⟩ = false ∧ w.frozen? ⟨g, 1, none⟩ = false ∧ w.frozen? ⟨g, 2, none⟩ = false :=
  ⟨cell_of_row _ _ _ _ _ _ h, cell_of_row _ _ _ _ _ _ h, cell_of_row _ _ _ _ _ _ h, frozen_of_row _ _ _ _ _ h, frozen_of_row _ _ _ _ _ h, frozen_of_row _ _ _ _ _ h⟩
theorem set3 {w : World} {g : Nat} {a b c : Value} {T : TypeId} (h : w.heap[g]? = some (.cells #[a, b, c] T (0, 0))) (x y z : Value) :
    (((w.setCell ⟨g, 0, none⟩ x).setCell ⟨g, 1, none⟩ y).setCell ⟨g, 2, none⟩ z).heap[g]? = some (.cells #[x, y, z] T (0, 0)) := by
  have h1 : (w.setCell ⟨g, 0, none⟩ x).heap[g]? = some (.cells #[x, b, c] T (0, 0)) := by rw [heap_setCell_same _ _ _ _ _ _ h]; rfl
  have h2 : ((w.setCell ⟨g, 0, none⟩ x).setCell ⟨g, 1, none⟩ y).heap[g]? = some (.cells #[x, y, c] T (0, 0)) := by rw [heap_setCell_same _ _ _ _ _ _ h1]; rfl
  rw [heap_setCell_same _ _ _ _ _ _ h2]; rfl
theorem below3 {B g : Nat} {w w1 : World} (h : Below B w w1) (hg : B ≤ g) (x y z : Value) : Below B w (((w1.setCell ⟨g, 0, none⟩ x).setCell ⟨g, 1, none⟩ y).setCell ⟨g, 2, none⟩ z) :=
  ((h.setCell (p := ⟨g, 0, none⟩) hg x).setCell (p := ⟨g, 1, none⟩) hg y).setCell (p := ⟨g, 2, none⟩) hg z
theorem kept_block {w w1 : World} {g : Nat} {o : Obj} (h : w.heap[g]? = some o) (k : Below w.heap.size w w1) : w1.heap[g]? = some o :=
  (k.block g (by
    rcases Nat.lt_or_ge g w.heap.size with x | x
    · exact x
    · rw [Array.getElem?_eq_none x] at h; cases h)).trans h
theorem kept_alloc {w : World} {g : Nat} {o : Obj} (h : w.heap[g]? = some o) (C : Obj) : (w.alloc C).heap[g]? = some o :=
  kept_block h ((Below.refl _ _).alloc (Nat.le_refl _) C)
/-- What two new blocks are behind a call. -/
theorem two_below {w w1 : World} {A B : Obj} (k : Below ((w.alloc A).alloc B).heap.size ((w.alloc A).alloc B) w1) : w1.heap[w.heap.size]? = some A ∧ w1.heap[w.heap.size + 1]? = some B ∧ Below w.heap.size w w1 := by
  have hz : ((w.alloc A).alloc B).heap.size = w.heap.size + 2 := by simp
  refine ⟨(k.block _ (by omega)).trans (heap_alloc2_old _ _ _), (k.block _ (by omega)).trans (heap_alloc2_new _ _ _), ?_⟩
  exact (((Below.refl w.heap.size w).alloc (Nat.le_refl _) A).alloc (by simp) B).trans (k.mono (by omega))
end Go.Wire
namespace Go.Proofs.YtngikahadkoliaaGreatDoor
open Go.RowKit Go.Wire
end Go.Proofs.YtngikahadkoliaaGreatDoor
/- Contracts of the check of bytes, and of the value of a letter. -/
namespace Go.Wire
theorem fnv_u32 (s : ByteArray) (k : Nat) (h : k < s.size) : bits .xor .u32 (fnv (s.data.toList.take k) : Int) ((s[k].toNat : Nat) : Int) * 16777619 % 4294967296 = (fnv (s.data.toList.take (k + 1)) : Int) := by
  rw [take_snoc s k h, fnv_snoc, xor_u32 _ _ (fnv_lt _), step]
  simp
theorem fnv_u64 (s : ByteArray) (k : Nat) (h : k < s.size) : bits .xor .u64 (fnv (s.data.toList.take k) : Int) ((s[k].toNat : Nat) : Int) * 16777619 % 18446744073709551616 % 4294967296 = (fnv (s.data.toList.take (k + 1)) : Int) := by
  rw [take_snoc s k h, fnv_snoc, xor_u64 _ _ (fnv_lt _), step]
  have := xor_lt _ s[k] (fnv_lt (s.data.toList.take k))
  generalize fnv (s.data.toList.take k) ^^^ s[k].toNat = x at this
  omega
theorem byte_mod (c : UInt8) (m : Int) (h : 256 ≤ m) : ((c.toNat : Nat) : Int) % m = ((c.toNat : Nat) : Int) :=
  Int.emod_eq_of_lt (by omega) (by have := c.toNat_lt; omega)
end Go.Wire
namespace Go.Proofs.YtngikahadkoliaaGreatDoor
open Go.RowKit Go.Wire
end Go.Proofs.YtngikahadkoliaaGreatDoor
/- The contract of the document's reader's numbers. -/
namespace Go.Proofs.YtngikahadkoliaaGreatDoor
open Go.RowKit Go.Wire
end Go.Proofs.YtngikahadkoliaaGreatDoor
/- The contract of a number's digits. -/
namespace Go.ByteRow
open Go.RowKit Go.Sha
/-- A row of noughts that a call has made. -/
theorem Has.made {base : Nat} {w : World} (hb : base ≤ w.heap.size) (m : Nat) (e : TypeId) : Has base (w.alloc (.cells (madeCells #[Value.int .u8 0] m) e)) (.slice (some ⟨w.heap.size, 0, none⟩) m m) (List.replicate m 0) := by
  have hc : madeCells #[Value.int .u8 0] m = ((List.replicate m (0 : UInt8)).map byteV).toArray := by
    apply Array.ext_getElem?
    intro i
    by_cases h : i < m
    · simp [madeCells, byteV, h, Nat.mod_one]
    · simp [madeCells, h]
  rw [hc]
  have hh := heap_alloc_new w (.cells ((List.replicate m (0 : UInt8)).map byteV).toArray e (0, 0))
  refine .inr ⟨w.heap.size, m, by simp, hb, by simp, by simp, fun j c hj => ?_, fun j hj => ?_⟩
  · rw [cell_of_row _ _ _ _ _ _ hh, List.getElem?_toArray, List.getElem?_map, hj]; rfl
  · exact ⟨by rw [cell_of_row _ _ _ _ _ _ hh, List.getElem?_toArray, List.getElem?_map, List.getElem?_replicate, if_pos hj]; rfl, frozen_of_row _ _ _ _ _ hh⟩
theorem Has.set {base g n cap m : Nat} {w : World} {l : List UInt8} {d : UInt8} (h : Has base w (.slice (some ⟨g, 0, none⟩) n cap) l) (hm : m < l.length) : Has base (w.setCell ⟨g, m, none⟩ (.int .u8 d.toNat)) (.slice (some ⟨g, 0, none⟩) n cap) (l.set m d) := by
  rcases h with ⟨h, _⟩ | ⟨g', cap', h1, h2, h3, h4, h5, h6⟩
  · cases h
  · simp only [Value.slice.injEq, Option.some.injEq, Addr.mk.injEq] at h1
    obtain ⟨⟨rfl, -, -⟩, hn, rfl⟩ := h1
    refine .inr ⟨g, cap, by simp [hn], h2, by simpa [World.setCell] using h3, by rw [List.length_set]; exact h4, fun j c hj => ?_, fun j hj => ?_⟩
    · by_cases e : j = m
      · subst e
        rw [List.getElem?_set_self hm] at hj
        cases hj
        obtain ⟨u, hu⟩ := Option.isSome_iff_exists.1 (h6 j (by omega)).1
        exact World.cell?_setCell_same w _ _ hu
      · rw [List.getElem?_set_ne (fun e2 => e e2.symm)] at hj
        rw [World.cell?_setCell_other w _ _ _ (by intro e2; simp only [Addr.mk.injEq, true_and, and_true] at e2; exact e e2.symm)]
        exact h5 j c hj
    · refine ⟨?_, by rw [World.frozen?_setCell]; exact (h6 j hj).2⟩
      obtain ⟨u, hu⟩ := Option.isSome_iff_exists.1 (h6 j hj).1
      obtain ⟨u', hu'⟩ := cell?_setCell_some (p := ⟨g, m, none⟩) (x := .int .u8 d.toNat) hu
      rw [hu']; rfl
theorem Has.cell {base g n cap m : Nat} {w : World} {l : List UInt8} {d : UInt8} (h : Has base w (.slice (some ⟨g, 0, none⟩) n cap) l) (hm : l[m]? = some d) : w.cell? ⟨g, m, none⟩ = some (.int .u8 d.toNat) ∧ w.frozen? ⟨g, m, none⟩ = false ∧ base ≤ g := by
  have hl := (List.getElem?_eq_some_iff.1 hm).1
  rcases h with ⟨h, _⟩ | ⟨g', cap', h1, h2, h3, h4, h5, h6⟩
  · cases h
  · simp only [Value.slice.injEq, Option.some.injEq, Addr.mk.injEq] at h1
    obtain ⟨⟨rfl, -, -⟩, hn, rfl⟩ := h1
    exact ⟨h5 m d hm, (h6 m (by omega)).2, h2⟩
end Go.ByteRow
namespace Go.Wire
theorem digits_at (d : Nat) (h : d < 16) : (⟨#[48, 49, 50, 51, 52, 53, 54, 55, 56, 57, 97, 98, 99, 100, 101, 102]⟩ : ByteArray)[d]'h = hexd d := by
  have key : ∀ d, (h : d < 16) → (⟨#[48, 49, 50, 51, 52, 53, 54, 55, 56, 57, 97, 98, 99, 100, 101, 102]⟩ : ByteArray)[d]'h = hexd d := by decide
  exact key d h
theorem num_round {m n i N : Nat} {l : List UInt8} (hil : i < l.length) (hp : num (i + 1) N ++ l.drop (i + 1) = num m n) : num i (N / 16) ++ (l.set i (hexd (N % 16))).drop i = num m n := by
  have h1 : (l.set i (hexd (N % 16))).drop i = hexd (N % 16) :: l.drop (i + 1) := by
    rw [List.drop_eq_getElem_cons (by rw [List.length_set]; exact hil), List.getElem_set_self, List.drop_set_of_lt (Nat.lt_succ_self i)]
  rw [h1, ← hp, num, List.append_assoc]
  rfl
end Go.Wire
namespace Go.Proofs.YtngikahadkoliaaGreatDoor
open Go.RowKit Go.Wire
theorem info5 : (Tryz.prog.info? 5).map (fun i => (i.zero, i.size, i.bytes)) = some (some (.int .u8 0), 1, 1) := by kernel_rfl
theorem underB : Tryz.prog.underlying 65 = some (.slice 5) := by kernel_rfl
theorem under5 : Tryz.prog.underlying 5 = some (.int .u8) := by kernel_rfl
theorem under9 : Tryz.prog.underlying 9 = some .string := by kernel_rfl
theorem make_bytes (m : Nat) (L : Int) (hL : L = m) (hm : m ≤ 1000) (w : World) :
    (Instr.makeSlice 65 (.int .i64 L) (.int .i64 L)).run Tryz.prog w = .ok (.slice (some ⟨w.heap.size, 0, none⟩) m m) (w.alloc (.cells (madeCells #[Value.int .u8 0] m) 5)) := by
  obtain ⟨i0, hi, hz0, hz1, hz2⟩ := info_parts info5
  subst hL
  have := run_make (P := Tryz.prog) w 65 5 i0 (.int .u8 0) underB hi hz0 .i64 .i64 m m (by omega) (by omega) (by rw [hz2]; omega) (by omega)
  rw [hz1, Int.toNat_natCast, Nat.mul_one] at this
  exact this
end Go.Proofs.YtngikahadkoliaaGreatDoor
/- Contracts of a digit's letter and a number's digits, as the document has them. -/
namespace Go.Proofs.YtngikahadkoliaaGreatDoor
open Go.RowKit Go.Wire
theorem size_one (c : UInt8) (t : ByteArray) : ((⟨#[c]⟩ : ByteArray) ++ t).size = t.size + 1 := by
  rw [ByteArray.size_append, Nat.add_comm]; rfl
theorem num_rround {m n j N : Nat} {t : ByteArray} (hj : j < m) (hp : num (m - j) N ++ t.data.toList = num m n) : num (m - (j + 1)) (N / 16) ++ ((⟨#[hexd (N % 16)]⟩ : ByteArray) ++ t).data.toList = num m n := by
  obtain ⟨i, hi⟩ : ∃ i, m - j = i + 1 := ⟨m - j - 1, by omega⟩
  rw [← hp, hi, show m - (j + 1) = i by omega, num, List.append_assoc]
  simp
end Go.Proofs.YtngikahadkoliaaGreatDoor
