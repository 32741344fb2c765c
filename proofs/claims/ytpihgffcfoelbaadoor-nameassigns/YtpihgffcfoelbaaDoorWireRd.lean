/- A reader as it lies in memory, and what leaves all but one block alone; of no program. -/
import Derived.Test.YtpihgffcfoelbaaDoorWireMath
import Derived.WalkKit
import Derived.WalkSpells
import Derived.WalkLawsBesides
import Derived.Deep.QuietTactic
import Derived.Deep.RegionWith
import Derived.BigQuiet
import Derived.Deep.WholeRow
namespace Go.Wire
open Go.RowKit
/-- What was there stands, but for the block b. -/
structure Kept (b : Nat) (w w' : World) : Prop where
  below : Below b w w'
  other : ∀ k, k ≠ b → k < w.heap.size → w'.heap[k]? = w.heap[k]?
theorem Kept.refl (b : Nat) (w : World) : Kept b w w := ⟨Below.refl _ _, fun _ _ _ => rfl⟩
theorem Kept.trans {b : Nat} {w w1 w2 : World} (h : Kept b w w1) (k : Kept b w1 w2) : Kept b w w2 :=
  ⟨h.below.trans k.below, fun j hj hl => (k.other j hj (Nat.lt_of_lt_of_le hl h.below.size)).trans (h.other j hj hl)⟩
theorem Kept.drewN {b : Nat} {w w1 : World} (h : Kept b w w1) (n : Nat) : Kept b w (w1.drewN n) := ⟨⟨h.below.os, h.below.tape, h.below.output, h.below.size, h.below.block⟩, h.other⟩
theorem Kept.drew {b : Nat} {w w1 : World} (h : Kept b w w1) : Kept b w w1.drew := ⟨h.below.drew, h.other⟩
theorem Kept.set {b : Nat} {w w1 : World} (h : Kept b w w1) (i : Nat) (v : Value) : Kept b w (w1.setCell ⟨b, i, none⟩ v) :=
  ⟨h.below.setCell (p := ⟨b, i, none⟩) (Nat.le_refl _) v, fun j hj hl => (Below.heap_setCell w1 ⟨b, i, none⟩ v j hj).trans (h.other j hj hl)⟩
theorem Kept.cell {b : Nat} {w w' : World} (h : Kept b w w') {p : Addr} (hp : p.block ≠ b) (hl : p.block < w.heap.size) : w'.cell? p = w.cell? p := World.cell?_of_block (w := w) (h.other p.block hp hl)
theorem Kept.frozen {b : Nat} {w w' : World} (h : Kept b w w') {p : Addr} (hp : p.block ≠ b) (hl : p.block < w.heap.size) : w'.frozen? p = w.frozen? p := World.frozen?_of_block (w := w) (h.other p.block hp hl)
theorem Kept.of_below {b : Nat} {w w' : World} (h : Below w.heap.size w w') (hb : b < w.heap.size) : Kept b w w' :=
  ⟨h.mono (Nat.le_of_lt hb), fun k _ hl => h.block k hl⟩
/-- Cells of a block that is new are set. -/
theorem Kept.setNew {b g : Nat} {w w' : World} (h : Kept b w w') (hb : b < w.heap.size) (hg : w.heap.size ≤ g) (i : Nat) (v : Value) : Kept b w (w'.setCell ⟨g, i, none⟩ v) :=
  ⟨h.below.setCell (p := ⟨g, i, none⟩) (Nat.le_trans (Nat.le_of_lt hb) hg) v, fun j hj hl => (Below.heap_setCell w' ⟨g, i, none⟩ v j (Nat.ne_of_lt (Nat.lt_of_lt_of_le hl hg))).trans (h.other j hj hl)⟩
theorem row_lt {w : World} {g : Nat} {o : Obj} (h : w.heap[g]? = some o) : g < w.heap.size := by
  rcases Nat.lt_or_ge g w.heap.size with x | x
  · exact x
  · rw [Array.getElem?_eq_none x] at h; cases h
/-- Block b is a reader. -/
def Rd (T b : Nat) (q : St) (w : World) : Prop := w.heap[b]? = some (.cells #[.string q.s, .int .i64 q.pos, .int .i64 q.err] T (0, 0))
theorem Rd.lt {T b : Nat} {q : St} {w : World} (h : Rd T b q w) : b < w.heap.size := by
  rcases Nat.lt_or_ge b w.heap.size with k | k
  · exact k
  · unfold Rd at h; rw [Array.getElem?_eq_none k] at h; cases h
theorem Rd.of_heap {T b : Nat} {q : St} {w w' : World} (h : Rd T b q w) (e : w'.heap[b]? = w.heap[b]?) : Rd T b q w' := by unfold Rd; rw [e]; exact h
theorem Rd.cells {T b : Nat} {q : St} {w : World} (h : Rd T b q w) : w.cell? ⟨b, 0, none⟩ = some (.string q.s) ∧ w.cell? ⟨b, 1, none⟩ = some (.int .i64 q.pos) ∧ w.cell? ⟨b, 2, none⟩ = some (.int .i64 q.err) ∧ w.frozen? ⟨b, 1, none⟩ = false ∧ w.frozen? ⟨b, 2, none⟩ = false :=
  ⟨cell_of_row _ _ _ _ _ _ h, cell_of_row _ _ _ _ _ _ h, cell_of_row _ _ _ _ _ _ h, frozen_of_row _ _ _ _ _ h, frozen_of_row _ _ _ _ _ h⟩
theorem Rd.setErr {T b : Nat} {q : St} {w : World} (h : Rd T b q w) (e : Int) : Rd T b ⟨q.s, q.pos, e⟩ (w.setCell ⟨b, 2, none⟩ (.int .i64 e)) := by
  unfold Rd; rw [heap_setCell_same _ _ _ _ _ _ h]; rfl
theorem Rd.setPos {T b : Nat} {q : St} {w : World} (h : Rd T b q w) (p : Nat) : Rd T b ⟨q.s, p, q.err⟩ (w.setCell ⟨b, 1, none⟩ (.int .i64 p)) := by
  unfold Rd; rw [heap_setCell_same _ _ _ _ _ _ h]; rfl
theorem lit_ne {x : ByteArray} {a : Array UInt8} {l : List UInt8} (ha : a.toList = l) (h : x ≠ ⟨a⟩) : (x.toList == l) = false := by
  rw [beq_eq_false_iff_ne]
  intro e
  apply h
  rw [ByteArray.toList_eq, ← ha] at e
  exact ByteArray.ext (Array.toList_inj.1 e)
theorem lit_eq (x y : ByteArray) : (x.toList == y.toList) = decide (x = y) := by
  by_cases h : x = y
  · subst h; simp
  · rw [decide_eq_false h, beq_eq_false_iff_ne]
    intro e
    apply h
    rw [ByteArray.toList_eq, ByteArray.toList_eq] at e
    exact ByteArray.ext (Array.toList_inj.1 e)
end Go.Wire
