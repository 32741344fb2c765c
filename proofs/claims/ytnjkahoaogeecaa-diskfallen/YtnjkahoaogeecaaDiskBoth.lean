/- A disk of the program's and the document's, side by side; texts that are not too long; both at their beginning. -/
import Derived.Test.YtnjkahoaogeecaaDiskRefSync
import Derived.Test.YtnjkahoaogeecaaDiskOpen
namespace Go.Dk
open Go.RowKit
theorem rowTag_no (k : Nat) : ¬ (rowTag k = 74 ∨ rowTag k = 34 ∨ rowTag k = 82 ∨ rowTag k = 101 ∨ rowTag k = 5) := by
  unfold rowTag
  split
  · decide
  · split <;> decide
theorem tag_some {w : World} {b : Nat} {t : TypeId} (h : tag w b = some t) : ∃ cs fr, w.heap[b]? = some (.cells cs t fr) := by
  unfold tag at h
  split at h
  · rename_i cs u fr hx
    cases h
    exact ⟨cs, fr, hx⟩
  · cases h
/-- The document's disk stands when the program's turns. -/
theorem RefAt.dsk {K base : Nat} {w w' : World} {D : RD} (h : RefAt K w D) (hk : Dsk base w w') : RefAt K w' D :=
  h.kept hk.size fun b k ht => by
    obtain ⟨cs, fr, hb⟩ := tag_some ht
    rw [hb]
    exact box_kept hk hb (rowTag_no k)
theorem rowTag_ne29 (k : Nat) : rowTag k ≠ 29 := by
  unfold rowTag
  split
  · decide
  · split <;> decide
structure Both (P : Program) (base K d : Nat) (w : World) (S : WD) (D : RD) : Prop where
  disk : DiskAt P base K d w S
  ref : RefAt K w D
  same : S.a = D.a
  start : base ≤ w.heap.size
  room : D.a.room ≤ 9223372036854775807
theorem Both.below {P : Program} {base K d : Nat} {w w' : World} {S : WD} {D : RD} (h : Both P base K d w S D) (hb : Below w.heap.size w w') : Both P base K d w' S D :=
  ⟨h.disk.below hb, h.ref.below hb, h.same, Nat.le_trans h.start hb.size, h.room⟩
def sideCs (d : Nat) (D : RD) : Array Value := #[.pointer (some ⟨d, 0, none⟩), D.fv, .int .i64 D.a.room, D.lv, .int .i64 D.a.changes, .bool D.a.down]
def sideV (d : Nat) (D : RD) : Value := .agg (sideCs d D)
def few60 (s : ByteArray) : ByteArray := if 60 < s.size then s.extract 0 60 else s
theorem few60_size (s : ByteArray) : (few60 s).size ≤ 60 := by
  unfold few60
  split
  · simp [ByteArray.size_extract]; omega
  · omega
theorem cells6s {w : World} {g : Nat} {a b c d e f : Value} {T : TypeId} (h : w.heap[g]? = some (.cells #[a, b, c, d, e, f] T (0, 0))) :
    w.cell? ⟨g, 0, none⟩ = some a ∧ w.cell? ⟨g, 1, none⟩ = some b ∧ w.cell? ⟨g, 2, none⟩ = some c ∧ w.cell? ⟨g, 3, none⟩ = some d ∧ w.cell? ⟨g, 4, none⟩ = some e ∧ w.cell? ⟨g, 5, none⟩ = some f :=
  ⟨cell_of_row _ _ _ _ _ _ h, cell_of_row _ _ _ _ _ _ h, cell_of_row _ _ _ _ _ _ h, cell_of_row _ _ _ _ _ _ h, cell_of_row _ _ _ _ _ _ h, cell_of_row _ _ _ _ _ _ h⟩
theorem frozen6s {w : World} {g : Nat} {cs : Array Value} {T : TypeId} (h : w.heap[g]? = some (.cells cs T (0, 0))) :
    w.frozen? ⟨g, 0, none⟩ = false ∧ w.frozen? ⟨g, 1, none⟩ = false ∧ w.frozen? ⟨g, 2, none⟩ = false ∧ w.frozen? ⟨g, 3, none⟩ = false ∧ w.frozen? ⟨g, 4, none⟩ = false ∧ w.frozen? ⟨g, 5, none⟩ = false :=
  ⟨frozen_of_row _ _ _ _ _ h, frozen_of_row _ _ _ _ _ h, frozen_of_row _ _ _ _ _ h, frozen_of_row _ _ _ _ _ h, frozen_of_row _ _ _ _ _ h, frozen_of_row _ _ _ _ _ h⟩
/-- The five cells of the document's disk in a side's block. -/
abbrev put5 (w : World) (g : Nat) (x y z u v : Value) : World := ((((w.setCell ⟨g, 1, none⟩ x).setCell ⟨g, 2, none⟩ y).setCell ⟨g, 3, none⟩ z).setCell ⟨g, 4, none⟩ u).setCell ⟨g, 5, none⟩ v
theorem put5_row {w : World} {g : Nat} {a b c d e f : Value} {T : TypeId} (h : w.heap[g]? = some (.cells #[a, b, c, d, e, f] T (0, 0))) (x y z u v : Value) :
    (put5 w g x y z u v).heap[g]? = some (.cells #[a, x, y, z, u, v] T (0, 0)) := by
  have h1 : (w.setCell ⟨g, 1, none⟩ x).heap[g]? = some (.cells #[a, x, c, d, e, f] T (0, 0)) := by rw [heap_setCell_same _ _ _ _ _ _ h]; rfl
  have h2 : ((w.setCell ⟨g, 1, none⟩ x).setCell ⟨g, 2, none⟩ y).heap[g]? = some (.cells #[a, x, y, d, e, f] T (0, 0)) := by rw [heap_setCell_same _ _ _ _ _ _ h1]; rfl
  have h3 : (((w.setCell ⟨g, 1, none⟩ x).setCell ⟨g, 2, none⟩ y).setCell ⟨g, 3, none⟩ z).heap[g]? = some (.cells #[a, x, y, z, e, f] T (0, 0)) := by rw [heap_setCell_same _ _ _ _ _ _ h2]; rfl
  have h4 : ((((w.setCell ⟨g, 1, none⟩ x).setCell ⟨g, 2, none⟩ y).setCell ⟨g, 3, none⟩ z).setCell ⟨g, 4, none⟩ u).heap[g]? = some (.cells #[a, x, y, z, u, f] T (0, 0)) := by rw [heap_setCell_same _ _ _ _ _ _ h3]; rfl
  unfold put5
  rw [heap_setCell_same _ _ _ _ _ _ h4]; rfl
theorem set6 {w : World} {g : Nat} {a b c d e f : Value} {T : TypeId} (h : w.heap[g]? = some (.cells #[a, b, c, d, e, f] T (0, 0))) (p x y z u v : Value) :
    (put5 (w.setCell ⟨g, 0, none⟩ p) g x y z u v).heap[g]? = some (.cells #[p, x, y, z, u, v] T (0, 0)) :=
  put5_row (by rw [heap_setCell_same _ _ _ _ _ _ h]; rfl) x y z u v
/-- A block of a side's kind turns. -/
theorem Both.turned {P : Program} {base K d : Nat} {w w' : World} {S : WD} {D : RD} (h : Both P base K d w S D) {g : Nat} {cs : Array Value} (hg : w.heap[g]? = some (.cells cs 29 (0, 0))) (t : Tch (· = g) w w') : Both P base K d w' S D := by
  refine ⟨h.disk.other t fun b hb => ?_, h.ref.kept t.size fun b k ht => ?_, h.same, Nat.le_trans h.start t.size, h.room⟩
  · rintro ⟨_, o, ho, hk⟩
    rw [hb, hg] at ho
    cases ho
    simp [dkind] at hk
  · obtain ⟨cs', fr, hb⟩ := tag_some ht
    refine t.block b (block_lt hb) fun e => ?_
    rw [e, tag_of hg] at ht
    exact rowTag_ne29 k (Option.some.inj ht).symm
theorem tch_set (w : World) (g j : Nat) (v : Value) : Tch (· = g) w (w.setCell ⟨g, j, none⟩ v) :=
  ⟨rfl, rfl, rfl, by simp [World.setCell], fun b _ hb => by
    simp only [World.setCell, Array.getElem?_modify]
    rw [if_neg (fun e => hb e.symm)]⟩
theorem tch_put5 (w : World) (g : Nat) (x y z u v : Value) : Tch (· = g) w (put5 w g x y z u v) :=
  (((((tch_set w g 1 x).trans (tch_set _ g 2 y) (fun _ h => h) (fun _ _ h => h)).trans (tch_set _ g 3 z) (fun _ h => h) (fun _ _ h => h)).trans (tch_set _ g 4 u) (fun _ h => h) (fun _ _ h => h)).trans (tch_set _ g 5 v) (fun _ h => h) (fun _ _ h => h))
theorem tch_set6 (w : World) (g : Nat) (p x y z u v : Value) : Tch (· = g) w (put5 (w.setCell ⟨g, 0, none⟩ p) g x y z u v) :=
  (tch_set w g 0 p).trans (tch_put5 _ g x y z u v) (fun _ h => h) (fun _ _ h => h)
/-- A block of one's own turns. -/
theorem Dsk.own {base : Nat} {w W W' : World} (h : Dsk base w W) {g : Nat} (hg : w.heap.size ≤ g) (t : Tch (· = g) W W') : Dsk base w W' :=
  ⟨t.os.trans h.os, t.tape.trans h.tape, t.output.trans h.output, Nat.le_trans h.size t.size, fun b hb hx => (t.block b (Nat.lt_of_lt_of_le hb h.size) (by omega)).trans (h.block b hb hx)⟩
theorem tch_kept {w w' : World} {g k : Nat} {o : Obj} (h : w.heap[k]? = some o) (t : Tch (· = g) w w') (hne : k ≠ g) : w'.heap[k]? = some o := (t.block k (block_lt h) hne).trans h
end Go.Dk
namespace Go.Proofs.Ytnjkahoaogeecaa
open Go.RowKit Go.Dk
theorem infoSide : (Try.prog.info? 29).map (·.size) = some 6 := by kernel_rfl
set_option maxHeartbeats 400000 in
theorem few_any (s : ByteArray) (w : World) (hs : s.size ≤ maxLen) : Calls Try.prog 53 #[.string s] w fun e w' => e = .returned (.string (few60 s)) ∧ w' = w := by
  unfold maxLen at hs
  by_cases h : 60 < s.size
  · have HE : Hid (few60 s = s.extract 0 60) := by unfold few60; rw [Hid, if_pos h]
    go_enter Try.func53, Try.ntmps53
    go_wp2
    go_ret
    exact ⟨by rw [HE.out]; rfl, rfl⟩
  · have HE : Hid (few60 s = s) := by unfold few60; rw [Hid, if_neg h]
    go_enter Try.func53, Try.ntmps53
    go_wp2
    go_ret
    exact ⟨by rw [HE.out]; rfl, rfl⟩
set_option maxHeartbeats 400000 in
theorem fresh_any (w : World) : Calls Try.prog 8 #[] w fun e w' => ∃ d S D, e = .returned (sideV d D) ∧ Both Try.prog w.heap.size 0 d w' S D ∧ D.a = ⟨[], -1, none, 0, false⟩ ∧ Below w.heap.size w w' := by
  go_enter Try.func8, Try.ntmps8
  go_wp2_with (go_at_call 31; refine (new_any _).mono ?_; rintro e w1 ⟨rfl, hr, k1⟩; have x0 := row_kept (heap_alloc_new w (.cells #[Value.pointer none, Value.slice none 0 0, Value.int IntKind.i64 0, Value.slice none 0 0, Value.int IntKind.i64 0, Value.bool false] 29)) k1; obtain ⟨c0, c1, c2, c3, c4, c5⟩ := cells6s x0; obtain ⟨f0, f1, f2, f3, f4, f5⟩ := frozen6s x0; have HX := hide (And.intro x0 (And.intro hr k1)); clear x0 hr k1)
  have hd : w.heap.size < w.heap.size + 1 := Nat.lt_succ_self _
  have hr : w1.heap[w.heap.size + 1]? = some (.cells (dcells none (.slice none 0 0) 0 false 0 false) 74 (0, 0)) := by
    have := HX.out.2.1
    simpa using this
  have kb : Below w.heap.size w w1 := ((Below.refl w.heap.size w).alloc (Nat.le_refl _) _).trans (HX.out.2.2.mono (by simp))
  have hB : Both Try.prog w.heap.size 0 (w.heap.size + 1) w1 (bare (-1)) ⟨⟨[], -1, none, 0, false⟩, .slice none 0 0, .slice none 0 0, []⟩ := by
    refine ⟨fresh_disk _ _ w1 (Nat.le_succ _) hr, ⟨⟨rfl, .inl ⟨rfl, rfl⟩⟩, fun r hr => (List.not_mem_nil hr).elim, rfl, ⟨rfl, .inl ⟨rfl, rfl⟩⟩, List.Pairwise.nil, fun r hr => (List.not_mem_nil hr).elim, Nat.le_refl _, Nat.le_refl _, by decide⟩, rfl, kb.size, by decide⟩
  have t := tch_set6 w1 w.heap.size (.pointer (some ⟨w.heap.size + 1, 0, none⟩)) (.slice none 0 0) (.int .i64 (-1)) (.slice none 0 0) (.int .i64 0) (.bool false)
  refine bodyPost_ret (results_cell_row Try.results8 _ _ _ 29 _ (0, 0) _ rfl (set6 HX.out.1 _ _ _ _ _ _) Try.underlying29 rfl infoSide) rfl ⟨w.heap.size + 1, _, _, rfl, hB.turned HX.out.1 t, rfl, ?_⟩
  exact ⟨t.os.trans kb.os, t.tape.trans kb.tape, t.output.trans kb.output, Nat.le_trans kb.size t.size, fun b hb => (t.block b (Nat.lt_of_lt_of_le hb kb.size) (by omega)).trans (kb.block b hb)⟩
end Go.Proofs.Ytnjkahoaogeecaa
