/- Contracts of the times' small functions. -/
import Derived.Test.YtcdmdpafkiljdaaGreatDoorRows
import Derived.Test.YtcdmdpafkiljdaaGreatDoorWireRef
import Derived.Test.YtcdmdpafkiljdaaGreatDoorWirePure
namespace Go.Stamp
open Go.RowKit Go.Wire
theorem cells2 {w : World} {g : Nat} {a b : Value} {T : TypeId} (h : w.heap[g]? = some (.cells #[a, b] T (0, 0))) :
    w.cell? ⟨g, 0, none⟩ = some a ∧ w.cell? ⟨g, 1, none⟩ = some b ∧ w.frozen? ⟨g, 0, none⟩ = false ∧ w.frozen? ⟨g, 1, none⟩ = false :=
  ⟨cell_of_row _ _ _ _ _ _ h, cell_of_row _ _ _ _ _ _ h, frozen_of_row _ _ _ _ _ h, frozen_of_row _ _ _ _ _ h⟩
theorem set2 {w : World} {g : Nat} {a b : Value} {T : TypeId} (h : w.heap[g]? = some (.cells #[a, b] T (0, 0))) (x y : Value) :
    ((w.setCell ⟨g, 0, none⟩ x).setCell ⟨g, 1, none⟩ y).heap[g]? = some (.cells #[x, y] T (0, 0)) := by
  have h1 : (w.setCell ⟨g, 0, none⟩ x).heap[g]? = some (.cells #[x, b] T (0, 0)) := by rw [heap_setCell_same _ _ _ _ _ _ h]; rfl
  rw [heap_setCell_same _ _ _ _ _ _ h1]; rfl
theorem below2 {B g : Nat} {w w1 : World} (h : Below B w w1) (hg : B ≤ g) (x y : Value) : Below B w ((w1.setCell ⟨g, 0, none⟩ x).setCell ⟨g, 1, none⟩ y) :=
  (h.setCell (p := ⟨g, 0, none⟩) hg x).setCell (p := ⟨g, 1, none⟩) hg y
/-- Behind a block of one's own and a call. -/
theorem below_alloc_call {w w1 : World} {o : Obj} (h : Below (w.alloc o).heap.size (w.alloc o) w1) : Below w.heap.size w w1 :=
  ((Below.refl _ _).alloc (Nat.le_refl _) _).trans (h.mono (by simp))
/-- A new block of two cells behind a call. -/
theorem new2 {w w1 : World} {a b : Value} {T : TypeId} (h : Below (w.alloc (.cells #[a, b] T)).heap.size (w.alloc (.cells #[a, b] T)) w1) : w1.heap[w.heap.size]? = some (.cells #[a, b] T (0, 0)) :=
  kept_block (heap_alloc_new _ _) h
end Go.Stamp
namespace Go.Proofs.YtcdmdpafkiljdaaGreatDoor
open Go.RowKit Go.Wire Go.Stamp
set_option maxHeartbeats 400000 in
theorem replica_any (k : Int) (w : World) :
    Calls Tryz.prog 92 #[.int .i64 k] w fun e w' => e = .returned (.bool (decide (0 ≤ k ∧ k < 16))) ∧ w' = w := by
  by_cases h0 : 0 ≤ k
  · go_enter Tryz.func92, Tryz.ntmps92
    go_wp2
    go_ret
    exact ⟨by simp [h0], rfl⟩
  · go_enter Tryz.func92, Tryz.ntmps92
    go_wp2
    go_ret
    exact ⟨by have : decide (0 ≤ k) = false := decide_eq_false (by omega)
              simp [this], rfl⟩
theorem replica_is (k : Int) (b : Bool) (w : World) (h : decide (0 ≤ k ∧ k < 16) = b) :
    Calls Tryz.prog 92 #[.int .i64 k] w fun e w' => e = .returned (.bool b) ∧ w' = w := h ▸ replica_any k w
set_option maxHeartbeats 400000 in
theorem check_any (t : Tm) (w : World) :
    Calls Tryz.prog 52 #[t.v] w fun e w' => e = .returned (.int .i64 t.chk) ∧ Below w.heap.size w w' := by
  obtain ⟨c, k⟩ := t
  by_cases h1 : c < 1
  · rw [Tm.chk_no (by unfold Tm.Ok; dsimp only; omega)]; unfold Tm.v
    go_enter Tryz.func52, Tryz.ntmps52
    go_wp2
    go_ret
    exact ⟨rfl, (Below.refl _ _).alloc (Nat.le_refl _) _⟩
  by_cases h2 : 281474976710655 < c
  · rw [Tm.chk_no (by unfold Tm.Ok; dsimp only; omega)]; unfold Tm.v
    go_enter Tryz.func52, Tryz.ntmps52
    go_wp2
    go_ret
    exact ⟨rfl, (Below.refl _ _).alloc (Nat.le_refl _) _⟩
  by_cases h3 : 0 ≤ k ∧ k < 16
  · rw [Tm.chk_ok (by unfold Tm.Ok; dsimp only; omega)]; unfold Tm.v
    have hr := fun w => replica_is k true w (decide_eq_true h3)
    clear h3
    go_enter Tryz.func52, Tryz.ntmps52
    go_wp2_with (go_at_call 92; refine (hr _).mono ?_; rintro e w' ⟨rfl, rfl⟩)
    go_ret
    exact ⟨rfl, (Below.refl _ _).alloc (Nat.le_refl _) _⟩
  · rw [Tm.chk_no (by unfold Tm.Ok; dsimp only; omega)]; unfold Tm.v
    have hr := fun w => replica_is k false w (decide_eq_false h3)
    clear h3
    go_enter Tryz.func52, Tryz.ntmps52
    go_wp2_with (go_at_call 92; refine (hr _).mono ?_; rintro e w' ⟨rfl, rfl⟩)
    go_ret
    exact ⟨rfl, (Below.refl _ _).alloc (Nat.le_refl _) _⟩
set_option maxHeartbeats 400000 in
theorem rcheck_any (t : Tm) (h0 : 0 ≤ t.c) (w : World) :
    Calls Tryz.prog 44 #[t.v] w fun e w' => e = .returned (.int .i64 t.chk) ∧ Below w.heap.size w w' := by
  obtain ⟨c, k⟩ := t
  have h0 : 0 ≤ c := h0
  by_cases h1 : c = 0
  · subst h1
    rw [Tm.chk_no (by unfold Tm.Ok; dsimp only; omega)]; unfold Tm.v
    go_enter Tryz.func44, Tryz.ntmps44
    go_wp2
    go_ret
    exact ⟨rfl, (Below.refl _ _).alloc (Nat.le_refl _) _⟩
  have g1 : (c == 0) = false := beq_eq_false_iff_ne.2 h1
  by_cases h2 : 281474976710655 < c
  · rw [Tm.chk_no (by unfold Tm.Ok; dsimp only; omega)]; unfold Tm.v
    go_enter Tryz.func44, Tryz.ntmps44
    go_wp2
    go_ret
    exact ⟨rfl, (Below.refl _ _).alloc (Nat.le_refl _) _⟩
  by_cases h3 : k < 0
  · rw [Tm.chk_no (by unfold Tm.Ok; dsimp only; omega)]; unfold Tm.v
    go_enter Tryz.func44, Tryz.ntmps44
    go_wp2
    go_ret
    exact ⟨rfl, (Below.refl _ _).alloc (Nat.le_refl _) _⟩
  by_cases h4 : 15 < k
  · rw [Tm.chk_no (by unfold Tm.Ok; dsimp only; omega)]; unfold Tm.v
    go_enter Tryz.func44, Tryz.ntmps44
    go_wp2
    go_ret
    exact ⟨rfl, (Below.refl _ _).alloc (Nat.le_refl _) _⟩
  · rw [Tm.chk_ok (by unfold Tm.Ok; dsimp only; omega)]; unfold Tm.v
    go_enter Tryz.func44, Tryz.ntmps44
    go_wp2
    go_ret
    exact ⟨rfl, (Below.refl _ _).alloc (Nat.le_refl _) _⟩
theorem info24 : (Tryz.prog.info? 25).map (·.size) = some 2 := by kernel_rfl
theorem info27 : (Tryz.prog.info? 34).map (·.size) = some 2 := by kernel_rfl
set_option maxHeartbeats 400000 in
theorem ref_any (t : Tm) (w : World) :
    Calls Tryz.prog 47 #[t.v] w fun e w' => e = .returned t.v ∧ Below w.heap.size w w' := by
  obtain ⟨c, k⟩ := t
  unfold Tm.v
  go_enter Tryz.func47, Tryz.ntmps47
  go_wp2
  exact bodyPost_ret (results_cell_row Tryz.results47 _ _ _ _ _ (0, 0) _ rfl (heap_alloc2_new _ _ _) Tryz.underlying34 rfl info27) rfl ⟨rfl, ((Below.refl _ _).alloc (Nat.le_refl _) _).alloc (by simp) _⟩
set_option maxHeartbeats 400000 in
theorem thing_any (t : Tm) (w : World) :
    Calls Tryz.prog 93 #[t.v] w fun e w' => e = .returned (.int .u64 t.thing) ∧ Below w.heap.size w w' := by
  have H : Hid (∀ w, Calls Tryz.prog 52 #[t.v] w fun e w' => e = .returned (.int .i64 t.chk) ∧ Below w.heap.size w w') := fun w => check_any t w
  by_cases h : t.Ok
  · rw [Tm.chk_ok h] at H
    rw [Tm.thing_ok h]
    have h' := h
    unfold Tm.Ok at h'
    obtain ⟨c, k⟩ := t
    unfold Tm.v at H ⊢
    have hk : IntKind.u64.wrap k = k := by rw [Wire.wrap_u64]; dsimp only at h'; omega
    have hc : IntKind.u64.wrap (c * 16) = c * 16 := by rw [Wire.wrap_u64]; dsimp only at h'; omega
    have hs : IntKind.u64.wrap (c * 16 + k) = c * 16 + k := by rw [Wire.wrap_u64]; dsimp only at h'; omega
    clear h h'
    go_enter Tryz.func93, Tryz.ntmps93
    go_wp2_with (go_at_call 52; refine (H.out _).mono ?_; rintro e w1 ⟨rfl, hb⟩; obtain ⟨c0, c1, f0, f1⟩ := cells2 (new2 hb))
    go_ret
    exact ⟨rfl, below_alloc_call hb⟩
  · rw [Tm.chk_no h] at H
    rw [Tm.thing_no h]
    obtain ⟨c, k⟩ := t
    unfold Tm.v at H ⊢
    clear h
    go_enter Tryz.func93, Tryz.ntmps93
    go_wp2_with (go_at_call 52; refine (H.out _).mono ?_; rintro e w1 ⟨rfl, hb⟩)
    go_ret
    exact ⟨rfl, below_alloc_call hb⟩
set_option maxHeartbeats 400000 in
theorem rthing_any (t : Tm) (h0 : 0 ≤ t.c) (w : World) :
    Calls Tryz.prog 46 #[t.v] w fun e w' => e = .returned (.int .u64 t.thing) ∧ Below w.heap.size w w' := by
  have H : Hid (∀ w, Calls Tryz.prog 44 #[t.v] w fun e w' => e = .returned (.int .i64 t.chk) ∧ Below w.heap.size w w') := fun w => rcheck_any t h0 w
  clear h0
  by_cases h : t.Ok
  · rw [Tm.chk_ok h] at H
    rw [Tm.thing_ok h]
    have h' := h
    unfold Tm.Ok at h'
    obtain ⟨c, k⟩ := t
    unfold Tm.v at H ⊢
    have hk : IntKind.u64.wrap k = k := by rw [Wire.wrap_u64]; dsimp only at h'; omega
    have hc : IntKind.u64.wrap (c * 16) = c * 16 := by rw [Wire.wrap_u64]; dsimp only at h'; omega
    have hs : IntKind.u64.wrap (c * 16 + k) = c * 16 + k := by rw [Wire.wrap_u64]; dsimp only at h'; omega
    clear h h'
    go_enter Tryz.func46, Tryz.ntmps46
    go_wp2_with (go_at_call 44; refine (H.out _).mono ?_; rintro e w1 ⟨rfl, hb⟩; obtain ⟨c0, c1, f0, f1⟩ := cells2 (new2 hb))
    go_ret
    exact ⟨rfl, below_alloc_call hb⟩
  · rw [Tm.chk_no h] at H
    rw [Tm.thing_no h]
    obtain ⟨c, k⟩ := t
    unfold Tm.v at H ⊢
    clear h
    go_enter Tryz.func46, Tryz.ntmps46
    go_wp2_with (go_at_call 44; refine (H.out _).mono ?_; rintro e w1 ⟨rfl, hb⟩)
    go_ret
    exact ⟨rfl, below_alloc_call hb⟩
set_option maxHeartbeats 400000 in
theorem made_any (n : Int) (w : World) :
    Calls Tryz.prog 53 #[.int .u64 n] w fun e w' => e = .returned (.bool (decide (16 ≤ n) && decide (n ≤ 4503599627370495))) ∧ w' = w := by
  by_cases h : 16 ≤ n
  · go_enter Tryz.func53, Tryz.ntmps53
    go_wp2
    go_ret
    exact ⟨by simp [h], rfl⟩
  · have h' : decide (16 ≤ n) = false := decide_eq_false h
    go_enter Tryz.func53, Tryz.ntmps53
    go_wp2
    go_ret
    exact ⟨by simp, rfl⟩
set_option maxHeartbeats 400000 in
theorem rmade_any (n : Int) (w : World) :
    Calls Tryz.prog 45 #[.int .u64 n] w fun e w' => e = .returned (.bool (decide (16 ≤ n) && decide (n ≤ 4503599627370495))) ∧ w' = w := by
  by_cases h : 16 ≤ n
  · go_enter Tryz.func45, Tryz.ntmps45
    go_wp2
    go_ret
    exact ⟨by simp [h], rfl⟩
  · have h' : decide (16 ≤ n) = false := decide_eq_false h
    go_enter Tryz.func45, Tryz.ntmps45
    go_wp2
    go_ret
    exact ⟨by simp, rfl⟩
end Go.Proofs.YtcdmdpafkiljdaaGreatDoor
