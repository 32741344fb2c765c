/- Contracts: whether an operation may be, the program's and the document's; an operation as the document has it. -/
import Derived.Test.YtdcgemaaohldmaaOpLeaves
namespace Go.Opn
open Go.RowKit Go.Wire Go.Stamp
/-- The ways through whether a place may be. -/
theorem place_ways (par th : Int) (n : ByteArray) (P : Bool → Prop)
    (a : (par == 0 || made par) = false → P false)
    (b : (par == 0 || made par) = true → (par != th) = false → P false)
    (c : (par == 0 || made par) = true → (par != th) = true → (n.size : Int) < 1 → P false)
    (d : (par == 0 || made par) = true → (par != th) = true → 1 ≤ (n.size : Int) → decide ((n.size : Int) ≤ 32) = false → P false)
    (e : (par == 0 || made par) = true → (par != th) = true → 1 ≤ (n.size : Int) → decide ((n.size : Int) ≤ 32) = true → P true) :
    P ((par == 0 || made par) && !(par == th) && decide (1 ≤ n.size) && decide (n.size ≤ 32)) := by
  cases h1 : (par == 0 || made par)
  · exact a h1
  · by_cases h2 : par = th
    · rw [beq_iff_eq.2 h2]; exact b h1 (by rw [bne, beq_iff_eq.2 h2]; rfl)
    · rw [beq_eq_false_iff_ne.2 h2]
      replace h2 : (par != th) = true := by rw [bne, beq_eq_false_iff_ne.2 h2]; rfl
      by_cases h3 : 1 ≤ n.size
      · by_cases h4 : n.size ≤ 32
        · rw [decide_eq_true h3, decide_eq_true h4]; exact e h1 h2 (by omega) (decide_eq_true (by omega))
        · rw [decide_eq_true h3, decide_eq_false h4]; exact d h1 h2 (by omega) (decide_eq_false (by omega))
      · rw [decide_eq_false h3]; exact c h1 h2 (by omega)
theorem fill_ways (n : ByteArray) (z : Int) (P : Bool → Prop)
    (a : ((n.size : Int) == 32) = false → P false)
    (b : ((n.size : Int) == 32) = true → z < 0 → P false)
    (c : ((n.size : Int) == 32) = true → 0 ≤ z → decide (z ≤ 8192) = false → P false)
    (d : ((n.size : Int) == 32) = true → 0 ≤ z → decide (z ≤ 8192) = true → P true) : P (n.size == 32 && decide (0 ≤ z) && decide (z ≤ 8192)) := by
  by_cases h1 : n.size = 32
  · have e1 : ((n.size : Int) == 32) = true := beq_iff_eq.2 (by omega)
    rw [beq_iff_eq.2 h1]
    by_cases h2 : 0 ≤ z
    · by_cases h3 : z ≤ 8192
      · rw [decide_eq_true h2, decide_eq_true h3]; exact d e1 h2 (decide_eq_true h3)
      · rw [decide_eq_true h2, decide_eq_false h3]; exact c e1 h2 (decide_eq_false h3)
    · rw [decide_eq_false h2]; exact b e1 (by omega)
  · rw [beq_eq_false_iff_ne.2 h1]
    exact a (beq_eq_false_iff_ne.2 (by omega))
end Go.Opn
namespace Go.Proofs.Ytdcgemaaohldmaa
open Go.RowKit Go.Wire Go.Stamp Go.Opn
set_option maxHeartbeats 1000000 in
theorem fits2 (o : Ob) (w : World) (h : o.kind = 2) :
    Calls Try.prog 32 #[o.v] w fun e w' => e = .returned (.bool o.place) ∧ Below w.heap.size w w' := by
  obtain ⟨kd, ⟨c, k⟩, th, p, n, d, g, z⟩ := o
  dsimp only at h
  subst h
  have HP : Hid (∀ w, Calls Try.prog 51 #[.int .u64 p] w fun e w' => e = .returned (.bool (p == 0 || made p)) ∧ w' = w) := fun w => parent_any p w
  unfold Ob.place Ob.v
  dsimp only
  refine place_ways p th n (fun b => Calls Try.prog 32 #[.agg #[.int .i64 2, .int .u64 c, .int .i64 k, .int .u64 th, .int .u64 p, .string n, .bool d, .string g, .int .i64 z]] w fun e w' => e = .returned (.bool b) ∧ Below w.heap.size w w') ?_ ?_ ?_ ?_ ?_
  all_goals (
    intro h1
    rw [h1] at HP
    clear h1
    intros
    go_enter Try.func32, Try.ntmps32
    go_wp2_with (go_at_call 51; refine (HP.out _).mono ?_; rintro e w' ⟨rfl, rfl⟩)
    go_ret
    exact ⟨rfl, (Below.refl _ _).alloc (Nat.le_refl _) _⟩)
set_option maxHeartbeats 1000000 in
theorem fits1 (o : Ob) (w : World) (h : o.kind = 1) :
    Calls Try.prog 32 #[o.v] w fun e w' => e = .returned (.bool (o.thing == o.tm.thing && o.place)) ∧ Below w.heap.size w w' := by
  have HT : Hid (∀ w, Calls Try.prog 50 #[o.tm.v] w fun e w' => e = .returned (.int .u64 o.tm.thing) ∧ Below w.heap.size w w') := fun w => thing_any o.tm w
  unfold Tm.v at HT
  generalize o.tm.thing = t at HT
  obtain ⟨kd, ⟨c, k⟩, th, p, n, d, g, z⟩ := o
  dsimp only at h HT
  subst h
  have HP : Hid (∀ w, Calls Try.prog 51 #[.int .u64 p] w fun e w' => e = .returned (.bool (p == 0 || made p)) ∧ w' = w) := fun w => parent_any p w
  unfold Ob.place Ob.v
  dsimp only
  by_cases ht : th = t
  · rw [beq_iff_eq.2 ht, Bool.true_and]
    replace ht : (th != t) = false := by rw [bne, beq_iff_eq.2 ht]; rfl
    refine place_ways p th n (fun b => Calls Try.prog 32 #[.agg #[.int .i64 1, .int .u64 c, .int .i64 k, .int .u64 th, .int .u64 p, .string n, .bool d, .string g, .int .i64 z]] w fun e w' => e = .returned (.bool b) ∧ Below w.heap.size w w') ?_ ?_ ?_ ?_ ?_
    all_goals (
      intro h1
      rw [h1] at HP
      clear h1
      intros
      go_enter Try.func32, Try.ntmps32
      go_wp2_with fail
      obtain ⟨W, hW⟩ : ∃ W, W = w.alloc (.cells (Ob.mk 1 ⟨c, k⟩ th p n d g z).cs 26) := ⟨_, rfl⟩
      rw [← hW]
      have HW : Hid (W.heap[w.heap.size]? = some (.cells (Ob.mk 1 ⟨c, k⟩ th p n d g z).cs 26 (0, 0)) ∧ Below w.heap.size w W) := by rw [hW]; exact ⟨heap_alloc_new _ _, (Below.refl _ _).alloc (Nat.le_refl _) _⟩
      clear hW
      have c3 := cell_regrown (cells9 HW.out.1).2.2.2.1
      refine QuietCalls.region (by kernel_rfl) (by kernel_rfl) ?_
      first | go_big_quiet_step (fail) | quiet_step (fail)
      first | go_big_quiet_step (fail) | quiet_step (fail)
      first | go_big_quiet_step (fail) | quiet_step (fail)
      refine QuietCalls.loadMid rfl 24 _ rfl _ _ rfl [.int .u64 c, .int .i64 k] _ (fun w k => range_tm (kept_block HW.out.1 k)) Try.underlying24 rfl info24 ?_; simp only [Act.put, List.setIfInBounds_toArray, List.set_cons_succ, List.set_cons_zero]
      refine QuietCalls.call1 rfl rfl Try.call50 (fun w _ => HT.out w) rfl ?_; simp only [Act.put, List.setIfInBounds_toArray, List.set_cons_succ, List.set_cons_zero]
      first | go_big_quiet_step (fail) | quiet_step (fail)
      refine wpQuiet_nil ?_
      intro w1 k1
      replace HW : Hid (w1.heap[w.heap.size]? = some (.cells (Ob.mk 1 ⟨c, k⟩ th p n d g z).cs 26 (0, 0)) ∧ Below w.heap.size w w1) := ⟨kept_block HW.out.1 k1, HW.out.2.trans (k1.mono HW.out.2.size)⟩
      clear k1 c3
      obtain ⟨c0, c1, c2, c3, c4, c5, c6, c7, c8⟩ := cells9 HW.out.1
      go_wp2_with (go_at_call 51; refine (HP.out _).mono ?_; rintro e w' ⟨rfl, rfl⟩)
      go_ret
      exact ⟨rfl, HW.out.2⟩)
  · rw [beq_eq_false_iff_ne.2 ht, Bool.false_and]
    replace ht : (th != t) = true := by rw [bne, beq_eq_false_iff_ne.2 ht]; rfl
    go_enter Try.func32, Try.ntmps32
    go_wp2_with fail
    obtain ⟨W, hW⟩ : ∃ W, W = w.alloc (.cells (Ob.mk 1 ⟨c, k⟩ th p n d g z).cs 26) := ⟨_, rfl⟩
    rw [← hW]
    have HW : Hid (W.heap[w.heap.size]? = some (.cells (Ob.mk 1 ⟨c, k⟩ th p n d g z).cs 26 (0, 0)) ∧ Below w.heap.size w W) := by rw [hW]; exact ⟨heap_alloc_new _ _, (Below.refl _ _).alloc (Nat.le_refl _) _⟩
    clear hW
    have c3 := cell_regrown (cells9 HW.out.1).2.2.2.1
    refine QuietCalls.region (by kernel_rfl) (by kernel_rfl) ?_
    first | go_big_quiet_step (fail) | quiet_step (fail)
    first | go_big_quiet_step (fail) | quiet_step (fail)
    first | go_big_quiet_step (fail) | quiet_step (fail)
    refine QuietCalls.loadMid rfl 24 _ rfl _ _ rfl [.int .u64 c, .int .i64 k] _ (fun w k => range_tm (kept_block HW.out.1 k)) Try.underlying24 rfl info24 ?_; simp only [Act.put, List.setIfInBounds_toArray, List.set_cons_succ, List.set_cons_zero]
    refine QuietCalls.call1 rfl rfl Try.call50 (fun w _ => HT.out w) rfl ?_; simp only [Act.put, List.setIfInBounds_toArray, List.set_cons_succ, List.set_cons_zero]
    first | go_big_quiet_step (fail) | quiet_step (fail)
    refine wpQuiet_nil ?_
    intro w1 k1
    replace HW : Hid (w1.heap[w.heap.size]? = some (.cells (Ob.mk 1 ⟨c, k⟩ th p n d g z).cs 26 (0, 0)) ∧ Below w.heap.size w w1) := ⟨kept_block HW.out.1 k1, HW.out.2.trans (k1.mono HW.out.2.size)⟩
    clear k1 c3
    obtain ⟨c0, c1, c2, c3, c4, c5, c6, c7, c8⟩ := cells9 HW.out.1
    go_wp2_with fail
    go_ret
    exact ⟨rfl, HW.out.2⟩
set_option maxHeartbeats 1000000 in
theorem fits4 (o : Ob) (w : World) (h : o.kind = 4) :
    Calls Try.prog 32 #[o.v] w fun e w' => e = .returned (.bool o.fill) ∧ Below w.heap.size w w' := by
  obtain ⟨kd, ⟨c, k⟩, th, p, n, d, g, z⟩ := o
  dsimp only at h
  subst h
  unfold Ob.fill Ob.v
  dsimp only
  refine fill_ways g z (fun b => Calls Try.prog 32 #[.agg #[.int .i64 4, .int .u64 c, .int .i64 k, .int .u64 th, .int .u64 p, .string n, .bool d, .string g, .int .i64 z]] w fun e w' => e = .returned (.bool b) ∧ Below w.heap.size w w') ?_ ?_ ?_ ?_
  all_goals (
    intros
    go_enter Try.func32, Try.ntmps32
    go_wp2_with fail
    go_ret
    exact ⟨rfl, (Below.refl _ _).alloc (Nat.le_refl _) _⟩)
set_option maxHeartbeats 1000000 in
theorem fits_any (o : Ob) (w : World) :
    Calls Try.prog 32 #[o.v] w fun e w' => e = .returned (.bool o.fits) ∧ Below w.heap.size w w' := by
  unfold Ob.fits
  by_cases k1 : o.kind = 1
  · rw [if_pos k1]; exact fits1 o w k1
  rw [if_neg k1]
  by_cases k2 : o.kind = 2
  · rw [if_pos k2]; exact fits2 o w k2
  rw [if_neg k2]
  by_cases k3 : o.kind = 3
  · rw [if_pos k3]
    obtain ⟨kd, ⟨c, k⟩, th, p, n, d, g, z⟩ := o
    dsimp only at k3
    subst k3
    unfold Ob.v
    clear k1 k2
    go_enter Try.func32, Try.ntmps32
    go_wp2_with fail
    go_ret
    exact ⟨rfl, (Below.refl _ _).alloc (Nat.le_refl _) _⟩
  rw [if_neg k3]
  by_cases k4 : o.kind = 4
  · rw [if_pos k4]; exact fits4 o w k4
  rw [if_neg k4]
  obtain ⟨kd, ⟨c, k⟩, th, p, n, d, g, z⟩ := o
  dsimp only at k1 k2 k3 k4
  have e1 : (kd == 1) = false := beq_eq_false_iff_ne.2 k1
  have e2 : (kd == 2) = false := beq_eq_false_iff_ne.2 k2
  have e3 : (kd == 3) = false := beq_eq_false_iff_ne.2 k3
  have e4 : (kd == 4) = false := beq_eq_false_iff_ne.2 k4
  clear k1 k2 k3 k4
  unfold Ob.v
  go_enter Try.func32, Try.ntmps32
  go_wp2_with fail
  go_ret
  exact ⟨rfl, (Below.refl _ _).alloc (Nat.le_refl _) _⟩
end Go.Proofs.Ytdcgemaaohldmaa
