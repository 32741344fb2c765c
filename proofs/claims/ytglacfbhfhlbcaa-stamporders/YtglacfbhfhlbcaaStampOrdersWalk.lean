/- The walk of StampOrders. -/
import Derived.Test.YtglacfbhfhlbcaaStampClock
import Derived.Test.YtglacfbhfhlbcaaQuietCalls
namespace Go.Stamp
theorem cmp_lt (a b : Tm) : decide (a.cmp b < 0) = decide (a.before b) := by
  unfold Tm.cmp Tm.before
  by_cases h1 : a.c < b.c
  · simp [h1]
  · by_cases h2 : b.c < a.c
    · have : ¬ a.c = b.c := by omega
      simp [h1, h2, this]
    · have : a.c = b.c := by omega
      by_cases h3 : a.k < b.k
      · simp [this, h3]
      · by_cases h4 : b.k < a.k <;> simp [this, h3, h4]
theorem cmp_gt (a b : Tm) : decide (0 < a.cmp b) = decide (b.before a) := by
  unfold Tm.cmp Tm.before
  by_cases h1 : a.c < b.c
  · have h2 : ¬ b.c < a.c := by omega
    have : ¬ b.c = a.c := by omega
    simp [h1, h2, this]
  · by_cases h2 : b.c < a.c
    · simp [h1, h2]
    · have : a.c = b.c := by omega
      by_cases h3 : a.k < b.k
      · have h4 : ¬ b.k < a.k := by omega
        simp [this, h3, h4]
      · by_cases h4 : b.k < a.k <;> simp [this, h3, h4]
open Go.RowKit Go.Wire
/-- Two times of one's own, and all that was there. -/
def Two (T g h : Nat) (a b : Tm) (w0 w : World) : Prop :=
  w.heap[g]? = some (.cells #[.int .u64 a.c, .int .i64 a.k] T (0, 0)) ∧ w.heap[h]? = some (.cells #[.int .u64 b.c, .int .i64 b.k] T (0, 0)) ∧ Below w0.heap.size w0 w
theorem Two.step {T g h : Nat} {a b : Tm} {w0 w w' : World} (i : Hid (Two T g h a b w0 w)) (k : Below w.heap.size w w') : Hid (Two T g h a b w0 w') :=
  ⟨kept_block i.out.1 k, kept_block i.out.2.1 k, i.out.2.2.trans (k.mono i.out.2.2.size)⟩
theorem Two.cells {T g h : Nat} {a b : Tm} {w0 w : World} (i : Hid (Two T g h a b w0 w)) : w.cell? ⟨g, 0, none⟩ = some (.int .u64 a.c) ∧ w.cell? ⟨g, 1, none⟩ = some (.int .i64 a.k) ∧ w.cell? ⟨h, 0, none⟩ = some (.int .u64 b.c) ∧ w.cell? ⟨h, 1, none⟩ = some (.int .i64 b.k) :=
  ⟨(cells2 i.out.1).1, (cells2 i.out.1).2.1, (cells2 i.out.2.1).1, (cells2 i.out.2.1).2.1⟩
end Go.Stamp
namespace Go.Proofs.Ytglacfbhfhlbcaa
open Go.RowKit Go.Wire Go.Stamp
set_option maxRecDepth 100000 in
set_option maxHeartbeats 1000000 in
theorem stampOrders_any (a b : Tm) (w : World) (ha : a.Fits) (hb : b.Fits) :
    Calls Try.prog 3 #[a.v, b.v] w fun e w' => e = .returned (.bool true) ∧ Below w.heap.size w w' := by
  have C1 : Hid (∀ w, Calls Try.prog 8 #[a.v, b.v] w fun e w' => e = .returned (.int .i64 (a.cmp b)) ∧ Below w.heap.size w w') := fun w => compare_any a b w
  have C2 : Hid (∀ w, Calls Try.prog 8 #[b.v, a.v] w fun e w' => e = .returned (.int .i64 (b.cmp a)) ∧ Below w.heap.size w w') := fun w => compare_any b a w
  have B1 : Hid (∀ w, Calls Try.prog 9 #[a.v, b.v] w fun e w' => e = .returned (.bool (decide (a.cmp b < 0))) ∧ Below w.heap.size w w') := by rw [cmp_lt]; exact fun w => rbefore_any a b w
  have B2 : Hid (∀ w, Calls Try.prog 9 #[b.v, a.v] w fun e w' => e = .returned (.bool (decide (0 < a.cmp b))) ∧ Below w.heap.size w w') := by rw [cmp_gt]; exact fun w => rbefore_any b a w
  have R1 : Hid (∀ w, Calls Try.prog 10 #[a.v] w fun e w' => e = .returned a.v ∧ Below w.heap.size w w') := fun w => ref_any a w
  have R2 : Hid (∀ w, Calls Try.prog 10 #[b.v] w fun e w' => e = .returned b.v ∧ Below w.heap.size w w') := fun w => ref_any b w
  have T1 : Hid (∀ w, Calls Try.prog 12 #[a.v] w fun e w' => e = .returned (.int .u64 a.thing) ∧ Below w.heap.size w w') := fun w => thing_any a w
  have T2 : Hid (∀ w, Calls Try.prog 12 #[b.v] w fun e w' => e = .returned (.int .u64 b.thing) ∧ Below w.heap.size w w') := fun w => thing_any b w
  have U1 : Hid (∀ w, Calls Try.prog 13 #[a.v] w fun e w' => e = .returned (.int .u64 a.thing) ∧ Below w.heap.size w w') := fun w => rthing_any a ha.c0 w
  have U2 : Hid (∀ w, Calls Try.prog 13 #[b.v] w fun e w' => e = .returned (.int .u64 b.thing) ∧ Below w.heap.size w w') := fun w => rthing_any b hb.c0 w
  have K1 : Hid (∀ w, Calls Try.prog 14 #[a.v] w fun e w' => e = .returned (.int .i64 a.chk) ∧ Below w.heap.size w w') := fun w => check_any a w
  have K2 : Hid (∀ w, Calls Try.prog 15 #[a.v] w fun e w' => e = .returned (.int .i64 a.chk) ∧ Below w.heap.size w w') := fun w => rcheck_any a ha.c0 w
  have hd : (b.cmp a < 0) = (0 < a.cmp b) := by have := cmp_lt b a; rw [← cmp_gt a b] at this; simpa using this
  generalize a.cmp b = c at C1 B1 B2 hd
  generalize b.cmp a = d at C2 hd
  unfold Tm.v at *
  go_enter Try.func3, Try.ntmps3
  go_wp2_with (first
    | (go_at_call 8; refine (C1.out _).mono ?_; rintro e w1 ⟨rfl, k⟩))
  have I : Hid (Two 24 w.heap.size (w.heap.size + 1) a b w w1) := ⟨kept_block (kept_alloc (heap_alloc_new w _) _) k, kept_block (heap_alloc2_new w _ _) k, (((Below.refl _ _).alloc (Nat.le_refl _) _).alloc (by simp) _).trans (k.mono (by simp; omega))⟩
  clear k
  refine QuietCalls.region (by kernel_rfl) (by kernel_rfl) ?_
  refine QuietCalls.load rfl 24 _ rfl _ rfl _ _ _ _ I.out.1 Try.underlying24 rfl info24 ?_; simp only [Act.put, List.setIfInBounds_toArray, List.set_cons_succ, List.set_cons_zero]
  refine QuietCalls.call1 rfl rfl Try.call10 (fun w _ => R1.out w) rfl ?_; simp only [Act.put, List.setIfInBounds_toArray, List.set_cons_succ, List.set_cons_zero]
  refine QuietCalls.load rfl 24 _ rfl _ rfl _ _ _ _ I.out.2.1 Try.underlying24 rfl info24 ?_; simp only [Act.put, List.setIfInBounds_toArray, List.set_cons_succ, List.set_cons_zero]
  refine QuietCalls.call1 rfl rfl Try.call10 (fun w _ => R2.out w) rfl ?_; simp only [Act.put, List.setIfInBounds_toArray, List.set_cons_succ, List.set_cons_zero]
  refine QuietCalls.call2 rfl rfl Try.call9 (fun w _ => B1.out w) rfl rfl ?_; simp only [Act.put, List.setIfInBounds_toArray, List.set_cons_succ, List.set_cons_zero]
  refine QuietCalls.load rfl 24 _ rfl _ rfl _ _ _ _ I.out.2.1 Try.underlying24 rfl info24 ?_; simp only [Act.put, List.setIfInBounds_toArray, List.set_cons_succ, List.set_cons_zero]
  refine QuietCalls.call1 rfl rfl Try.call10 (fun w _ => R2.out w) rfl ?_; simp only [Act.put, List.setIfInBounds_toArray, List.set_cons_succ, List.set_cons_zero]
  refine QuietCalls.load rfl 24 _ rfl _ rfl _ _ _ _ I.out.1 Try.underlying24 rfl info24 ?_; simp only [Act.put, List.setIfInBounds_toArray, List.set_cons_succ, List.set_cons_zero]
  refine QuietCalls.call1 rfl rfl Try.call10 (fun w _ => R1.out w) rfl ?_; simp only [Act.put, List.setIfInBounds_toArray, List.set_cons_succ, List.set_cons_zero]
  refine QuietCalls.call2 rfl rfl Try.call9 (fun w _ => B2.out w) rfl rfl ?_; simp only [Act.put, List.setIfInBounds_toArray, List.set_cons_succ, List.set_cons_zero]
  refine QuietCalls.assign rfl rfl rfl ?_; simp only [Act.put, List.setIfInBounds_toArray, List.set_cons_succ, List.set_cons_zero]
  refine QuietCalls.assign rfl rfl rfl ?_; simp only [Act.put, List.setIfInBounds_toArray, List.set_cons_succ, List.set_cons_zero]
  refine wpQuiet_nil ?_
  intro w2 k
  replace I := Two.step I k
  clear k B1 B2 C1
  go_wp2_with (first
    | (go_at_call 11; refine (awake_any _).mono ?_; rintro e w3 ⟨rfl, k⟩; replace I := Two.step I k; clear k; obtain ⟨x0, x1, y0, y1⟩ := Two.cells I)
    | (go_at_call 8; refine (C2.out _).mono ?_; rintro e w4 ⟨rfl, k⟩; replace I := Two.step I k; clear k; obtain ⟨x0, x1, y0, y1⟩ := Two.cells I))
  refine QuietCalls.region (by kernel_rfl) (by kernel_rfl) ?_
  refine QuietCalls.load rfl 24 _ rfl _ rfl _ _ _ _ I.out.1 Try.underlying24 rfl info24 ?_; simp only [Act.put, List.setIfInBounds_toArray, List.set_cons_succ, List.set_cons_zero]
  refine QuietCalls.call1 rfl rfl Try.call12 (fun w _ => T1.out w) rfl ?_; simp only [Act.put, List.setIfInBounds_toArray, List.set_cons_succ, List.set_cons_zero]
  refine QuietCalls.load rfl 24 _ rfl _ rfl _ _ _ _ I.out.2.1 Try.underlying24 rfl info24 ?_; simp only [Act.put, List.setIfInBounds_toArray, List.set_cons_succ, List.set_cons_zero]
  refine QuietCalls.call1 rfl rfl Try.call12 (fun w _ => T2.out w) rfl ?_; simp only [Act.put, List.setIfInBounds_toArray, List.set_cons_succ, List.set_cons_zero]
  refine QuietCalls.assign rfl rfl rfl ?_; simp only [Act.put, List.setIfInBounds_toArray, List.set_cons_succ, List.set_cons_zero]
  refine QuietCalls.assign rfl rfl rfl ?_; simp only [Act.put, List.setIfInBounds_toArray, List.set_cons_succ, List.set_cons_zero]
  refine wpQuiet_nil ?_
  clear x0 x1 y0 y1
  intro w5 k
  replace I := Two.step I k; clear k; obtain ⟨x0, x1, y0, y1⟩ := Two.cells I
  clear C2
  go_wp2_with fail
  refine QuietCalls.region (by kernel_rfl) (by kernel_rfl) ?_
  first | go_big_quiet_step (fail) | quiet_step (fail)
  refine QuietCalls.load rfl 24 _ rfl _ rfl _ _ _ _ I.out.1 Try.underlying24 rfl info24 ?_; simp only [Act.put, List.setIfInBounds_toArray, List.set_cons_succ, List.set_cons_zero]
  refine QuietCalls.call1 rfl rfl Try.call10 (fun w _ => R1.out w) rfl ?_; simp only [Act.put, List.setIfInBounds_toArray, List.set_cons_succ, List.set_cons_zero]
  refine QuietCalls.call1 rfl rfl Try.call13 (fun w _ => U1.out w) rfl ?_; simp only [Act.put, List.setIfInBounds_toArray, List.set_cons_succ, List.set_cons_zero]
  first | go_big_quiet_step (fail) | quiet_step (fail)
  first | go_big_quiet_step (fail) | quiet_step (fail)
  first | go_big_quiet_step (fail) | quiet_step (fail)
  refine QuietCalls.load rfl 24 _ rfl _ rfl _ _ _ _ I.out.2.1 Try.underlying24 rfl info24 ?_; simp only [Act.put, List.setIfInBounds_toArray, List.set_cons_succ, List.set_cons_zero]
  refine QuietCalls.call1 rfl rfl Try.call10 (fun w _ => R2.out w) rfl ?_; simp only [Act.put, List.setIfInBounds_toArray, List.set_cons_succ, List.set_cons_zero]
  refine QuietCalls.call1 rfl rfl Try.call13 (fun w _ => U2.out w) rfl ?_; simp only [Act.put, List.setIfInBounds_toArray, List.set_cons_succ, List.set_cons_zero]
  first | go_big_quiet_step (fail) | quiet_step (fail)
  first | go_big_quiet_step (fail) | quiet_step (fail)
  first | go_big_quiet_step (fail) | quiet_step (fail)
  refine QuietCalls.load rfl 24 _ rfl _ rfl _ _ _ _ I.out.1 Try.underlying24 rfl info24 ?_; simp only [Act.put, List.setIfInBounds_toArray, List.set_cons_succ, List.set_cons_zero]
  refine QuietCalls.call1 rfl rfl Try.call14 (fun w _ => K1.out w) rfl ?_; simp only [Act.put, List.setIfInBounds_toArray, List.set_cons_succ, List.set_cons_zero]
  refine QuietCalls.load rfl 24 _ rfl _ rfl _ _ _ _ I.out.1 Try.underlying24 rfl info24 ?_; simp only [Act.put, List.setIfInBounds_toArray, List.set_cons_succ, List.set_cons_zero]
  refine QuietCalls.call1 rfl rfl Try.call10 (fun w _ => R1.out w) rfl ?_; simp only [Act.put, List.setIfInBounds_toArray, List.set_cons_succ, List.set_cons_zero]
  refine QuietCalls.call1 rfl rfl Try.call15 (fun w _ => K2.out w) rfl ?_; simp only [Act.put, List.setIfInBounds_toArray, List.set_cons_succ, List.set_cons_zero]
  first | go_big_quiet_step (fail) | quiet_step (fail)
  first | go_big_quiet_step (fail) | quiet_step (fail)
  refine wpQuiet_nil ?_
  clear x0 x1 y0 y1
  intro w6 k
  replace I := Two.step I k; clear k; obtain ⟨x0, x1, y0, y1⟩ := Two.cells I
  clear R1 R2 T1 T2 U1 U2 K1 K2
  by_cases h1 : a.thing = 0
  · have g1 : (a.thing == 0) = true := beq_iff_eq.2 h1
    go_wp2_with fail
    go_ret
    exact ⟨rfl, I.out.2.2⟩
  have g1 : (a.thing == 0) = false := beq_eq_false_iff_ne.2 h1
  by_cases h2 : b.thing = 0
  · have g2 : (b.thing == 0) = true := beq_iff_eq.2 h2
    go_wp2_with fail
    go_ret
    exact ⟨rfl, I.out.2.2⟩
  have g2 : (b.thing == 0) = false := beq_eq_false_iff_ne.2 h2
  have oa : a.Ok := Decidable.byContradiction fun h => h1 (Tm.thing_no h)
  have ob : b.Ok := Decidable.byContradiction fun h => h2 (Tm.thing_no h)
  have ea := Tm.thing_ok oa
  have eb := Tm.thing_ok ob
  unfold Tm.Ok at oa ob
  have M : Hid (∀ w, Calls Try.prog 16 #[.int .u64 a.thing] w fun e w' => e = .returned (.bool true) ∧ w' = w) := fun w => by
    have := made_any a.thing w
    rw [decide_eq_true (show 16 ≤ a.thing by omega), decide_eq_true (show a.thing ≤ 4503599627370495 by omega)] at this
    exact this
  have hw := I.out.2.2
  clear I
  by_cases h3 : a.c = b.c
  · by_cases h4 : a.k = b.k
    · have e : a = b := by
        obtain ⟨x, y⟩ := a
        obtain ⟨z, u⟩ := b
        simp only at h3 h4
        rw [h3, h4]
      subst e
      clear h3 h4 ea eb oa ob h1 h2 ha hb
      go_wp2_with (go_at_call 16; refine (M.out _).mono ?_; rintro e w' ⟨rfl, rfl⟩)
      go_ret
      exact ⟨rfl, hw⟩
    · have g3 : (a.thing == b.thing) = false := beq_eq_false_iff_ne.2 (by omega)
      have g4 : (a.c == b.c) = true := beq_iff_eq.2 h3
      have g5 : (a.k == b.k) = false := beq_eq_false_iff_ne.2 h4
      clear h3 h4 ea eb oa ob h1 h2 ha hb
      go_wp2_with (go_at_call 16; refine (M.out _).mono ?_; rintro e w' ⟨rfl, rfl⟩)
      go_ret
      exact ⟨rfl, hw⟩
  · have g3 : (a.thing == b.thing) = false := beq_eq_false_iff_ne.2 (by omega)
    have g4 : (a.c == b.c) = false := beq_eq_false_iff_ne.2 h3
    clear h3 ea eb oa ob h1 h2 ha hb
    go_wp2_with (go_at_call 16; refine (M.out _).mono ?_; rintro e w' ⟨rfl, rfl⟩)
    go_ret
    exact ⟨rfl, hw⟩
end Go.Proofs.Ytglacfbhfhlbcaa
