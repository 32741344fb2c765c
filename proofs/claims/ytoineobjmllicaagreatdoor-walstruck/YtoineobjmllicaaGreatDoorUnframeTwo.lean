/- Several texts in one: WireRefUnframe. -/
import Derived.Test.YtoineobjmllicaaGreatDoorUnframeOne
/- The contract of taking a frame, as the document has it. -/
namespace Go.Proofs.YtoineobjmllicaaGreatDoor
open Go.RowKit Go.Wire
set_option maxHeartbeats 1000000 in
theorem runframe_any (s : ByteArray) (p : Int) (w : World) (hs : s.size ≤ 1000000) :
    Calls Tryz.prog 30 #[.string s, .int .i64 p] w fun e w' => e = .returned (.tuple #[.string (unframe s p).1, .int .i64 (unframe s p).2.1, .int .i64 (unframe s p).2.2]) ∧ Below w.heap.size w w' := by
  by_cases hp : p < 0 ∨ s.size < p
  · rw [unframe, if_pos hp]
    by_cases h0 : p < 0
    · clear hp
      go_enter Tryz.func30, Tryz.ntmps30
      go_wp2
      refine bodyPost_ret (results_tmp3 rfl _ _ _) rfl ?_
      exact ⟨rfl, Below.refl _ _⟩
    · have h1 : (s.size : Int) < p := by omega
      clear hp
      go_enter Tryz.func30, Tryz.ntmps30
      go_wp2
      refine bodyPost_ret (results_tmp3 rfl _ _ _) rfl ?_
      exact ⟨rfl, Below.refl _ _⟩
  · rw [unframe, if_neg hp, unf]
    obtain ⟨m, rfl⟩ : ∃ m : Nat, p = m := ⟨p.toNat, by omega⟩
    have hm : m ≤ s.size := by omega
    clear hp
    rw [Int.toNat_natCast]
    have hsz : (s.extract m s.size).size ≤ 1000000 := by rw [ByteArray.size_extract]; omega
    generalize hr : s.extract m s.size = r at hsz
    have HR : Hid (s.extract m s.size = r) := hr
    clear hr
    have hrl : r.size ≤ maxLen := by unfold maxLen; omega
    have s1 := (St.mk r 0 0).f1_s
    have s2 := (St.mk r 0 0).f2_s
    have l1 := (St.mk r 0 0).f1_le (Nat.zero_le _)
    have l2 := (St.mk r 0 0).f2_le (Nat.zero_le _)
    have l3 := (St.mk r 0 0).f3_le (Nat.zero_le _)
    have hn1 := (St.mk r 0 0).f1_lt
    have hn2 := (St.mk r 0 0).f2_lt
    have hn3 := (St.mk r 0 0).f3_size (Nat.zero_le _)
    have H1 : Hid (∀ w : World, Calls Tryz.prog 55 #[(St.mk r 0 0).v, .int .i64 2147483647] w fun e w' => e = .returned (.tuple #[(St.mk r 0 0).f1.1.v, .int .i64 ((St.mk r 0 0).f1.2 : Nat)]) ∧ Below w.heap.size w w') := fun w => rcount_any _ _ w (Nat.zero_le _) hrl (by decide)
    have H2 : Hid (∀ w : World, Calls Tryz.prog 56 #[(St.mk r 0 0).f1.1.v, .int .i64 4] w fun e w' => e = .returned (.tuple #[(St.mk r 0 0).f2.1.v, .int .u64 ((St.mk r 0 0).f2.2 : Nat)]) ∧ Below w.heap.size w w') := fun w => rnumber_any _ _ w (by rw [s1]; exact l1) (by rw [s1]; exact hrl)
    have H3 : Hid (∀ w : World, Calls Tryz.prog 57 #[(St.mk r 0 0).f2.1.v, .int .i64 ((St.mk r 0 0).f1.2 : Nat)] w fun e w' => e = .returned (.tuple #[(St.mk r 0 0).f3.1.v, .string (St.mk r 0 0).f3.2]) ∧ Below w.heap.size w w') := fun w => rbytes_any _ _ w (by rw [s2]; exact l2) (by rw [s2]; exact hrl)
    have H4 : Hid (∀ w : World, Calls Tryz.prog 47 #[.string (St.mk r 0 0).f3.2] w fun e w' => e = .returned (.string (textB (St.mk r 0 0).f3.2)) ∧ Below w.heap.size w w') := fun w => rtextB_any _ w (by have : (St.mk r 0 0).f3.2.size ≤ r.size := hn3; omega)
    have H5 : Hid (∀ w : World, Calls Tryz.prog 46 #[.string (textB (St.mk r 0 0).f3.2)] w fun e w' => e = .returned (.int .u32 (fnv (textB (St.mk r 0 0).f3.2).data.toList)) ∧ w' = w) := fun w => rfnv_any _ w (by have : (St.mk r 0 0).f3.2.size ≤ r.size := hn3; rw [textB_size]; unfold maxLen; omega)
    have hf := fnv_lt (textB (St.mk r 0 0).f3.2).data.toList
    generalize fnv (textB (St.mk r 0 0).f3.2).data.toList = x at H5 hf
    generalize textB (St.mk r 0 0).f3.2 = c at H4 H5
    generalize (St.mk r 0 0).f3.2 = t at H3 H4 hn3
    generalize (St.mk r 0 0).f3.1 = q3 at H3 l3
    generalize (St.mk r 0 0).f2.2 = y at H2 hn2
    generalize (St.mk r 0 0).f2.1 = q2 at H2 H3 s2 l2
    generalize (St.mk r 0 0).f1.2 = n at H1 H3 hn1
    generalize (St.mk r 0 0).f1.1 = q1 at H1 H2 s1 l1
    clear s1 s2 l1 l2
    simp only at l3 hn3
    obtain ⟨r1, p1, e1⟩ := q1
    obtain ⟨r2, p2, e2⟩ := q2
    obtain ⟨r3, p3, e3⟩ := q3
    unfold St.v at H1 H2 H3
    simp only at l3
    by_cases he3 : e3 = 0
    · subst he3
      by_cases hxy : y = x
      · subst hxy
        rw [if_neg (by simp), if_neg (by simp)]
        go_enter Tryz.func30, Tryz.ntmps30
        go_wp2_with fail
        rw [HR.out]
        go_wp2_with (first
          | (go_at_call 55; refine (H1.out _).mono ?_; rintro e w1 ⟨rfl, k1⟩; have HG1 := heap_alloc_new w1 (.cells #[.string r1, .int .i64 p1, .int .i64 e1] 89 (0, 0)); have HE1 := k1.alloc k1.size (.cells #[.string r1, .int .i64 p1, .int .i64 e1] 89 (0, 0)); have hg1 := k1.size)
          | (go_at_call 56; refine (H2.out _).mono ?_; rintro e w2 ⟨rfl, k2⟩; have HG2 := kept_block HG1 k2; have HE2 := HE1.trans (k2.mono HE1.size); clear HG1 HE1; obtain ⟨b0, b1, b2, b3, b4, b5⟩ := cells3 HG2)
          | (go_at_call 57; refine (H3.out _).mono ?_; rintro e w3 ⟨rfl, k3⟩; have HG3 := kept_block (set3 HG2 (.string r2) (.int .i64 p2) (.int .i64 e2)) k3; have HE3 := (below3 HE2 hg1 (.string r2) (.int .i64 p2) (.int .i64 e2)).trans (k3.mono (below3 HE2 hg1 (.string r2) (.int .i64 p2) (.int .i64 e2)).size); clear HG2 HE2 b0 b1 b2 b3 b4 b5; obtain ⟨b0, b1, b2, b3, b4, b5⟩ := cells3 HG3))
        have HG5 := set3 HG3 (.string r3) (.int .i64 p3) (.int .i64 0)
        have HE5 := below3 HE3 hg1 (.string r3) (.int .i64 p3) (.int .i64 0)
        refine (H4.out _).mono ?_
        rintro e w4 ⟨rfl, k4⟩
        have HG4 := kept_block HG5 k4
        have HE4 := HE5.trans (k4.mono HE5.size)
        clear HG5 HE5 HG3 HE3 b0 b1 b2 b3 b4 b5 k1 k2 k3 k4
        obtain ⟨b0, b1, b2, b3, b4, b5⟩ := cells3 HG4
        go_wp2_with (go_at_call 46; refine (H5.out _).mono ?_; rintro e w' ⟨rfl, rfl⟩)
        go_region
        go_wp2
        refine bodyPost_ret (results_tmp3 rfl _ _ _) rfl ?_
        exact ⟨rfl, HE4.drew⟩
      · have hxy2 : ((y : Int) == (x : Int)) = false := beq_eq_false_iff_ne.2 (by omega)
        rw [if_neg (by simp), if_pos hxy]
        go_enter Tryz.func30, Tryz.ntmps30
        go_wp2_with fail
        rw [HR.out]
        go_wp2_with (first
          | (go_at_call 55; refine (H1.out _).mono ?_; rintro e w1 ⟨rfl, k1⟩; have HG1 := heap_alloc_new w1 (.cells #[.string r1, .int .i64 p1, .int .i64 e1] 89 (0, 0)); have HE1 := k1.alloc k1.size (.cells #[.string r1, .int .i64 p1, .int .i64 e1] 89 (0, 0)); have hg1 := k1.size)
          | (go_at_call 56; refine (H2.out _).mono ?_; rintro e w2 ⟨rfl, k2⟩; have HG2 := kept_block HG1 k2; have HE2 := HE1.trans (k2.mono HE1.size); clear HG1 HE1; obtain ⟨b0, b1, b2, b3, b4, b5⟩ := cells3 HG2)
          | (go_at_call 57; refine (H3.out _).mono ?_; rintro e w3 ⟨rfl, k3⟩; have HG3 := kept_block (set3 HG2 (.string r2) (.int .i64 p2) (.int .i64 e2)) k3; have HE3 := (below3 HE2 hg1 (.string r2) (.int .i64 p2) (.int .i64 e2)).trans (k3.mono (below3 HE2 hg1 (.string r2) (.int .i64 p2) (.int .i64 e2)).size); clear HG2 HE2 b0 b1 b2 b3 b4 b5; obtain ⟨b0, b1, b2, b3, b4, b5⟩ := cells3 HG3))
        have HG5 := set3 HG3 (.string r3) (.int .i64 p3) (.int .i64 0)
        have HE5 := below3 HE3 hg1 (.string r3) (.int .i64 p3) (.int .i64 0)
        refine (H4.out _).mono ?_
        rintro e w4 ⟨rfl, k4⟩
        have HG4 := kept_block HG5 k4
        have HE4 := HE5.trans (k4.mono HE5.size)
        clear HG5 HE5 HG3 HE3 b0 b1 b2 b3 b4 b5 k1 k2 k3 k4
        obtain ⟨b0, b1, b2, b3, b4, b5⟩ := cells3 HG4
        go_wp2_with (go_at_call 46; refine (H5.out _).mono ?_; rintro e w' ⟨rfl, rfl⟩)
        refine bodyPost_ret (results_tmp3 rfl _ _ _) rfl ?_
        exact ⟨rfl, HE4⟩
    · rw [if_pos he3]
      go_enter Tryz.func30, Tryz.ntmps30
      go_wp2_with fail
      rw [HR.out]
      go_wp2_with (first
          | (go_at_call 55; refine (H1.out _).mono ?_; rintro e w1 ⟨rfl, k1⟩; have HG1 := heap_alloc_new w1 (.cells #[.string r1, .int .i64 p1, .int .i64 e1] 89 (0, 0)); have HE1 := k1.alloc k1.size (.cells #[.string r1, .int .i64 p1, .int .i64 e1] 89 (0, 0)); have hg1 := k1.size)
          | (go_at_call 56; refine (H2.out _).mono ?_; rintro e w2 ⟨rfl, k2⟩; have HG2 := kept_block HG1 k2; have HE2 := HE1.trans (k2.mono HE1.size); clear HG1 HE1; obtain ⟨b0, b1, b2, b3, b4, b5⟩ := cells3 HG2)
          | (go_at_call 57; refine (H3.out _).mono ?_; rintro e w3 ⟨rfl, k3⟩; have HG3 := kept_block (set3 HG2 (.string r2) (.int .i64 p2) (.int .i64 e2)) k3; have HE3 := (below3 HE2 hg1 (.string r2) (.int .i64 p2) (.int .i64 e2)).trans (k3.mono (below3 HE2 hg1 (.string r2) (.int .i64 p2) (.int .i64 e2)).size); clear HG2 HE2 b0 b1 b2 b3 b4 b5; obtain ⟨b0, b1, b2, b3, b4, b5⟩ := cells3 HG3))
      have HE5 := below3 HE3 hg1 (.string r3) (.int .i64 p3) (.int .i64 e3)
      go_region
      go_wp2
      refine bodyPost_ret (results_tmp3 rfl _ _ _) rfl ?_
      exact ⟨rfl, HE5.drew⟩
end Go.Proofs.YtoineobjmllicaaGreatDoor
