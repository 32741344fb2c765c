/- The walk of StampThings. -/
import Derived.Test.YtglacfbhfhlbcaaStampClock
namespace Go.Proofs.Ytglacfbhfhlbcaa
open Go.RowKit Go.Wire Go.Stamp
set_option maxHeartbeats 1000000 in
theorem stampThings_any (n : Int) (w : World) (_ : 0 ≤ n ∧ n ≤ 18446744073709551615) :
    Calls Try.prog 4 #[.int .u64 n] w fun e w' => e = .returned (.bool true) ∧ Below w.heap.size w w' := by
  have H1 : Hid (∀ w, Calls Try.prog 16 #[.int .u64 n] w fun e w' => e = .returned (.bool (decide (16 ≤ n) && decide (n ≤ 4503599627370495))) ∧ w' = w) := fun w => made_any n w
  have H2 : Hid (∀ w, Calls Try.prog 17 #[.int .u64 n] w fun e w' => e = .returned (.bool (decide (16 ≤ n) && decide (n ≤ 4503599627370495))) ∧ w' = w) := fun w => rmade_any n w
  generalize (decide (16 ≤ n) && decide (n ≤ 4503599627370495)) = b at H1 H2
  go_enter Try.func4, Try.ntmps4
  go_wp2_with (first
    | (go_at_call 11; refine (awake_any _).mono ?_; rintro e w1 ⟨rfl, k1⟩)
    | (go_at_call 16; refine (H1.out _).mono ?_; rintro e w' ⟨rfl, rfl⟩)
    | (go_at_call 17; refine (H2.out _).mono ?_; rintro e w' ⟨rfl, rfl⟩))
  go_ret
  exact ⟨by simp, k1⟩
end Go.Proofs.Ytglacfbhfhlbcaa
