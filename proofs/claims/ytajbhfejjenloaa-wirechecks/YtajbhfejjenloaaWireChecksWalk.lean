/- The walk of WireChecks. -/
import Derived.Test.YtajbhfejjenloaaWireAwake
namespace Go.Proofs.Ytajbhfejjenloaa
open Go.RowKit Go.Wire
set_option maxHeartbeats 400000 in
theorem wireChecks_any (s : ByteArray) (w : World) (hs : s.size ≤ maxLen) :
    Calls Try.prog 4 #[.string s] w fun e w' => e = .returned (.bool true) ∧ Below w.heap.size w w' := by
  have hf := few_size s
  have HF : Hid (∀ w : World, Calls Try.prog 9 #[.string s] w fun e w' => e = .returned (.string (few s)) ∧ w' = w) := fun w => few_any s w hs
  generalize few s = t at hf HF
  have ht : t.size ≤ maxLen := by unfold maxLen; omega
  go_enter Try.func4, Try.ntmps4
  go_wp2_with (first
    | (go_at_call 13; refine (awake_any _).mono ?_; rintro e w1 ⟨rfl, k1⟩)
    | (go_at_call 9; refine (HF.out _).mono ?_; rintro e w' ⟨rfl, rfl⟩)
    | (go_at_call 17; refine (fnv_any t _ ht).mono ?_; rintro e w' ⟨rfl, rfl⟩)
    | (go_at_call 18; refine (rfnv_any t _ ht).mono ?_; rintro e w' ⟨rfl, rfl⟩))
  go_ret
  exact ⟨rfl, by assumption⟩
end Go.Proofs.Ytajbhfejjenloaa
