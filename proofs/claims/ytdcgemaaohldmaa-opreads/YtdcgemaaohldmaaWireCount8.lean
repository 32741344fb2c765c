/- The contract of a text's count. -/
import Derived.Test.YtdcgemaaohldmaaWireNumber
namespace Go.Proofs.Ytdcgemaaohldmaa
open Go.RowKit Go.Wire
set_option maxHeartbeats 400000 in
theorem count8_any (s : ByteArray) (w : World) (hs : s.size ≤ maxLen) :
    Calls Try.prog 69 #[.string s] w fun e w' => e = .returned (.string (numB 8 s.size)) ∧ Below w.heap.size w w' := by
  unfold maxLen at hs
  have HN : Hid (∀ w : World, Calls Try.prog 68 #[.int .u64 s.size, .int .i64 4] w fun e w' => e = .returned (.string (numB 8 s.size)) ∧ Below w.heap.size w w') := fun w => number_mid s.size 4 w (by omega) (by decide)
  generalize numB 8 s.size = t at HN
  go_enter Try.func69, Try.ntmps69
  go_wp2_with (go_at_call 68; refine (HN.out _).mono ?_; rintro e w1 ⟨rfl, k1⟩)
  go_ret
  exact ⟨rfl, by assumption⟩
end Go.Proofs.Ytdcgemaaohldmaa
