/- The contract of a text cut at 500 bytes. -/
import Derived.Test.YtajbhfejjenloaaWireAwake
namespace Go.Wire
def few (s : ByteArray) : ByteArray := if 500 < s.size then s.extract 0 500 else s
theorem few_size (s : ByteArray) : (few s).size ≤ 500 := by
  unfold few; split
  · rw [ByteArray.size_extract]; omega
  · omega
end Go.Wire
namespace Go.Proofs.Ytajbhfejjenloaa
open Go.RowKit Go.Wire
set_option maxHeartbeats 400000 in
theorem few_any (s : ByteArray) (w : World) (hs : s.size ≤ maxLen) :
    Calls Try.prog 9 #[.string s] w fun e w' => e = .returned (.string (few s)) ∧ w' = w := by
  unfold maxLen at hs
  by_cases h : 500 < s.size
  · go_enter Try.func9, Try.ntmps9
    go_wp2
    go_ret
    exact ⟨by rw [few, if_pos h]; rfl, rfl⟩
  · go_enter Try.func9, Try.ntmps9
    go_wp2
    go_ret
    exact ⟨by rw [few, if_neg h]; rfl, rfl⟩
end Go.Proofs.Ytajbhfejjenloaa
