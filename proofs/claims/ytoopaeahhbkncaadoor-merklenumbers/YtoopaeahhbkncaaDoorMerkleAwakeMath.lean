/- The wake-up call's share, reckoned by the kernel. -/
import Derived.Test.YtoopaeahhbkncaaDoorMerkleMath
namespace Go.Mk
def textB : ByteArray := ⟨#[116, 101, 120, 116]⟩
def testB : ByteArray := ⟨#[116, 101, 115, 116]⟩
set_option maxRecDepth 100000 in
theorem digest_text : digest textB = ⟨(Sha.sum (Sha.parts 75 [[116, 101, 120, 116]])).toArray⟩ := rfl
set_option maxRecDepth 100000 in
theorem awake_ne : (Sha.sum (Sha.parts 70 [(Wire.numB 8 4).data.toList, (Wire.numB 8 1).data.toList, Sha.sum (Sha.parts 75 [[116, 101, 115, 116]])])) ≠ (Sha.sum (Sha.parts 70 [(Wire.numB 8 4).data.toList, (Wire.numB 8 1).data.toList, Sha.sum (Sha.parts 75 [[116, 101, 120, 116]])])) := by decide +kernel
theorem named_ne : named 4 1 (digest testB) ≠ named 4 1 (digest textB) := fun e => awake_ne (by
  have := congrArg (fun b : ByteArray => b.data.toList) e
  exact this)
end Go.Mk
