/- Keys and tags of one seed, reckoned by the kernel. -/
import Derived.Test.YtcfjlnceofdcdaaDoorMacMath
namespace Go.Sha
def seedB : List UInt8 := [115, 101, 101, 100]
def textB : List UInt8 := [116, 101, 120, 116]
def testB : List UInt8 := [116, 101, 115, 116]
def key0 : List UInt8 := [209, 83, 139, 228, 44, 77, 176, 0, 81, 182, 119, 99, 217, 234, 183, 72, 177, 132, 91, 239, 12, 30, 182, 109, 47, 100, 157, 69, 34, 74, 50, 37]
def key1 : List UInt8 := [180, 74, 140, 209, 12, 6, 247, 220, 73, 153, 131, 172, 45, 197, 231, 58, 102, 86, 71, 41, 248, 26, 182, 225, 4, 62, 226, 182, 82, 67, 9, 126]
def tag1 : List UInt8 := [124, 211, 109, 104, 57, 72, 103, 162, 126, 203, 24, 128, 87, 167, 66, 184, 77, 245, 1, 51, 102, 237, 186, 26, 8, 51, 188, 11, 2, 38, 171, 124]
set_option maxRecDepth 100000 in
theorem key0_is : ringKey seedB 0 = key0 := by decide +kernel
set_option maxRecDepth 100000 in
theorem key1_is : ringKey seedB 1 = key1 := by decide +kernel
set_option maxRecDepth 100000 in
theorem tag1_is : tag key1 textB = tag1 := by decide +kernel
set_option maxRecDepth 100000 in
theorem test1_not : ¬ tag key1 testB = tag1 := by decide +kernel
set_option maxRecDepth 100000 in
theorem text0_not : ¬ tag key0 textB = tag1 := by decide +kernel
end Go.Sha
