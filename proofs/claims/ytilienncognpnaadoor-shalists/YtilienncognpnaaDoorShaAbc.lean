/- The digest of abc, reckoned by the kernel. -/
import Derived.Test.YtilienncognpnaaDoorShaMath3
namespace Go.Sha
set_option maxRecDepth 100000 in
theorem abc : sum [97, 98, 99] = [221, 175, 53, 161, 147, 97, 122, 186, 204, 65, 115, 73, 174, 32, 65, 49, 18, 230, 250, 78, 137, 169, 126, 162, 10, 158, 238, 230, 75, 85, 211, 154] := by decide +kernel
end Go.Sha
