/- The contract of the program being awake: the digest of abc. -/
import Derived.Test.YtilienncognpnaaDoorRows
import Derived.Test.YtilienncognpnaaDoorShaRefSum
import Derived.Test.YtilienncognpnaaDoorShaAbc
import Derived.WalkKit
import Derived.WalkSpells
import Derived.WalkLawsBesides
import Derived.Deep.QuietTactic
import Derived.Deep.RegionWith
import Derived.Test.YtilienncognpnaaDoorTail
import Derived.BigQuiet
import Derived.Deep.WholeRow
import Derived.Lib.QuietBelow
namespace Go.Proofs.YtilienncognpnaaDoor
open Go.RowKit
open Go.Sort
theorem abc_any (w : World) (hst : Steps w) :
    Calls Tryd.prog 13 #[.string ⟨#[97, 98, 99]⟩] w fun e w' => e = .returned (.string ⟨#[221, 175, 53, 161, 147, 97, 122, 186, 204, 65, 115, 73, 174, 32, 65, 49, 18, 230, 250, 78, 137, 169, 126, 162, 10, 158, 238, 230, 75, 85, 211, 154]⟩) ∧ Below w.heap.size w w' := by
  refine (sum_any ⟨#[97, 98, 99]⟩ w (by decide) hst).mono ?_
  rintro e w1 ⟨rfl, hb⟩
  refine ⟨?_, hb⟩
  show Ending.returned (.string ⟨(Sha.sum [97, 98, 99]).toArray⟩) = _
  rw [Sha.abc]
set_option maxRecDepth 100000 in
set_option maxHeartbeats 1000000 in
theorem awake_any (w : World) (hst : Steps w) :
    Calls Tryd.prog 8 #[] w fun e w' => e = .returned (.bool true) ∧ Below w.heap.size w w' := by
  go_enter Tryd.func8, Tryd.ntmps8
  go_wp2_with fail
  refine (abc_any w hst).mono ?_
  clear hst
  rintro e w1 ⟨rfl, hb⟩
  go_wp2
  go_ret
  exact ⟨rfl, hb⟩
end Go.Proofs.YtilienncognpnaaDoor
