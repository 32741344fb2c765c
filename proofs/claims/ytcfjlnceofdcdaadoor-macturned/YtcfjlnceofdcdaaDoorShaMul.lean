/- The contract of the product of a length and eight, in two words. -/
import Derived.Test.YtcfjlnceofdcdaaDoorRows
import Derived.Test.YtcfjlnceofdcdaaDoorShaLeaves
import Derived.WalkKit
import Derived.WalkSpells
import Derived.WalkLawsBesides
import Derived.Deep.QuietTactic
import Derived.Deep.RegionWith
import Derived.Test.YtcfjlnceofdcdaaDoorTail
import Derived.BigQuiet
import Derived.Deep.WholeRow
namespace Go.Proofs.YtcfjlnceofdcdaaDoor
open Go.RowKit
set_option maxRecDepth 100000 in
set_option maxHeartbeats 1000000 in
theorem mul64_any (n : Nat) (w : World) (hn : n ≤ 1000000) :
    Calls Tryd.prog 33 #[.int .u64 n, .int .u64 8] w fun e w' => e = .returned (.tuple #[.int .u64 0, .int .u64 (8 * n)]) ∧ w' = w := by
  have h1 : bits .and .u64 (n : Int) 4294967295 = n := by rw [and_low32 _ (by omega) (by omega)]; omega
  have h2 : bits .and .u64 8 4294967295 = 8 := by decide +kernel
  have h3 : (n : Int) / 4294967296 = 0 := by omega
  have h4 : IntKind.u64.wrap ((n : Int) * 8) = 8 * n := by rw [IntKind.wrap_u64]; omega
  have h5 : (8 * (n : Int)) / 4294967296 = 0 := by omega
  have h6 : bits .and .u64 0 4294967295 = 0 := by decide +kernel
  go_enter Tryd.func33, Tryd.ntmps33
  go_wp2
  go_ret2
  exact ⟨rfl, rfl⟩
end Go.Proofs.YtcfjlnceofdcdaaDoor
