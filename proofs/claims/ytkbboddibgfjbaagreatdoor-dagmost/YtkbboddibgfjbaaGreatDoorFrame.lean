/- What the listed table gives the walks, and the start that fits. -/
import Derived.Test.YtkbboddibgfjbaaGreatDoorShaTwo
import Derived.ProofKit
import Derived.LaidMore
import Derived.OpenShut
import Derived.ShutString
import Derived.Stop.Joined
import Derived.Lib.LaidTab
namespace Go.Proofs.YtkbboddibgfjbaaGreatDoor
open Go.ChangeShapes Go.WideShapes Go.ChangeAt Go.RowKit
theorem own : ownKnob Tryz.prog.godebug = none := by kernel_rfl
theorem gSteps : Tryz.prog.globalNamed "arbour/sha.steps" = some 1 := by kernel_rfl
theorem tSteps : (Tryz.prog.globals[1]?).map (·.type) = some 235 := by kernel_rfl
theorem cells39 : Tryz.prog.cellsOf 235 = 80 := by kernel_rfl
theorem cells22 : Tryz.prog.cellsOf 45 = 1 := by kernel_rfl
def laidSteps : List (String × DataW Unit) := [("arbour/sha.steps", Rows.laid_arbour_sha_steps)]
theorem laidSteps_tab : laidSteps = [("arbour/sha.steps", Lib.tabData .u64 Sha.kl)] := by rfl
theorem cells80_kl : Sha.cells80 Sha.kk = (Sha.kl.map fun z => Value.int .u64 z).toArray := by kernel_rfl
theorem of_laid {W : World} (h : laidMetH Tryz.prog laidSteps W) : Steps W := by
  rw [MakeChecks.laidMetH_plain _ _ _ (by kernel_rfl), laidSteps_tab] at h
  have hT := Lib.tabIs_of_head gSteps tSteps under39 Tryz.underlying45 cells22 cells39 h
  unfold Lib.TabIs World.var? at hT
  rw [gSteps] at hT
  simp only [Option.bind_some] at hT
  split at hT
  · rename_i cs t fr hh
    refine ⟨t, fr, ?_⟩
    rw [hh, cells80_kl]
    rw [Option.some.inj hT]
  · cases hT
/-- The door's own heap meets the condition. -/
theorem door_met (os : Os) (args : Array Value) : laidMetH Tryz.prog laidSteps ((World.doorLaid Tryz.prog 21 os).forCall (fun _ _ => 0) ⟨#[], args, []⟩).memory :=
  laidMetH_of_parts3 (fuel := 8) (laidMet_of_run' 8 (by kernel_rfl) (by kernel_rfl)) (by kernel_rfl) (by kernel_rfl)
end Go.Proofs.YtkbboddibgfjbaaGreatDoor
