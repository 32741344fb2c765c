/- Several texts in one: Frame. -/
import Derived.Test.YtigkemkebceacaaDoorShaTwo
import Derived.ProofKit
import Derived.LaidMore
import Derived.OpenShut
import Derived.ShutString
import Derived.Stop.Joined
import Derived.Lib.LaidTab
/- What the listed table gives the walks, and the start that fits. -/
namespace Go.Proofs.YtigkemkebceacaaDoor
open Go.ChangeShapes Go.WideShapes Go.ChangeAt Go.RowKit
theorem own : ownKnob Tryd.prog.godebug = none := by kernel_rfl
theorem gSteps : Tryd.prog.globalNamed "arbour/sha.steps" = some 0 := by kernel_rfl
theorem tSteps : (Tryd.prog.globals[0]?).map (·.type) = some 125 := by kernel_rfl
theorem cells39 : Tryd.prog.cellsOf 125 = 80 := by kernel_rfl
theorem cells22 : Tryd.prog.cellsOf 34 = 1 := by kernel_rfl
def laidSteps : List (String × DataW Unit) := [("arbour/sha.steps", Rows.laid_arbour_sha_steps)]
theorem laidSteps_tab : laidSteps = [("arbour/sha.steps", Lib.tabData .u64 Sha.kl)] := by rfl
theorem cells80_kl : Sha.cells80 Sha.kk = (Sha.kl.map fun z => Value.int .u64 z).toArray := by kernel_rfl
theorem of_laid {W : World} (h : laidMetH Tryd.prog laidSteps W) : Steps W := by
  rw [MakeChecks.laidMetH_plain _ _ _ (by kernel_rfl), laidSteps_tab] at h
  have hT := Lib.tabIs_of_head gSteps tSteps under39 Tryd.underlying34 cells22 cells39 h
  unfold Lib.TabIs World.var? at hT
  rw [gSteps] at hT
  simp only [Option.bind_some] at hT
  split at hT
  · rename_i cs t fr hh
    refine ⟨t, fr, ?_⟩
    rw [hh, cells80_kl]
    rw [Option.some.inj hT]
  · cases hT
/-- The door's own heap meets the condition. -/
theorem door_met (os : Os) (args : Array Value) : laidMetH Tryd.prog laidSteps ((World.doorLaid Tryd.prog 14 os).forCall (fun _ _ => 0) ⟨#[], args, []⟩).memory :=
  laidMetH_of_parts3 (fuel := 8) (laidMet_of_run' 8 (by kernel_rfl) (by kernel_rfl)) (by kernel_rfl) (by kernel_rfl)
end Go.Proofs.YtigkemkebceacaaDoor
