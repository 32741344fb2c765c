/- What the listed table and the listed handle give the walks, and the start that fits. -/
import Derived.Test.YtkbboddibgfjbaaGreatDoorFrame
import Derived.LaidHandle
import Derived.LaidLaws
namespace Go.Proofs.YtkbboddibgfjbaaGreatDoor
open Go.ChangeShapes Go.WideShapes Go.ChangeAt Go.RowKit
theorem gErr : Tryz.prog.globalNamed "errors.errorType" = some 0 := by kernel_rfl
theorem rtErr : (Tryz.prog.cutTypes.find? (·.1 == "internal/reflectlite.rtype")).map (·.2) = some 205 := by kernel_rfl
theorem oneErr : ((List.range 298).filter fun t => Tryz.prog.rowNamed t [101, 114, 114, 111, 114]) = [79] := by kernel_rfl
theorem sizeTypes : Tryz.prog.types.size = 298 := by kernel_rfl
def laidBoth : List (String × DataW Unit) := [("arbour/sha.steps", Rows.laid_arbour_sha_steps), ("errors.errorType", Rows.laid_errors_errorType)]
theorem of_both {W : World} (h : laidMetH Tryz.prog laidBoth W) : Steps W ∧ W.cell? ⟨0, 0, none⟩ = some (.iface 205 (.agg #[.pointer (some ⟨2, 79, none⟩)])) := by
  have h' : laidMet Tryz.prog laidSteps W ∧ handlesMet Tryz.prog [("errors.errorType", Rows.laid_errors_errorType)] W := h
  constructor
  · refine of_laid ?_
    rw [MakeChecks.laidMetH_plain _ _ _ (by kernel_rfl)]
    exact h'.1
  · obtain ⟨name, u, ty, e1, e2, e3, e4, e5⟩ := h'.2 _ (List.mem_singleton.2 rfl)
    have en : name = [101, 114, 114, 111, 114] := (Option.some.inj e1).symm
    subst en
    obtain rfl := Option.some.inj (rtErr.symm.trans e2)
    have hm : ty ∈ (List.range 298).filter fun t => Tryz.prog.rowNamed t [101, 114, 114, 111, 114] := List.mem_filter.2 ⟨List.mem_range.2 (by rw [← sizeTypes]; exact e3), e4⟩
    rw [oneErr] at hm
    obtain rfl := List.mem_singleton.1 hm
    have hh : typeHandle Tryz.prog 79 = .pointer (some ⟨2, 79, none⟩) := by kernel_rfl
    rw [hh] at e5
    simpa using World.var?_cell gErr e5 0
theorem door_both (os : Os) (args : Array Value) : laidMetH Tryz.prog laidBoth ((World.doorLaid Tryz.prog 21 os).forCall (fun _ _ => 0) ⟨#[], args, []⟩).memory :=
  laidMetH_of_parts3 (fuel := 8) (laidMet_of_run' 8 (by kernel_rfl) (by kernel_rfl)) (by kernel_rfl) (by kernel_rfl)
end Go.Proofs.YtkbboddibgfjbaaGreatDoor
