/-
  DERIVED. GIVEN WITH THE SEED: THE CARDS: each row of YtnbhchdaobimmaaGreatDoorRows.lean that lists a variable, with what it lists TIED to the program's text (the seventh form; the later family's looks); each row that meets fmt, with fmt's text TOLD by the authors' own Lean function (tested against real Go, not proved from fmt's source: count such statements apart). THE CARD IS WHAT COUNTS. Prove the row's statement (the work); the ties are given (YtnbhchdaobimmaaGreatDoorTie.lean); close each card by the builder's one call (the guide's Derived/Test/ToyasCard.lean, 'card_holds'). Laid BY PROGRAM, IN A SANDBOX (cutbox-door.mjs). By AI agents, Wed Nov 11 2026. No macro, syntax, notation, axiom, sorry.
-/
import Derived.Test.YtnbhchdaobimmaaGreatDoorRows
import GoSem.ClaimSeven
namespace Go.Proofs.YtnbhchdaobimmaaGreatDoor
namespace Rows

/-- THE TIED CARD OF 'arbourlaw16.PlanGoes'. -/
def planGoesCard : Claim7 := { stood := { row := planGoesRow, standIns := [], harness := (true, "4b3829ab497802a4de1dbebda2588fd1caf4b50b3c21a8c0decd35c6a40b64ac"), looks := false }, kinds := [], alts := [], laidByText := true, laidKinds := [.data, .data, .data, .data, .pinned], laidTests := true, laidLooks := .later }
def PlanGoesCardSaid : Prop := Claim7.holds Tryz.pinned (.plain (OpenSpec.ofChange planGoesSpec)) planGoesCard

/-- THE TIED CARD OF 'arbourlaw16.PlanHalf'. -/
def planHalfCard : Claim7 := { stood := { row := planHalfRow, standIns := [], harness := (true, "4b3829ab497802a4de1dbebda2588fd1caf4b50b3c21a8c0decd35c6a40b64ac"), looks := false }, kinds := [], alts := [], laidByText := true, laidKinds := [.data, .data, .data, .data, .pinned], laidTests := true, laidLooks := .later }
def PlanHalfCardSaid : Prop := Claim7.holds Tryz.pinned (.plain (OpenSpec.ofChange planHalfSpec)) planHalfCard

/-- THE TIED CARD OF 'arbourlaw16.PlanDoes'. -/
def planDoesCard : Claim7 := { stood := { row := planDoesRow, standIns := [], harness := (true, "4b3829ab497802a4de1dbebda2588fd1caf4b50b3c21a8c0decd35c6a40b64ac"), looks := false }, kinds := [], alts := [], laidByText := true, laidKinds := [.data, .data, .data, .data, .pinned], laidTests := true, laidLooks := .later }
def PlanDoesCardSaid : Prop := Claim7.holds Tryz.pinned (.plain (OpenSpec.ofChange planDoesSpec)) planDoesCard

/-- THE TIED CARD OF 'arbourlaw16.PlanOrders'. -/
def planOrdersCard : Claim7 := { stood := { row := planOrdersRow, standIns := [], harness := (true, "4b3829ab497802a4de1dbebda2588fd1caf4b50b3c21a8c0decd35c6a40b64ac"), looks := false }, kinds := [], alts := [], laidByText := true, laidKinds := [.data, .data, .data], laidTests := true, laidLooks := .later }
def PlanOrdersCardSaid : Prop := Claim7.holds Tryz.pinned (.plain (OpenSpec.ofChange planOrdersSpec)) planOrdersCard

/-- THE SECOND FORM's CARD OF 'arbourlaw16.PlanGoes'. -/
def planGoesUptoCard : Claim7 := { stood := { row := planGoesUptoRow, standIns := [], harness := (true, "4b3829ab497802a4de1dbebda2588fd1caf4b50b3c21a8c0decd35c6a40b64ac"), looks := false }, kinds := [], alts := [], laidByText := true, laidKinds := [.data, .data, .data, .data, .pinned], laidTests := true, laidLooks := .later }
def PlanGoesUptoCardSaid : Prop := Claim7.holds Tryz.pinned (.plain (OpenSpec.upto planGoesSpec)) planGoesUptoCard

/-- THE SECOND FORM's CARD OF 'arbourlaw16.PlanHalf'. -/
def planHalfUptoCard : Claim7 := { stood := { row := planHalfUptoRow, standIns := [], harness := (true, "4b3829ab497802a4de1dbebda2588fd1caf4b50b3c21a8c0decd35c6a40b64ac"), looks := false }, kinds := [], alts := [], laidByText := true, laidKinds := [.data, .data, .data, .data, .pinned], laidTests := true, laidLooks := .later }
def PlanHalfUptoCardSaid : Prop := Claim7.holds Tryz.pinned (.plain (OpenSpec.upto planHalfSpec)) planHalfUptoCard

/-- THE SECOND FORM's CARD OF 'arbourlaw16.PlanDoes'. -/
def planDoesUptoCard : Claim7 := { stood := { row := planDoesUptoRow, standIns := [], harness := (true, "4b3829ab497802a4de1dbebda2588fd1caf4b50b3c21a8c0decd35c6a40b64ac"), looks := false }, kinds := [], alts := [], laidByText := true, laidKinds := [.data, .data, .data, .data, .pinned], laidTests := true, laidLooks := .later }
def PlanDoesUptoCardSaid : Prop := Claim7.holds Tryz.pinned (.plain (OpenSpec.upto planDoesSpec)) planDoesUptoCard

/-- THE SECOND FORM's CARD OF 'arbourlaw16.PlanOrders'. -/
def planOrdersUptoCard : Claim7 := { stood := { row := planOrdersUptoRow, standIns := [], harness := (true, "4b3829ab497802a4de1dbebda2588fd1caf4b50b3c21a8c0decd35c6a40b64ac"), looks := false }, kinds := [], alts := [], laidByText := true, laidKinds := [.data, .data, .data], laidTests := true, laidLooks := .later }
def PlanOrdersUptoCardSaid : Prop := Claim7.holds Tryz.pinned (.plain (OpenSpec.upto planOrdersSpec)) planOrdersUptoCard
end Rows
end Go.Proofs.YtnbhchdaobimmaaGreatDoor
