/-
  DERIVED. GIVEN WITH THE SEED: THE CARDS: each row of YtmnenamdjkjlaaaGreatDoorRows.lean that lists a variable, with what it lists TIED to the program's text (the seventh form; the later family's looks); each row that meets fmt, with fmt's text TOLD by the authors' own Lean function (tested against real Go, not proved from fmt's source: count such statements apart). THE CARD IS WHAT COUNTS. Prove the row's statement (the work); the ties are given (YtmnenamdjkjlaaaGreatDoorTie.lean); close each card by the builder's one call (the guide's Derived/Test/ToyasCard.lean, 'card_holds'). Laid BY PROGRAM, IN A SANDBOX (cutbox-door.mjs). By AI agents, Wed Nov 11 2026. No macro, syntax, notation, axiom, sorry.
-/
import Derived.Test.YtmnenamdjkjlaaaGreatDoorRows
import GoSem.ClaimSeven
namespace Go.Proofs.YtmnenamdjkjlaaaGreatDoor
namespace Rows

/-- THE TIED CARD OF 'arbourlaw15.ImageOf'. -/
def imageOfCard : Claim7 := { stood := { row := imageOfRow, standIns := [], harness := (true, "cfd416415b3949c0085b9363b41ea7310f80ef9ece103d061d2799447e18fb90"), looks := false }, kinds := [], alts := [], laidByText := true, laidKinds := [.data, .data, .data], laidTests := true, laidLooks := .later }
def ImageOfCardSaid : Prop := Claim7.holds Tryz.pinned (.plain (OpenSpec.ofChange imageOfSpec)) imageOfCard

/-- THE TIED CARD OF 'arbourlaw15.ImageFinds'. -/
def imageFindsCard : Claim7 := { stood := { row := imageFindsRow, standIns := [], harness := (true, "cfd416415b3949c0085b9363b41ea7310f80ef9ece103d061d2799447e18fb90"), looks := false }, kinds := [], alts := [], laidByText := true, laidKinds := [.data, .data, .data], laidTests := true, laidLooks := .later }
def ImageFindsCardSaid : Prop := Claim7.holds Tryz.pinned (.plain (OpenSpec.ofChange imageFindsSpec)) imageFindsCard

/-- THE TIED CARD OF 'arbourlaw15.ImageOrders'. -/
def imageOrdersCard : Claim7 := { stood := { row := imageOrdersRow, standIns := [], harness := (true, "cfd416415b3949c0085b9363b41ea7310f80ef9ece103d061d2799447e18fb90"), looks := false }, kinds := [], alts := [], laidByText := true, laidKinds := [.data, .data, .data], laidTests := true, laidLooks := .later }
def ImageOrdersCardSaid : Prop := Claim7.holds Tryz.pinned (.plain (OpenSpec.ofChange imageOrdersSpec)) imageOrdersCard

/-- THE SECOND FORM's CARD OF 'arbourlaw15.ImageOf'. -/
def imageOfUptoCard : Claim7 := { stood := { row := imageOfUptoRow, standIns := [], harness := (true, "cfd416415b3949c0085b9363b41ea7310f80ef9ece103d061d2799447e18fb90"), looks := false }, kinds := [], alts := [], laidByText := true, laidKinds := [.data, .data, .data], laidTests := true, laidLooks := .later }
def ImageOfUptoCardSaid : Prop := Claim7.holds Tryz.pinned (.plain (OpenSpec.upto imageOfSpec)) imageOfUptoCard

/-- THE SECOND FORM's CARD OF 'arbourlaw15.ImageFinds'. -/
def imageFindsUptoCard : Claim7 := { stood := { row := imageFindsUptoRow, standIns := [], harness := (true, "cfd416415b3949c0085b9363b41ea7310f80ef9ece103d061d2799447e18fb90"), looks := false }, kinds := [], alts := [], laidByText := true, laidKinds := [.data, .data, .data], laidTests := true, laidLooks := .later }
def ImageFindsUptoCardSaid : Prop := Claim7.holds Tryz.pinned (.plain (OpenSpec.upto imageFindsSpec)) imageFindsUptoCard

/-- THE SECOND FORM's CARD OF 'arbourlaw15.ImageOrders'. -/
def imageOrdersUptoCard : Claim7 := { stood := { row := imageOrdersUptoRow, standIns := [], harness := (true, "cfd416415b3949c0085b9363b41ea7310f80ef9ece103d061d2799447e18fb90"), looks := false }, kinds := [], alts := [], laidByText := true, laidKinds := [.data, .data, .data], laidTests := true, laidLooks := .later }
def ImageOrdersUptoCardSaid : Prop := Claim7.holds Tryz.pinned (.plain (OpenSpec.upto imageOrdersSpec)) imageOrdersUptoCard
end Rows
end Go.Proofs.YtmnenamdjkjlaaaGreatDoor
