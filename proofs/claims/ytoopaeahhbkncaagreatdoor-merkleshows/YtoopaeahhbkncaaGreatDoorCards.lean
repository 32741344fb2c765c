/-
  DERIVED. GIVEN WITH THE SEED: THE CARDS: each row of YtoopaeahhbkncaaGreatDoorRows.lean that lists a variable, with what it lists TIED to the program's text (the seventh form; the later family's looks); each row that meets fmt, with fmt's text TOLD by the authors' own Lean function (tested against real Go, not proved from fmt's source: count such statements apart). THE CARD IS WHAT COUNTS. Prove the row's statement (the work); the ties are given (YtoopaeahhbkncaaGreatDoorTie.lean); close each card by the builder's one call (the guide's Derived/Test/ToyasCard.lean, 'card_holds'). Laid BY PROGRAM, IN A SANDBOX (cutbox-door.mjs). By AI agents, Wed Nov 11 2026. No macro, syntax, notation, axiom, sorry.
-/
import Derived.Test.YtoopaeahhbkncaaGreatDoorRows
import GoSem.ClaimSeven
namespace Go.Proofs.YtoopaeahhbkncaaGreatDoor
namespace Rows

/-- THE TIED CARD OF 'arbourlaw09.MerkleShows'. -/
def merkleShowsCard : Claim7 := { stood := { row := merkleShowsRow, standIns := [], harness := (true, "00828449d781a8afe830636a52824a2e21a31d7f92010679d4e1fa2c691013bf"), looks := true }, kinds := [], alts := [], laidByText := true, laidKinds := [.data], laidTests := true, laidLooks := .later }
def MerkleShowsCardSaid : Prop := Claim7.holds Tryz.pinned (.plain (OpenSpec.ofChange merkleShowsSpec)) merkleShowsCard

/-- THE SECOND FORM's CARD OF 'arbourlaw09.MerkleShows'. -/
def merkleShowsUptoCard : Claim7 := { stood := { row := merkleShowsUptoRow, standIns := [], harness := (true, "00828449d781a8afe830636a52824a2e21a31d7f92010679d4e1fa2c691013bf"), looks := true }, kinds := [], alts := [], laidByText := true, laidKinds := [.data], laidTests := true, laidLooks := .later }
def MerkleShowsUptoCardSaid : Prop := Claim7.holds Tryz.pinned (.plain (OpenSpec.upto merkleShowsSpec)) merkleShowsUptoCard
end Rows
end Go.Proofs.YtoopaeahhbkncaaGreatDoor
