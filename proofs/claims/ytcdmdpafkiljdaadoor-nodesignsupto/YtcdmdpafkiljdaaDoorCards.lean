/-
  DERIVED. GIVEN WITH THE SEED: THE CARDS: each row of YtcdmdpafkiljdaaDoorRows.lean that lists a variable, with what it lists TIED to the program's text (the seventh form; the later family's looks); each row that meets fmt, with fmt's text TOLD by the authors' own Lean function (tested against real Go, not proved from fmt's source: count such statements apart). THE CARD IS WHAT COUNTS. Prove the row's statement (the work); the ties are given (YtcdmdpafkiljdaaDoorTie.lean); close each card by the builder's one call (the guide's Derived/Test/ToyasCard.lean, 'card_holds'). Laid BY PROGRAM, IN A SANDBOX (cutbox-door.mjs). By AI agents, Wed Nov 11 2026. No macro, syntax, notation, axiom, sorry.
-/
import Derived.Test.YtcdmdpafkiljdaaDoorRows
import GoSem.ClaimSeven
namespace Go.Proofs.YtcdmdpafkiljdaaDoor
namespace Rows

/-- THE TIED CARD OF 'arbourlaw11.NodeSigns'. -/
def nodeSignsCard : Claim7 := { stood := { row := nodeSignsRow, standIns := [], harness := (true, "3da5bfe18e3e2e894cddc3015f8604d54203500fe813fb8b7b503ac6f5ad7642"), looks := false }, kinds := [], alts := [], laidByText := true, laidKinds := [.data], laidTests := true, laidLooks := .later }
def NodeSignsCardSaid : Prop := Claim7.holds Tryd.pinned (.plain (OpenSpec.ofChange nodeSignsSpec)) nodeSignsCard

/-- THE TIED CARD OF 'arbourlaw11.NodeHashes'. -/
def nodeHashesCard : Claim7 := { stood := { row := nodeHashesRow, standIns := [], harness := (true, "3da5bfe18e3e2e894cddc3015f8604d54203500fe813fb8b7b503ac6f5ad7642"), looks := false }, kinds := [], alts := [], laidByText := true, laidKinds := [.data], laidTests := true, laidLooks := .later }
def NodeHashesCardSaid : Prop := Claim7.holds Tryd.pinned (.plain (OpenSpec.ofChange nodeHashesSpec)) nodeHashesCard

/-- THE SECOND FORM's CARD OF 'arbourlaw11.NodeSigns'. -/
def nodeSignsUptoCard : Claim7 := { stood := { row := nodeSignsUptoRow, standIns := [], harness := (true, "3da5bfe18e3e2e894cddc3015f8604d54203500fe813fb8b7b503ac6f5ad7642"), looks := false }, kinds := [], alts := [], laidByText := true, laidKinds := [.data], laidTests := true, laidLooks := .later }
def NodeSignsUptoCardSaid : Prop := Claim7.holds Tryd.pinned (.plain (OpenSpec.upto nodeSignsSpec)) nodeSignsUptoCard

/-- THE SECOND FORM's CARD OF 'arbourlaw11.NodeHashes'. -/
def nodeHashesUptoCard : Claim7 := { stood := { row := nodeHashesUptoRow, standIns := [], harness := (true, "3da5bfe18e3e2e894cddc3015f8604d54203500fe813fb8b7b503ac6f5ad7642"), looks := false }, kinds := [], alts := [], laidByText := true, laidKinds := [.data], laidTests := true, laidLooks := .later }
def NodeHashesUptoCardSaid : Prop := Claim7.holds Tryd.pinned (.plain (OpenSpec.upto nodeHashesSpec)) nodeHashesUptoCard
end Rows
end Go.Proofs.YtcdmdpafkiljdaaDoor
