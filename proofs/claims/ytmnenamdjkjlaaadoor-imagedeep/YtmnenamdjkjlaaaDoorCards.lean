/-
  DERIVED. GIVEN WITH THE SEED: THE CARDS: each row of YtmnenamdjkjlaaaDoorRows.lean that lists a variable, with what it lists TIED to the program's text (the seventh form; the later family's looks); each row that meets fmt, with fmt's text TOLD by the authors' own Lean function (tested against real Go, not proved from fmt's source: count such statements apart). THE CARD IS WHAT COUNTS. Prove the row's statement (the work); the ties are given (YtmnenamdjkjlaaaDoorTie.lean); close each card by the builder's one call (the guide's Derived/Test/ToyasCard.lean, 'card_holds'). Laid BY PROGRAM, IN A SANDBOX (cutbox-door.mjs). By AI agents, Wed Nov 11 2026. No macro, syntax, notation, axiom, sorry.
-/
import Derived.Test.YtmnenamdjkjlaaaDoorRows
import GoSem.ClaimSeven
namespace Go.Proofs.YtmnenamdjkjlaaaDoor
namespace Rows

/-- THE TIED CARD OF 'arbourlaw15.ImageDeep'. -/
def imageDeepCard : Claim7 := { stood := { row := imageDeepRow, standIns := [], harness := (true, "688cb169cb99c4682737b11de9a6861c8516f053d933910826db80574e0df645"), looks := false }, kinds := [], alts := [], laidByText := true, laidKinds := [.data, .data, .data], laidTests := true, laidLooks := .later }
def ImageDeepCardSaid : Prop := Claim7.holds Tryd.pinned (.plain (OpenSpec.ofChange imageDeepSpec)) imageDeepCard

/-- THE SECOND FORM's CARD OF 'arbourlaw15.ImageDeep'. -/
def imageDeepUptoCard : Claim7 := { stood := { row := imageDeepUptoRow, standIns := [], harness := (true, "688cb169cb99c4682737b11de9a6861c8516f053d933910826db80574e0df645"), looks := false }, kinds := [], alts := [], laidByText := true, laidKinds := [.data, .data, .data], laidTests := true, laidLooks := .later }
def ImageDeepUptoCardSaid : Prop := Claim7.holds Tryd.pinned (.plain (OpenSpec.upto imageDeepSpec)) imageDeepUptoCard
end Rows
end Go.Proofs.YtmnenamdjkjlaaaDoor
