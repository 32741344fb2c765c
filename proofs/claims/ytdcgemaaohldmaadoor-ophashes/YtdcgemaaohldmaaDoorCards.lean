/-
  DERIVED. GIVEN WITH THE SEED: THE CARDS: each row of YtdcgemaaohldmaaDoorRows.lean that lists a variable, with what it lists TIED to the program's text (the seventh form; the later family's looks); each row that meets fmt, with fmt's text TOLD by the authors' own Lean function (tested against real Go, not proved from fmt's source: count such statements apart). THE CARD IS WHAT COUNTS. Prove the row's statement (the work); the ties are given (YtdcgemaaohldmaaDoorTie.lean); close each card by the builder's one call (the guide's Derived/Test/ToyasCard.lean, 'card_holds'). Laid BY PROGRAM, IN A SANDBOX (cutbox-door.mjs). By AI agents, Wed Nov 11 2026. No macro, syntax, notation, axiom, sorry.
-/
import Derived.Test.YtdcgemaaohldmaaDoorRows
import GoSem.ClaimSeven
namespace Go.Proofs.YtdcgemaaohldmaaDoor
namespace Rows

/-- THE TIED CARD OF 'arbourlaw05.OpBytes'. -/
def opBytesCard : Claim7 := { stood := { row := opBytesRow, standIns := [], harness := (true, "bf2b3033efa26a6dcace6c53c0b0e7c248c04b85e6bfc851dca177c64b5b5a9d"), looks := false }, kinds := [], alts := [], laidByText := true, laidKinds := [.data], laidTests := true, laidLooks := .later }
def OpBytesCardSaid : Prop := Claim7.holds Tryd.pinned (.plain (OpenSpec.ofChange opBytesSpec)) opBytesCard

/-- THE TIED CARD OF 'arbourlaw05.OpHashes'. -/
def opHashesCard : Claim7 := { stood := { row := opHashesRow, standIns := [], harness := (true, "bf2b3033efa26a6dcace6c53c0b0e7c248c04b85e6bfc851dca177c64b5b5a9d"), looks := false }, kinds := [], alts := [], laidByText := true, laidKinds := [.data], laidTests := true, laidLooks := .later }
def OpHashesCardSaid : Prop := Claim7.holds Tryd.pinned (.plain (OpenSpec.ofChange opHashesSpec)) opHashesCard

/-- THE SECOND FORM's CARD OF 'arbourlaw05.OpBytes'. -/
def opBytesUptoCard : Claim7 := { stood := { row := opBytesUptoRow, standIns := [], harness := (true, "bf2b3033efa26a6dcace6c53c0b0e7c248c04b85e6bfc851dca177c64b5b5a9d"), looks := false }, kinds := [], alts := [], laidByText := true, laidKinds := [.data], laidTests := true, laidLooks := .later }
def OpBytesUptoCardSaid : Prop := Claim7.holds Tryd.pinned (.plain (OpenSpec.upto opBytesSpec)) opBytesUptoCard

/-- THE SECOND FORM's CARD OF 'arbourlaw05.OpHashes'. -/
def opHashesUptoCard : Claim7 := { stood := { row := opHashesUptoRow, standIns := [], harness := (true, "bf2b3033efa26a6dcace6c53c0b0e7c248c04b85e6bfc851dca177c64b5b5a9d"), looks := false }, kinds := [], alts := [], laidByText := true, laidKinds := [.data], laidTests := true, laidLooks := .later }
def OpHashesUptoCardSaid : Prop := Claim7.holds Tryd.pinned (.plain (OpenSpec.upto opHashesSpec)) opHashesUptoCard
end Rows
end Go.Proofs.YtdcgemaaohldmaaDoor
