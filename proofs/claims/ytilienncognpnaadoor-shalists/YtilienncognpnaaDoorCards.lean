/-
  DERIVED. GIVEN WITH THE SEED: THE CARDS: each row of YtilienncognpnaaDoorRows.lean that lists a variable, with what it lists TIED to the program's text (the seventh form; the later family's looks); each row that meets fmt, with fmt's text TOLD by the authors' own Lean function (tested against real Go, not proved from fmt's source: count such statements apart). THE CARD IS WHAT COUNTS. Prove the row's statement (the work); the ties are given (YtilienncognpnaaDoorTie.lean); close each card by the builder's one call (the guide's Derived/Test/ToyasCard.lean, 'card_holds'). Laid BY PROGRAM, IN A SANDBOX (cutbox-door.mjs). By AI agents, Wed Nov 11 2026. No macro, syntax, notation, axiom, sorry.
-/
import Derived.Test.YtilienncognpnaaDoorRows
import GoSem.ClaimSeven
namespace Go.Proofs.YtilienncognpnaaDoor
namespace Rows

/-- THE TIED CARD OF 'arbourlaw01.ShaMixes'. -/
def shaMixesCard : Claim7 := { stood := { row := shaMixesRow, standIns := [], harness := (true, "3f90fefb547eaaa9c2114eee8e20d7bbd54cb2b77c3a314015c541af51cae846"), looks := false }, kinds := [], alts := [], laidByText := true, laidKinds := [.data], laidTests := true, laidLooks := .later }
def ShaMixesCardSaid : Prop := Claim7.holds Tryd.pinned (.plain (OpenSpec.ofChange shaMixesSpec)) shaMixesCard

/-- THE TIED CARD OF 'arbourlaw01.ShaWhole'. -/
def shaWholeCard : Claim7 := { stood := { row := shaWholeRow, standIns := [], harness := (true, "3f90fefb547eaaa9c2114eee8e20d7bbd54cb2b77c3a314015c541af51cae846"), looks := false }, kinds := [], alts := [], laidByText := true, laidKinds := [.data], laidTests := true, laidLooks := .later }
def ShaWholeCardSaid : Prop := Claim7.holds Tryd.pinned (.plain (OpenSpec.ofChange shaWholeSpec)) shaWholeCard

/-- THE TIED CARD OF 'arbourlaw01.ShaLists'. -/
def shaListsCard : Claim7 := { stood := { row := shaListsRow, standIns := [], harness := (true, "3f90fefb547eaaa9c2114eee8e20d7bbd54cb2b77c3a314015c541af51cae846"), looks := false }, kinds := [], alts := [], laidByText := true, laidKinds := [.data], laidTests := true, laidLooks := .later }
def ShaListsCardSaid : Prop := Claim7.holds Tryd.pinned (.plain (OpenSpec.ofChange shaListsSpec)) shaListsCard

/-- THE TIED CARD OF 'arbourlaw01.ShaCollides'. -/
def shaCollidesCard : Claim7 := { stood := { row := shaCollidesRow, standIns := [], harness := (true, "3f90fefb547eaaa9c2114eee8e20d7bbd54cb2b77c3a314015c541af51cae846"), looks := false }, kinds := [], alts := [], laidByText := true, laidKinds := [.data], laidTests := true, laidLooks := .later }
def ShaCollidesCardSaid : Prop := Claim7.holds Tryd.pinned (.plain (OpenSpec.ofChange shaCollidesSpec)) shaCollidesCard

/-- THE SECOND FORM's CARD OF 'arbourlaw01.ShaMixes'. -/
def shaMixesUptoCard : Claim7 := { stood := { row := shaMixesUptoRow, standIns := [], harness := (true, "3f90fefb547eaaa9c2114eee8e20d7bbd54cb2b77c3a314015c541af51cae846"), looks := false }, kinds := [], alts := [], laidByText := true, laidKinds := [.data], laidTests := true, laidLooks := .later }
def ShaMixesUptoCardSaid : Prop := Claim7.holds Tryd.pinned (.plain (OpenSpec.upto shaMixesSpec)) shaMixesUptoCard

/-- THE SECOND FORM's CARD OF 'arbourlaw01.ShaWhole'. -/
def shaWholeUptoCard : Claim7 := { stood := { row := shaWholeUptoRow, standIns := [], harness := (true, "3f90fefb547eaaa9c2114eee8e20d7bbd54cb2b77c3a314015c541af51cae846"), looks := false }, kinds := [], alts := [], laidByText := true, laidKinds := [.data], laidTests := true, laidLooks := .later }
def ShaWholeUptoCardSaid : Prop := Claim7.holds Tryd.pinned (.plain (OpenSpec.upto shaWholeSpec)) shaWholeUptoCard

/-- THE SECOND FORM's CARD OF 'arbourlaw01.ShaLists'. -/
def shaListsUptoCard : Claim7 := { stood := { row := shaListsUptoRow, standIns := [], harness := (true, "3f90fefb547eaaa9c2114eee8e20d7bbd54cb2b77c3a314015c541af51cae846"), looks := false }, kinds := [], alts := [], laidByText := true, laidKinds := [.data], laidTests := true, laidLooks := .later }
def ShaListsUptoCardSaid : Prop := Claim7.holds Tryd.pinned (.plain (OpenSpec.upto shaListsSpec)) shaListsUptoCard

/-- THE SECOND FORM's CARD OF 'arbourlaw01.ShaCollides'. -/
def shaCollidesUptoCard : Claim7 := { stood := { row := shaCollidesUptoRow, standIns := [], harness := (true, "3f90fefb547eaaa9c2114eee8e20d7bbd54cb2b77c3a314015c541af51cae846"), looks := false }, kinds := [], alts := [], laidByText := true, laidKinds := [.data], laidTests := true, laidLooks := .later }
def ShaCollidesUptoCardSaid : Prop := Claim7.holds Tryd.pinned (.plain (OpenSpec.upto shaCollidesSpec)) shaCollidesUptoCard
end Rows
end Go.Proofs.YtilienncognpnaaDoor
