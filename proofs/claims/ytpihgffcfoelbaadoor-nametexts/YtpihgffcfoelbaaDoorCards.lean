/-
  DERIVED. GIVEN WITH THE SEED: THE CARDS: each row of YtpihgffcfoelbaaDoorRows.lean that lists a variable, with what it lists TIED to the program's text (the seventh form; the later family's looks); each row that meets fmt, with fmt's text TOLD by the authors' own Lean function (tested against real Go, not proved from fmt's source: count such statements apart). THE CARD IS WHAT COUNTS. Prove the row's statement (the work); the ties are given (YtpihgffcfoelbaaDoorTie.lean); close each card by the builder's one call (the guide's Derived/Test/ToyasCard.lean, 'card_holds'). Laid BY PROGRAM, IN A SANDBOX (cutbox-door.mjs). By AI agents, Wed Nov 11 2026. No macro, syntax, notation, axiom, sorry.
-/
import Derived.Test.YtpihgffcfoelbaaDoorRows
import GoSem.ClaimSeven
namespace Go.Proofs.YtpihgffcfoelbaaDoor
namespace Rows

/-- THE TIED CARD OF 'arbourlaw14.NameTexts'. -/
def nameTextsCard : Claim7 := { stood := { row := nameTextsRow, standIns := [], harness := (true, "b8314f88abec2d9dd8b06ea30ad27d9a4493d8e90af8502b0166dbeb9035b0ed"), looks := false }, kinds := [], alts := [], laidByText := true, laidKinds := [.data, .data, .data, .data, .pinned], laidTests := true, laidLooks := .later }
def NameTextsCardSaid : Prop := Claim7.holds Tryd.pinned (.plain (OpenSpec.ofChange nameTextsSpec)) nameTextsCard

/-- THE TIED CARD OF 'arbourlaw14.NameAssigns'. -/
def nameAssignsCard : Claim7 := { stood := { row := nameAssignsRow, standIns := [], harness := (true, "b8314f88abec2d9dd8b06ea30ad27d9a4493d8e90af8502b0166dbeb9035b0ed"), looks := false }, kinds := [], alts := [], laidByText := true, laidKinds := [.data, .data, .data], laidTests := true, laidLooks := .later }
def NameAssignsCardSaid : Prop := Claim7.holds Tryd.pinned (.plain (OpenSpec.ofChange nameAssignsSpec)) nameAssignsCard

/-- THE TIED CARD OF 'arbourlaw14.NameKeeps'. -/
def nameKeepsCard : Claim7 := { stood := { row := nameKeepsRow, standIns := [], harness := (true, "b8314f88abec2d9dd8b06ea30ad27d9a4493d8e90af8502b0166dbeb9035b0ed"), looks := false }, kinds := [], alts := [], laidByText := true, laidKinds := [.data, .data, .data], laidTests := true, laidLooks := .later }
def NameKeepsCardSaid : Prop := Claim7.holds Tryd.pinned (.plain (OpenSpec.ofChange nameKeepsSpec)) nameKeepsCard

/-- THE TIED CARD OF 'arbourlaw14.NameMany'. -/
def nameManyCard : Claim7 := { stood := { row := nameManyRow, standIns := [], harness := (true, "b8314f88abec2d9dd8b06ea30ad27d9a4493d8e90af8502b0166dbeb9035b0ed"), looks := false }, kinds := [], alts := [], laidByText := true, laidKinds := [.data, .data, .data], laidTests := true, laidLooks := .later }
def NameManyCardSaid : Prop := Claim7.holds Tryd.pinned (.plain (OpenSpec.ofChange nameManySpec)) nameManyCard

/-- THE SECOND FORM's CARD OF 'arbourlaw14.NameTexts'. -/
def nameTextsUptoCard : Claim7 := { stood := { row := nameTextsUptoRow, standIns := [], harness := (true, "b8314f88abec2d9dd8b06ea30ad27d9a4493d8e90af8502b0166dbeb9035b0ed"), looks := false }, kinds := [], alts := [], laidByText := true, laidKinds := [.data, .data, .data, .data, .pinned], laidTests := true, laidLooks := .later }
def NameTextsUptoCardSaid : Prop := Claim7.holds Tryd.pinned (.plain (OpenSpec.upto nameTextsSpec)) nameTextsUptoCard

/-- THE SECOND FORM's CARD OF 'arbourlaw14.NameAssigns'. -/
def nameAssignsUptoCard : Claim7 := { stood := { row := nameAssignsUptoRow, standIns := [], harness := (true, "b8314f88abec2d9dd8b06ea30ad27d9a4493d8e90af8502b0166dbeb9035b0ed"), looks := false }, kinds := [], alts := [], laidByText := true, laidKinds := [.data, .data, .data], laidTests := true, laidLooks := .later }
def NameAssignsUptoCardSaid : Prop := Claim7.holds Tryd.pinned (.plain (OpenSpec.upto nameAssignsSpec)) nameAssignsUptoCard

/-- THE SECOND FORM's CARD OF 'arbourlaw14.NameKeeps'. -/
def nameKeepsUptoCard : Claim7 := { stood := { row := nameKeepsUptoRow, standIns := [], harness := (true, "b8314f88abec2d9dd8b06ea30ad27d9a4493d8e90af8502b0166dbeb9035b0ed"), looks := false }, kinds := [], alts := [], laidByText := true, laidKinds := [.data, .data, .data], laidTests := true, laidLooks := .later }
def NameKeepsUptoCardSaid : Prop := Claim7.holds Tryd.pinned (.plain (OpenSpec.upto nameKeepsSpec)) nameKeepsUptoCard

/-- THE SECOND FORM's CARD OF 'arbourlaw14.NameMany'. -/
def nameManyUptoCard : Claim7 := { stood := { row := nameManyUptoRow, standIns := [], harness := (true, "b8314f88abec2d9dd8b06ea30ad27d9a4493d8e90af8502b0166dbeb9035b0ed"), looks := false }, kinds := [], alts := [], laidByText := true, laidKinds := [.data, .data, .data], laidTests := true, laidLooks := .later }
def NameManyUptoCardSaid : Prop := Claim7.holds Tryd.pinned (.plain (OpenSpec.upto nameManySpec)) nameManyUptoCard
end Rows
end Go.Proofs.YtpihgffcfoelbaaDoor
