/-
  DERIVED. GIVEN WITH THE SEED: THE CARDS: each row of YtkbboddibgfjbaaGreatDoorRows.lean that lists a variable, with what it lists TIED to the program's text (the seventh form; the later family's looks); each row that meets fmt, with fmt's text TOLD by the authors' own Lean function (tested against real Go, not proved from fmt's source: count such statements apart). THE CARD IS WHAT COUNTS. Prove the row's statement (the work); the ties are given (YtkbboddibgfjbaaGreatDoorTie.lean); close each card by the builder's one call (the guide's Derived/Test/ToyasCard.lean, 'card_holds'). Laid BY PROGRAM, IN A SANDBOX (cutbox-door.mjs). By AI agents, Wed Nov 11 2026. No macro, syntax, notation, axiom, sorry.
-/
import Derived.Test.YtkbboddibgfjbaaGreatDoorRows
import GoSem.ClaimSeven
namespace Go.Proofs.YtkbboddibgfjbaaGreatDoor
namespace Rows

/-- THE TIED CARD OF 'arbourlaw12.DagPlays'. -/
def dagPlaysCard : Claim7 := { stood := { row := dagPlaysRow, standIns := [], harness := (true, "1a9cc1a4c8ef6d6e748bdd4e6e8e86b06f4562c0f7b29ef88582cf10dffccf25"), looks := true }, kinds := [], alts := [], laidByText := true, laidKinds := [.data, .handle], laidTests := true, laidLooks := .later }
def DagPlaysCardSaid : Prop := Claim7.holds Tryz.pinned (.plain (OpenSpec.ofChange dagPlaysSpec)) dagPlaysCard

/-- THE TIED CARD OF 'arbourlaw12.DagMost'. -/
def dagMostCard : Claim7 := { stood := { row := dagMostRow, standIns := [], harness := (true, "1a9cc1a4c8ef6d6e748bdd4e6e8e86b06f4562c0f7b29ef88582cf10dffccf25"), looks := true }, kinds := [], alts := [], laidByText := true, laidKinds := [.data, .handle], laidTests := true, laidLooks := .later }
def DagMostCardSaid : Prop := Claim7.holds Tryz.pinned (.plain (OpenSpec.ofChange dagMostSpec)) dagMostCard

/-- THE TIED CARD OF 'arbourlaw12.DagNil'. -/
def dagNilCard : Claim7 := { stood := { row := dagNilRow, standIns := [], harness := (true, "1a9cc1a4c8ef6d6e748bdd4e6e8e86b06f4562c0f7b29ef88582cf10dffccf25"), looks := true }, kinds := [], alts := [], laidByText := true, laidKinds := [.data, .handle], laidTests := true, laidLooks := .later }
def DagNilCardSaid : Prop := Claim7.holds Tryz.pinned (.plain (OpenSpec.ofChange dagNilSpec)) dagNilCard

/-- THE TIED CARD OF 'arbourlaw12.DagOld'. -/
def dagOldCard : Claim7 := { stood := { row := dagOldRow, standIns := [], harness := (true, "1a9cc1a4c8ef6d6e748bdd4e6e8e86b06f4562c0f7b29ef88582cf10dffccf25"), looks := true }, kinds := [], alts := [], laidByText := true, laidKinds := [.data, .handle], laidTests := true, laidLooks := .later }
def DagOldCardSaid : Prop := Claim7.holds Tryz.pinned (.plain (OpenSpec.ofChange dagOldSpec)) dagOldCard

/-- THE SECOND FORM's CARD OF 'arbourlaw12.DagPlays'. -/
def dagPlaysUptoCard : Claim7 := { stood := { row := dagPlaysUptoRow, standIns := [], harness := (true, "1a9cc1a4c8ef6d6e748bdd4e6e8e86b06f4562c0f7b29ef88582cf10dffccf25"), looks := true }, kinds := [], alts := [], laidByText := true, laidKinds := [.data, .handle], laidTests := true, laidLooks := .later }
def DagPlaysUptoCardSaid : Prop := Claim7.holds Tryz.pinned (.plain (OpenSpec.upto dagPlaysSpec)) dagPlaysUptoCard

/-- THE SECOND FORM's CARD OF 'arbourlaw12.DagMost'. -/
def dagMostUptoCard : Claim7 := { stood := { row := dagMostUptoRow, standIns := [], harness := (true, "1a9cc1a4c8ef6d6e748bdd4e6e8e86b06f4562c0f7b29ef88582cf10dffccf25"), looks := true }, kinds := [], alts := [], laidByText := true, laidKinds := [.data, .handle], laidTests := true, laidLooks := .later }
def DagMostUptoCardSaid : Prop := Claim7.holds Tryz.pinned (.plain (OpenSpec.upto dagMostSpec)) dagMostUptoCard

/-- THE SECOND FORM's CARD OF 'arbourlaw12.DagNil'. -/
def dagNilUptoCard : Claim7 := { stood := { row := dagNilUptoRow, standIns := [], harness := (true, "1a9cc1a4c8ef6d6e748bdd4e6e8e86b06f4562c0f7b29ef88582cf10dffccf25"), looks := true }, kinds := [], alts := [], laidByText := true, laidKinds := [.data, .handle], laidTests := true, laidLooks := .later }
def DagNilUptoCardSaid : Prop := Claim7.holds Tryz.pinned (.plain (OpenSpec.upto dagNilSpec)) dagNilUptoCard

/-- THE SECOND FORM's CARD OF 'arbourlaw12.DagOld'. -/
def dagOldUptoCard : Claim7 := { stood := { row := dagOldUptoRow, standIns := [], harness := (true, "1a9cc1a4c8ef6d6e748bdd4e6e8e86b06f4562c0f7b29ef88582cf10dffccf25"), looks := true }, kinds := [], alts := [], laidByText := true, laidKinds := [.data, .handle], laidTests := true, laidLooks := .later }
def DagOldUptoCardSaid : Prop := Claim7.holds Tryz.pinned (.plain (OpenSpec.upto dagOldSpec)) dagOldUptoCard
end Rows
end Go.Proofs.YtkbboddibgfjbaaGreatDoor
