/-
  DERIVED. GIVEN WITH THE SEED: THE CARDS: each row of YtoopaeahhbkncaaDoorRows.lean that lists a variable, with what it lists TIED to the program's text (the seventh form; the later family's looks); each row that meets fmt, with fmt's text TOLD by the authors' own Lean function (tested against real Go, not proved from fmt's source: count such statements apart). THE CARD IS WHAT COUNTS. Prove the row's statement (the work); the ties are given (YtoopaeahhbkncaaDoorTie.lean); close each card by the builder's one call (the guide's Derived/Test/ToyasCard.lean, 'card_holds'). Laid BY PROGRAM, IN A SANDBOX (cutbox-door.mjs). By AI agents, Wed Nov 11 2026. No macro, syntax, notation, axiom, sorry.
-/
import Derived.Test.YtoopaeahhbkncaaDoorRows
import GoSem.ClaimSeven
namespace Go.Proofs.YtoopaeahhbkncaaDoor
namespace Rows

/-- THE TIED CARD OF 'arbourlaw09.MerkleFiles'. -/
def merkleFilesCard : Claim7 := { stood := { row := merkleFilesRow, standIns := [], harness := (true, "690f64a6ed55bf3144e7ce8f0266eefe4cb938a99848950fdd7023dfa06fc189"), looks := true }, kinds := [], alts := [], laidByText := true, laidKinds := [.data], laidTests := true, laidLooks := .later }
def MerkleFilesCardSaid : Prop := Claim7.holds Tryd.pinned (.plain (OpenSpec.ofChange merkleFilesSpec)) merkleFilesCard

/-- THE TIED CARD OF 'arbourlaw09.MerkleBytes'. -/
def merkleBytesCard : Claim7 := { stood := { row := merkleBytesRow, standIns := [], harness := (true, "690f64a6ed55bf3144e7ce8f0266eefe4cb938a99848950fdd7023dfa06fc189"), looks := true }, kinds := [], alts := [], laidByText := true, laidKinds := [.data], laidTests := true, laidLooks := .later }
def MerkleBytesCardSaid : Prop := Claim7.holds Tryd.pinned (.plain (OpenSpec.ofChange merkleBytesSpec)) merkleBytesCard

/-- THE TIED CARD OF 'arbourlaw09.MerkleVerifies'. -/
def merkleVerifiesCard : Claim7 := { stood := { row := merkleVerifiesRow, standIns := [], harness := (true, "690f64a6ed55bf3144e7ce8f0266eefe4cb938a99848950fdd7023dfa06fc189"), looks := true }, kinds := [], alts := [], laidByText := true, laidKinds := [.data], laidTests := true, laidLooks := .later }
def MerkleVerifiesCardSaid : Prop := Claim7.holds Tryd.pinned (.plain (OpenSpec.ofChange merkleVerifiesSpec)) merkleVerifiesCard

/-- THE TIED CARD OF 'arbourlaw09.MerkleReads'. -/
def merkleReadsCard : Claim7 := { stood := { row := merkleReadsRow, standIns := [], harness := (true, "690f64a6ed55bf3144e7ce8f0266eefe4cb938a99848950fdd7023dfa06fc189"), looks := true }, kinds := [], alts := [], laidByText := true, laidKinds := [.data], laidTests := true, laidLooks := .later }
def MerkleReadsCardSaid : Prop := Claim7.holds Tryd.pinned (.plain (OpenSpec.ofChange merkleReadsSpec)) merkleReadsCard

/-- THE TIED CARD OF 'arbourlaw09.MerkleNumbers'. -/
def merkleNumbersCard : Claim7 := { stood := { row := merkleNumbersRow, standIns := [], harness := (true, "690f64a6ed55bf3144e7ce8f0266eefe4cb938a99848950fdd7023dfa06fc189"), looks := true }, kinds := [], alts := [], laidByText := true, laidKinds := [.data, .handle], laidTests := true, laidLooks := .later }
def MerkleNumbersCardSaid : Prop := Claim7.holds Tryd.pinned (.plain (OpenSpec.ofChange merkleNumbersSpec)) merkleNumbersCard

/-- THE SECOND FORM's CARD OF 'arbourlaw09.MerkleFiles'. -/
def merkleFilesUptoCard : Claim7 := { stood := { row := merkleFilesUptoRow, standIns := [], harness := (true, "690f64a6ed55bf3144e7ce8f0266eefe4cb938a99848950fdd7023dfa06fc189"), looks := true }, kinds := [], alts := [], laidByText := true, laidKinds := [.data], laidTests := true, laidLooks := .later }
def MerkleFilesUptoCardSaid : Prop := Claim7.holds Tryd.pinned (.plain (OpenSpec.upto merkleFilesSpec)) merkleFilesUptoCard

/-- THE SECOND FORM's CARD OF 'arbourlaw09.MerkleBytes'. -/
def merkleBytesUptoCard : Claim7 := { stood := { row := merkleBytesUptoRow, standIns := [], harness := (true, "690f64a6ed55bf3144e7ce8f0266eefe4cb938a99848950fdd7023dfa06fc189"), looks := true }, kinds := [], alts := [], laidByText := true, laidKinds := [.data], laidTests := true, laidLooks := .later }
def MerkleBytesUptoCardSaid : Prop := Claim7.holds Tryd.pinned (.plain (OpenSpec.upto merkleBytesSpec)) merkleBytesUptoCard

/-- THE SECOND FORM's CARD OF 'arbourlaw09.MerkleVerifies'. -/
def merkleVerifiesUptoCard : Claim7 := { stood := { row := merkleVerifiesUptoRow, standIns := [], harness := (true, "690f64a6ed55bf3144e7ce8f0266eefe4cb938a99848950fdd7023dfa06fc189"), looks := true }, kinds := [], alts := [], laidByText := true, laidKinds := [.data], laidTests := true, laidLooks := .later }
def MerkleVerifiesUptoCardSaid : Prop := Claim7.holds Tryd.pinned (.plain (OpenSpec.upto merkleVerifiesSpec)) merkleVerifiesUptoCard

/-- THE SECOND FORM's CARD OF 'arbourlaw09.MerkleReads'. -/
def merkleReadsUptoCard : Claim7 := { stood := { row := merkleReadsUptoRow, standIns := [], harness := (true, "690f64a6ed55bf3144e7ce8f0266eefe4cb938a99848950fdd7023dfa06fc189"), looks := true }, kinds := [], alts := [], laidByText := true, laidKinds := [.data], laidTests := true, laidLooks := .later }
def MerkleReadsUptoCardSaid : Prop := Claim7.holds Tryd.pinned (.plain (OpenSpec.upto merkleReadsSpec)) merkleReadsUptoCard

/-- THE SECOND FORM's CARD OF 'arbourlaw09.MerkleNumbers'. -/
def merkleNumbersUptoCard : Claim7 := { stood := { row := merkleNumbersUptoRow, standIns := [], harness := (true, "690f64a6ed55bf3144e7ce8f0266eefe4cb938a99848950fdd7023dfa06fc189"), looks := true }, kinds := [], alts := [], laidByText := true, laidKinds := [.data, .handle], laidTests := true, laidLooks := .later }
def MerkleNumbersUptoCardSaid : Prop := Claim7.holds Tryd.pinned (.plain (OpenSpec.upto merkleNumbersSpec)) merkleNumbersUptoCard
end Rows
end Go.Proofs.YtoopaeahhbkncaaDoor
