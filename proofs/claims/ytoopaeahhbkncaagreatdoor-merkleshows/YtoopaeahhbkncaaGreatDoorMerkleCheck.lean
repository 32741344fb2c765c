/- Contracts: may a manifest be? The program's and the document's. -/
import Derived.Test.YtoopaeahhbkncaaGreatDoorMerkleProve
import Derived.Test.YtoopaeahhbkncaaGreatDoorMerkleOfMem
namespace Go.Mk
/-- May a manifest be: nought, or the number of its error. -/
def chk (size : Int) (xs : List ByteArray) : Int := if Sized size xs.length ∧ ∀ s ∈ xs, s.size = 32 then 0 else 6
end Go.Mk
namespace Go.Proofs.YtoopaeahhbkncaaGreatDoor
open Go.RowKit Go.Shelf Go.Wire Go.Mk Go.Chunk
attribute [local go_sem] Oper.semAt_some
end Go.Proofs.YtoopaeahhbkncaaGreatDoor
