/- Several texts in one: ImageAlike, ImageFind, ImageRef, ImageRFind, OpRefEq, ImageEqFi. -/
import Derived.Test.YtnbhchdaobimmaaGreatDoorRunAQ
import Derived.Test.YtnbhchdaobimmaaGreatDoorWireMid
import Derived.Test.YtnbhchdaobimmaaGreatDoorMoveBecomes
import Derived.Test.YtnbhchdaobimmaaGreatDoorOpAll
/- Contract: whether two images are the same. -/
namespace Go.Img
open Go.RowKit
/-- The same but for numbers and sizes. -/
def alikeB (a b : Fi) : Bool := (a.path == b.path) && (a.dir == b.dir) && (a.dg.toList == b.dg.toList)
def sameB (l r : List Fi) : Bool := decide (l.length = r.length) && (l.zip r).all fun p => alikeB p.1 p.2
end Go.Img
namespace Go.Proofs.YtnbhchdaobimmaaGreatDoor
open Go.RowKit Go.Img Go.Shelf Go.Rws
attribute [local go_sem] Oper.semAt_some
set_option maxRecDepth 100000 in
theorem infoFi5 : (Tryz.prog.info? 51).map (·.size) = some 5 := by kernel_rfl
end Go.Proofs.YtnbhchdaobimmaaGreatDoor
/- Contract: the file with a path. -/
namespace Go.Img
def seek (l : List Fi) (s : List UInt8) : Option Fi := l.find? fun f => f.path == s
end Go.Img
namespace Go.Proofs.YtnbhchdaobimmaaGreatDoor
open Go.RowKit Go.Img Go.Shelf Go.Rws
attribute [local go_sem] Oper.semAt_some
end Go.Proofs.YtnbhchdaobimmaaGreatDoor
/- Contract: a file as the document's. -/
namespace Go.Proofs.YtnbhchdaobimmaaGreatDoor
open Go.RowKit Go.Img Go.Shelf Go.Rws
attribute [local go_sem] Oper.semAt_some
end Go.Proofs.YtnbhchdaobimmaaGreatDoor
/- Contract: where the file with a path stands, by the document. -/
namespace Go.Img
def spotF (l : List Fi) (s : List UInt8) : Int := match l.findIdx? fun f => f.path == s with | some i => (i : Int) | none => -1
end Go.Img
namespace Go.Proofs.YtnbhchdaobimmaaGreatDoor
open Go.RowKit Go.Img Go.Shelf Go.Rws
attribute [local go_sem] Oper.semAt_some
end Go.Proofs.YtnbhchdaobimmaaGreatDoor
/- Operations of the document's own are compared. -/
namespace Go.Proofs.YtnbhchdaobimmaaGreatDoor
open Go.RowKit Go.Wire Go.Stamp Go.Opn
end Go.Proofs.YtnbhchdaobimmaaGreatDoor
/- Files are compared, as the program has them and as the document has them. -/
namespace Go.Img
open Go.RowKit
def fiEq (a b : Fi) : Bool := (⟨a.path.toArray⟩ : ByteArray).toList == (⟨b.path.toArray⟩ : ByteArray).toList && (a.dir == b.dir && (a.id == b.id && (a.dg.toList == b.dg.toList && (a.size == b.size && true))))
end Go.Img
namespace Go.Proofs.YtnbhchdaobimmaaGreatDoor
open Go.RowKit Go.Img Go.Wire Go.Stamp Go.Opn
end Go.Proofs.YtnbhchdaobimmaaGreatDoor
