/- Several texts in one: WireBuilder, WireCopy, WireCount8, WireWriter, WireAll, WireSpare, WireTold. -/
import Derived.Test.YtnbhchdaobimmaaGreatDoorWireMid
import Derived.Lib.Builder
import Derived.Lib.MakeNoZero
import Derived.Laws.Externs
import Derived.Laws.IdiomCopy
import Derived.Lib.BufferWrite
import Derived.Laws.IdiomStrings
import Derived.Shelf.RegionOpenPlain
import Derived.Lib.UnsafeStr
/- Contracts of the library's strings.Builder where it is the one field of a writer: it is walked in the library's own text. -/
namespace Go.Wire
open Go.RowKit
/-- Block b is a writer of the bytes l. -/
def Wr (T B b : Nat) (l : List UInt8) (w : World) : Prop :=
 B ≤ b ∧ ∃ p v, (p = .pointer none ∨ p = .pointer (some ⟨b, 0, none⟩)) ∧ w.heap[b]? = some (.cells #[p, v] T (0, 0)) ∧ w.ownsRow B 5 1 v l.length (Lib.byteCells l) ∧ v.ownBlock ≠ some b ∧ (l = [] → v = .slice none 0 0)
end Go.Wire
namespace Go.Proofs.YtnbhchdaobimmaaGreatDoor
open Go.RowKit Go.Wire
end Go.Proofs.YtnbhchdaobimmaaGreatDoor
/- A string that is copied over a row of bytes, as far as the row goes; the noughts behind it; of no program. -/
namespace Go.Wire
open Go.RowKit Go.Lib
/-- A digest's bytes: cut at 32, or filled up. -/
def pad (l : List UInt8) : List UInt8 := l.take 32 ++ List.replicate (32 - l.length) 0
def bcells (l : List UInt8) : Array Value := (byteCells l).toArray
def zeros32 : List UInt8 := List.replicate 32 0
end Go.Wire
/- The contract of a text's count. -/
namespace Go.Proofs.YtnbhchdaobimmaaGreatDoor
open Go.RowKit Go.Wire
end Go.Proofs.YtnbhchdaobimmaaGreatDoor
/- Contracts of the writer: one that is there, and a nil one. -/
namespace Go.Wire
open Go.RowKit
/-- The pointer v is nil, or leads to a writer of the bytes l. -/
def WAt (T B : Nat) (v : Value) (l : List UInt8) (w : World) : Prop := v = .pointer none ∨ ∃ b, v = .pointer (some ⟨b, 0, none⟩) ∧ Wr T B b l w
end Go.Wire
namespace Go.Proofs.YtnbhchdaobimmaaGreatDoor
open Go.RowKit Go.Wire
end Go.Proofs.YtnbhchdaobimmaaGreatDoor
/- Contracts of a writer's bytes and their number, of a new writer, and of a digest and yes or no as the document has them. -/
namespace Go.Wire
open Go.RowKit
def sizeV : Value → Nat
 | .string t => t.size
 | _ => 0
end Go.Wire
namespace Go.Proofs.YtnbhchdaobimmaaGreatDoor
open Go.RowKit Go.Wire
end Go.Proofs.YtnbhchdaobimmaaGreatDoor
/- The writer's contracts once more, with what they leave alone: all blocks but the writer's own that are no rows of bytes. -/
namespace Go.Wire
open Go.RowKit
/-- What was there below B stands, and all else that is no row of bytes, but for the writer v itself. -/
structure Wrote (B : Nat) (v : Value) (w w' : World) : Prop where
 below : Below B w w'
 spare : ∀ k c T fr, v ≠ .pointer (some ⟨k, 0, none⟩) → T ≠ 5 → w.heap[k]? = some (.cells c T fr) → w'.heap[k]? = w.heap[k]?
end Go.Wire
namespace Go.Proofs.YtnbhchdaobimmaaGreatDoor
open Go.RowKit Go.Wire
end Go.Proofs.YtnbhchdaobimmaaGreatDoor
/- A writer that is only asked any more: what it has is told again and again. -/
namespace Go.Wire
open Go.RowKit
/-- Block b is a writer that has the bytes l; they may have been told. -/
def Wt (T B b : Nat) (l : List UInt8) (w : World) : Prop :=
 ∃ p, (l = [] ∧ w.heap[b]? = some (.cells #[p, .slice none 0 0] T (0, 0))) ∨
  ∃ g cap cur fr, l ≠ [] ∧ B ≤ g ∧ g ≠ b ∧ w.heap[b]? = some (.cells #[p, .slice (some ⟨g, 0, none⟩) l.length cap] T (0, 0)) ∧ w.heap[g]? = some (.cells cur 5 fr) ∧ l.length ≤ cap ∧ cap ≤ maxLen ∧ cur.size = cap * 1 ∧ cur.toList.take (l.length * 1) = Lib.byteCells l
end Go.Wire
namespace Go.Proofs.YtnbhchdaobimmaaGreatDoor
open Go.RowKit Go.Wire
end Go.Proofs.YtnbhchdaobimmaaGreatDoor
