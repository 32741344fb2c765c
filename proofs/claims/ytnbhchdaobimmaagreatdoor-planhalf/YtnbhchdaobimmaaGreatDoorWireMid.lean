/- Several texts in one: WireRd, WireDigit, WireReader, WireValue, WireRef, WireFnv, WireRefNum, WireNumber, WireRefDigits. -/
import Derived.Test.YtnbhchdaobimmaaGreatDoorWirePure
import Derived.WalkKit
import Derived.WalkSpells
import Derived.WalkLawsBesides
import Derived.Deep.QuietTactic
import Derived.Deep.RegionWith
import Derived.BigQuiet
import Derived.Deep.WholeRow
import Derived.Test.YtnbhchdaobimmaaGreatDoorRows
import Derived.Laws.ResultCell
import Derived.Test.YtnbhchdaobimmaaGreatDoorRunAA
import Derived.Laws.MakeOwn
/- A reader as it lies in memory, and what leaves all but one block alone; of no program. -/
namespace Go.Wire
open Go.RowKit
/-- What was there stands, but for the block b. -/
structure Kept (b : Nat) (w w' : World) : Prop where
 below : Below b w w'
 other : ∀ k, k ≠ b → k < w.heap.size → w'.heap[k]? = w.heap[k]?
/-- Block b is a reader. -/
def Rd (T b : Nat) (q : St) (w : World) : Prop := w.heap[b]? = some (.cells #[.string q.s, .int .i64 q.pos, .int .i64 q.err] T (0, 0))
end Go.Wire
/- Contracts of a digit. -/
namespace Go.Wire
end Go.Wire
namespace Go.Proofs.YtnbhchdaobimmaaGreatDoor
open Go.RowKit Go.Wire
end Go.Proofs.YtnbhchdaobimmaaGreatDoor
/- Contracts of the small calls of the program's reader. -/
namespace Go.Proofs.YtnbhchdaobimmaaGreatDoor
open Go.RowKit Go.Wire
end Go.Proofs.YtnbhchdaobimmaaGreatDoor
/- Contracts of the numbers that digits are: the program's, and the document's reader's. -/
namespace Go.Wire
end Go.Wire
namespace Go.Proofs.YtnbhchdaobimmaaGreatDoor
open Go.RowKit Go.Wire
end Go.Proofs.YtnbhchdaobimmaaGreatDoor
/- Contracts of the document's reader: a value, and the reader behind each call. -/
namespace Go.Wire
open Go.RowKit
/-- A reader as a value. -/
def St.v (q : St) : Value := .agg #[.string q.s, .int .i64 q.pos, .int .i64 q.err]
theorem results_cell2_row {P : Program} {fn : Func} {p u : Tmp} {ty : TypeId} (h : fn.results = #[.cell p ty, .tmp u]) (tmps : Array Value) (w : World) (g : Nat) (t : TypeId) (cs : Array Value) (fr : Nat × Nat) (d : TypeDesc)
  (hp : tmps.getD p undef = .pointer (some ⟨g, 0, none⟩)) (hg : w.heap[g]? = some (.cells cs t fr))
  (hu : P.underlying ty = some d) (hd : (match d with | .struct _ | .array _ _ => true | _ => false) = true) (hi : (P.info? ty).map (·.size) = some cs.size) :
  (results fn tmps).run P w = .ok (.tuple #[.agg cs, tmps.getD u undef]) w := by
 rw [results_cell_tmp h, hp]
 simp [asAddr, Result.andThen, run_loadVar_row w g t ty cs fr d hg hu hd hi]
theorem kept_block {w w1 : World} {g : Nat} {o : Obj} (h : w.heap[g]? = some o) (k : Below w.heap.size w w1) : w1.heap[g]? = some o :=
 (k.block g (by
  rcases Nat.lt_or_ge g w.heap.size with x | x
  ·exact x
  ·rw [Array.getElem?_eq_none x] at h; cases h)).trans h
theorem kept_alloc {w : World} {g : Nat} {o : Obj} (h : w.heap[g]? = some o) (C : Obj) : (w.alloc C).heap[g]? = some o :=
 kept_block h ((Below.refl _ _).alloc (Nat.le_refl _) C)
end Go.Wire
namespace Go.Proofs.YtnbhchdaobimmaaGreatDoor
open Go.RowKit Go.Wire
end Go.Proofs.YtnbhchdaobimmaaGreatDoor
/- Contracts of the check of bytes, and of the value of a letter. -/
namespace Go.Wire
end Go.Wire
namespace Go.Proofs.YtnbhchdaobimmaaGreatDoor
open Go.RowKit Go.Wire
end Go.Proofs.YtnbhchdaobimmaaGreatDoor
/- The contract of the document's reader's numbers. -/
namespace Go.Proofs.YtnbhchdaobimmaaGreatDoor
open Go.RowKit Go.Wire
end Go.Proofs.YtnbhchdaobimmaaGreatDoor
/- The contract of a number's digits. -/
namespace Go.ByteRow
open Go.RowKit Go.Sha
theorem Has.set {base g n cap m : Nat} {w : World} {l : List UInt8} {d : UInt8} (h : Has base w (.slice (some ⟨g, 0, none⟩) n cap) l) (hm : m < l.length) : Has base (w.setCell ⟨g, m, none⟩ (.int .u8 d.toNat)) (.slice (some ⟨g, 0, none⟩) n cap) (l.set m d) := by
 rcases h with ⟨h, _⟩ | ⟨g', cap', h1, h2, h3, h4, h5, h6⟩
 ·cases h
 ·simp only [Value.slice.injEq, Option.some.injEq, Addr.mk.injEq] at h1
  obtain ⟨⟨rfl, -, -⟩, hn, rfl⟩ := h1
  refine .inr ⟨g, cap, by simp [hn], h2, by simpa [World.setCell] using h3, by rw [List.length_set]; exact h4, fun j c hj => ?_, fun j hj => ?_⟩
  ·by_cases e : j = m
   ·subst e
    rw [List.getElem?_set_self hm] at hj
    cases hj
    obtain ⟨u, hu⟩ := Option.isSome_iff_exists.1 (h6 j (by omega)).1
    exact World.cell?_setCell_same w _ _ hu
   ·rw [List.getElem?_set_ne (fun e2 => e e2.symm)] at hj
    rw [World.cell?_setCell_other w _ _ _ (by intro e2; simp only [Addr.mk.injEq, true_and, and_true] at e2; exact e e2.symm)]
    exact h5 j c hj
  ·refine ⟨?_, by rw [World.frozen?_setCell]; exact (h6 j hj).2⟩
   obtain ⟨u, hu⟩ := Option.isSome_iff_exists.1 (h6 j hj).1
   obtain ⟨u', hu'⟩ := cell?_setCell_some (p := ⟨g, m, none⟩) (x := .int .u8 d.toNat) hu
   rw [hu']; rfl
theorem Has.cell {base g n cap m : Nat} {w : World} {l : List UInt8} {d : UInt8} (h : Has base w (.slice (some ⟨g, 0, none⟩) n cap) l) (hm : l[m]? = some d) : w.cell? ⟨g, m, none⟩ = some (.int .u8 d.toNat) ∧ w.frozen? ⟨g, m, none⟩ = false ∧ base ≤ g := by
 have hl := (List.getElem?_eq_some_iff.1 hm).1
 rcases h with ⟨h, _⟩ | ⟨g', cap', h1, h2, h3, h4, h5, h6⟩
 ·cases h
 ·simp only [Value.slice.injEq, Option.some.injEq, Addr.mk.injEq] at h1
  obtain ⟨⟨rfl, -, -⟩, hn, rfl⟩ := h1
  exact ⟨h5 m d hm, (h6 m (by omega)).2, h2⟩
end Go.ByteRow
namespace Go.Wire
end Go.Wire
namespace Go.Proofs.YtnbhchdaobimmaaGreatDoor
open Go.RowKit Go.Wire
end Go.Proofs.YtnbhchdaobimmaaGreatDoor
/- Contracts of a digit's letter and a number's digits, as the document has them. -/
namespace Go.Proofs.YtnbhchdaobimmaaGreatDoor
open Go.RowKit Go.Wire
end Go.Proofs.YtnbhchdaobimmaaGreatDoor
