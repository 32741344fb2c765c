/- Several texts in one: NameFrame, NameFrameP. -/
import Derived.Test.YtnbhchdaobimmaaGreatDoorRunAO
import Derived.ProofKit
import Derived.LaidMore
import Derived.OpenShut
import Derived.ShutString
import Derived.Lib.LaidTab
import Derived.Stop.LaidErr
import Derived.Test.YtnbhchdaobimmaaGreatDoorTie
import Derived.Test.YtnbhchdaobimmaaGreatDoorCards
import Derived.SevenTiedAt
import Derived.Lay
/- What the listed tables give the walks of name, and the start that fits. -/
namespace Go.Proofs.YtnbhchdaobimmaaGreatDoor
open Go.ChangeShapes Go.WideShapes Go.ChangeAt Go.RowKit
theorem own : ownKnob Tryz.prog.godebug = none := by kernel_rfl
theorem laidOut : laidOutB Tryz.prog = true := by kernel_rfl
theorem tPow : (Tryz.prog.globals[3]?).map (·.type) = some 230 := by kernel_rfl
theorem uPow : Tryz.prog.underlying 230 = some (.array 20 49) := by kernel_rfl
theorem cPow : Tryz.prog.cellsOf 230 = 20 := by kernel_rfl
theorem cU64 : Tryz.prog.cellsOf 49 = 1 := by kernel_rfl
def laidName : List (String × DataW Unit) := [("math/bits.deBruijn32tab", Rows.laid_math_bits_deBruijn32tab), ("math/bits.deBruijn64tab", Rows.laid_math_bits_deBruijn64tab), ("internal/strconv.uint64pow10", Rows.laid_internal_strconv_uint64pow10)]
theorem pow_tab : (Rows.laid_internal_strconv_uint64pow10 : DataW Unit) = Lib.tabData .u64 Lib.pow10Tab := by rfl
theorem laid_lt {P : Program} {W : World} {name : String} {d : DataW Unit} {rest : List (String × DataW Unit)} {g : Nat} (hg : P.globalNamed name = some g) (h : laidMet P ((name, d) :: rest) W) : g < W.heap.size := by
 obtain ⟨ps, ⟨g', t', cs, fuel, p, q, hg', ht', hvar, hd, _, _⟩, _⟩ := h
 simp only [World.var?, hg, Option.bind_some] at hvar
 split at hvar
 ·rename_i hh
  exact (Array.getElem?_eq_some_iff.1 hh).1
 ·cases hvar
theorem gTab : Tryz.prog.globalNamed "math/bits.deBruijn64tab" = some 5 := by kernel_rfl
end Go.Proofs.YtnbhchdaobimmaaGreatDoor
/- The frame of a tied card of names whose fifth table is pinned. -/
namespace Go.Proofs.YtnbhchdaobimmaaGreatDoor
open Go Go.ChangeShapes Go.WideShapes Go.ChangeAt Go.RowKit
def laidText : List (String × DataW Unit) := [("math/bits.deBruijn32tab", Rows.laid_math_bits_deBruijn32tab), ("math/bits.deBruijn64tab", Rows.laid_math_bits_deBruijn64tab), ("internal/strconv.uint64pow10", Rows.laid_internal_strconv_uint64pow10), ("unicode/utf8.acceptRanges", Rows.laid_unicode_utf8_acceptRanges), ("unicode/utf8.first", Rows.laid_unicode_utf8_first)]
theorem of_laidText {W : World} (h : laidMetH Tryz.prog laidText W) : Vt W := by
 rw [MakeChecks.laidMetH_plain _ _ _ (by kernel_rfl)] at h
 have hs : 6 ≤ W.heap.size := laid_lt gTab h.tail
 have h2 : laidMet Tryz.prog [("internal/strconv.uint64pow10", Lib.tabData .u64 Lib.pow10Tab), ("unicode/utf8.acceptRanges", Rows.laid_unicode_utf8_acceptRanges), ("unicode/utf8.first", Rows.laid_unicode_utf8_first)] W := by
  rw [← pow_tab]
  exact h.tail.tail
 exact ⟨Lib.tabIs_of_head gPow tPow uPow Tryz.underlying49 cU64 cPow h2, hs⟩
end Go.Proofs.YtnbhchdaobimmaaGreatDoor
