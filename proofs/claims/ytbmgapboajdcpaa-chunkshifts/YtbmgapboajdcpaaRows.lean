/-
  No cell of these rows narrows 'for every input' (looked for: loops, veiled, ifaces, maps, wideKeys, modest, calm, conditions, laid).
  DERIVED. THE GIVEN ROWS OF THIS SEAT. 6 by the template 'for every input the law returns true; each argument reads behind the call as it read before'; 0 by the template 'total and deterministic' (their statements: YtbmgapboajdcpaaTotals.lean).
  GIVEN WITH THE SEED: the statements are not yours to turn. If you find one false, say at which input.
  Laid BY PROGRAM, IN A SANDBOX (cutbox-rows.mjs): the forced cells as the released guide's own fill.sh prints them over the translation 3696c65891aada95… (all of the seat's roots in one cut). By AI agents, Wed Nov 11 2026. No macro, syntax, notation, axiom, sorry.
-/
import Derived.Test.YtbmgapboajdcpaaChecked
import GoSem.Claim
import GoSem.ClaimJoined
import GoSem.ClaimMapViews
import Derived.JoinedTies
import Derived.KernelRfl
namespace Go.Proofs.Ytbmgapboajdcpaa
/- THE CELL 'sum', in the pinned program and in every row, IS THE sha256 OF THE DUMP (.gsa) THAT YtbmgapboajdcpaaProg.lean LOADS. Nothing in Lean hashes anything: it is a label: what it is worth is what the hold of that sum in a sandbox is worth. -/
noncomputable def Try.pinned : Pinned := { name := "ytbmgapboajdcpaa", sum := "3696c65891aada95cd40771622534b04e1722e543bbfb545133932a1f91dc43f", checked := Try.checked }
namespace Rows
def none {H : Type} : Left H := { results := [], args := [] }

/-- 'arbourlaw08.ChunkCuts': WHATEVER THE INPUT: true; the input reads as it did. -/
def chunkCutsSpec : ChangeSpec := { name := "chunkCuts", fn := fun _ => fun
  | [d1, d2, d3] => { results := [.lit (.bool true)], args := [d1, d2, d3] }
  | _ => none }
def chunkCutsRow : OpenClaim := { program := "ytbmgapboajdcpaa", sum := "3696c65891aada95cd40771622534b04e1722e543bbfb545133932a1f91dc43f", func := "arbour/arbourlaw08.ChunkCuts", spec := "chunkCuts", inPlace := ["internal/abi.NoEscape", "internal/bytealg.MakeNoZero"], unfollowed := true, recurses := true, apart := false }
def ChunkCutsSaid : Prop := chunkCutsRow.holds Try.pinned (OpenSpec.ofChange chunkCutsSpec)

/-- ITS FALSE NEIGHBOUR: 'it returns false'. Refute it at one input. -/
def chunkCutsWrong : ChangeSpec := { name := "chunkCuts", fn := fun _ => fun
  | [d1, d2, d3] => { results := [.lit (.bool false)], args := [d1, d2, d3] }
  | _ => none }
def ChunkCutsWrongFalsely : Prop := chunkCutsRow.holds Try.pinned (OpenSpec.ofChange chunkCutsWrong)

/-- 'arbourlaw08.ChunkGears': WHATEVER THE INPUT: true; the input reads as it did. -/
def chunkGearsSpec : ChangeSpec := { name := "chunkGears", fn := fun _ => fun
  | [d] => { results := [.lit (.bool true)], args := [d] }
  | _ => none }
def chunkGearsRow : OpenClaim := { program := "ytbmgapboajdcpaa", sum := "3696c65891aada95cd40771622534b04e1722e543bbfb545133932a1f91dc43f", func := "arbour/arbourlaw08.ChunkGears", spec := "chunkGears", unfollowed := true, recurses := true, apart := false }
def ChunkGearsSaid : Prop := chunkGearsRow.holds Try.pinned (OpenSpec.ofChange chunkGearsSpec)

/-- ITS FALSE NEIGHBOUR: 'it returns false'. Refute it at one input. -/
def chunkGearsWrong : ChangeSpec := { name := "chunkGears", fn := fun _ => fun
  | [d] => { results := [.lit (.bool false)], args := [d] }
  | _ => none }
def ChunkGearsWrongFalsely : Prop := chunkGearsRow.holds Try.pinned (OpenSpec.ofChange chunkGearsWrong)

/-- 'arbourlaw08.ChunkShifts': WHATEVER THE INPUT: true; the input reads as it did. -/
def chunkShiftsSpec : ChangeSpec := { name := "chunkShifts", fn := fun _ => fun
  | [d1, d2, d3] => { results := [.lit (.bool true)], args := [d1, d2, d3] }
  | _ => none }
def chunkShiftsRow : OpenClaim := { program := "ytbmgapboajdcpaa", sum := "3696c65891aada95cd40771622534b04e1722e543bbfb545133932a1f91dc43f", func := "arbour/arbourlaw08.ChunkShifts", spec := "chunkShifts", unfollowed := true, recurses := true, apart := false }
def ChunkShiftsSaid : Prop := chunkShiftsRow.holds Try.pinned (OpenSpec.ofChange chunkShiftsSpec)

/-- ITS FALSE NEIGHBOUR: 'it returns false'. Refute it at one input. -/
def chunkShiftsWrong : ChangeSpec := { name := "chunkShifts", fn := fun _ => fun
  | [d1, d2, d3] => { results := [.lit (.bool false)], args := [d1, d2, d3] }
  | _ => none }
def ChunkShiftsWrongFalsely : Prop := chunkShiftsRow.holds Try.pinned (OpenSpec.ofChange chunkShiftsWrong)

/-- 'arbourlaw08.ChunkJoins': WHATEVER THE INPUT: true; the input reads as it did. -/
def chunkJoinsSpec : ChangeSpec := { name := "chunkJoins", fn := fun _ => fun
  | [d1, d2] => { results := [.lit (.bool true)], args := [d1, d2] }
  | _ => none }
def chunkJoinsRow : OpenClaim := { program := "ytbmgapboajdcpaa", sum := "3696c65891aada95cd40771622534b04e1722e543bbfb545133932a1f91dc43f", func := "arbour/arbourlaw08.ChunkJoins", spec := "chunkJoins", inPlace := ["internal/abi.NoEscape", "internal/bytealg.MakeNoZero"], unfollowed := true, recurses := true, apart := false }
def ChunkJoinsSaid : Prop := chunkJoinsRow.holds Try.pinned (OpenSpec.ofChange chunkJoinsSpec)

/-- ITS FALSE NEIGHBOUR: 'it returns false'. Refute it at one input. -/
def chunkJoinsWrong : ChangeSpec := { name := "chunkJoins", fn := fun _ => fun
  | [d1, d2] => { results := [.lit (.bool false)], args := [d1, d2] }
  | _ => none }
def ChunkJoinsWrongFalsely : Prop := chunkJoinsRow.holds Try.pinned (OpenSpec.ofChange chunkJoinsWrong)

/-- 'arbourlaw08.ChunkSizes': WHATEVER THE INPUT: true; the input reads as it did. -/
def chunkSizesSpec : ChangeSpec := { name := "chunkSizes", fn := fun _ => fun
  | [d1, d2, d3] => { results := [.lit (.bool true)], args := [d1, d2, d3] }
  | _ => none }
def chunkSizesRow : OpenClaim := { program := "ytbmgapboajdcpaa", sum := "3696c65891aada95cd40771622534b04e1722e543bbfb545133932a1f91dc43f", func := "arbour/arbourlaw08.ChunkSizes", spec := "chunkSizes", unfollowed := true, recurses := true, apart := false }
def ChunkSizesSaid : Prop := chunkSizesRow.holds Try.pinned (OpenSpec.ofChange chunkSizesSpec)

/-- ITS FALSE NEIGHBOUR: 'it returns false'. Refute it at one input. -/
def chunkSizesWrong : ChangeSpec := { name := "chunkSizes", fn := fun _ => fun
  | [d1, d2, d3] => { results := [.lit (.bool false)], args := [d1, d2, d3] }
  | _ => none }
def ChunkSizesWrongFalsely : Prop := chunkSizesRow.holds Try.pinned (OpenSpec.ofChange chunkSizesWrong)

/-- 'arbourlaw08.ChunkEnds': WHATEVER THE INPUT: true; the input reads as it did. -/
def chunkEndsSpec : ChangeSpec := { name := "chunkEnds", fn := fun _ => fun
  | [d1, d2] => { results := [.lit (.bool true)], args := [d1, d2] }
  | _ => none }
def chunkEndsRow : OpenClaim := { program := "ytbmgapboajdcpaa", sum := "3696c65891aada95cd40771622534b04e1722e543bbfb545133932a1f91dc43f", func := "arbour/arbourlaw08.ChunkEnds", spec := "chunkEnds", unfollowed := true, recurses := true, apart := false }
def ChunkEndsSaid : Prop := chunkEndsRow.holds Try.pinned (OpenSpec.ofChange chunkEndsSpec)

/-- ITS FALSE NEIGHBOUR: 'it returns false'. Refute it at one input. -/
def chunkEndsWrong : ChangeSpec := { name := "chunkEnds", fn := fun _ => fun
  | [d1, d2] => { results := [.lit (.bool false)], args := [d1, d2] }
  | _ => none }
def ChunkEndsWrongFalsely : Prop := chunkEndsRow.holds Try.pinned (OpenSpec.ofChange chunkEndsWrong)

/- THE SECOND FORM. 'bulk': how many values and letters a reading holds, each counted each time it is reached (what is shared counts as often as it is met; a slice's spare places count too). A statement '..UptoSaid' is the law's where the arguments, and the package variables that the reading takes, are together of bulk at most 1048576: NARROWER than '..Said'. Prove '..Said' where nothing that the law and all that it calls make is longer than what came in: it says more and counts as full. Else prove '..UptoSaid'. A law counts once. -/
mutual
def uptoBulk {H : Type} : DataW H → Nat
  | .lit (.string bytes) => bytes.length + 1
  | .lit _ => 1
  | .nil => 1
  | .ptr d => uptoBulk d + 1
  | .slice elems spare => uptoBulkAll elems + uptoBulkAll spare + 1
  | .agg parts => uptoBulkAll parts + 1
  | .iface _ d => uptoBulk d + 1
  | .map entries => uptoBulkEntries entries + 1
  | .held _ => 1
def uptoBulkAll {H : Type} : List (DataW H) → Nat
  | [] => 0
  | d :: r => uptoBulk d + uptoBulkAll r
def uptoBulkEntries {H : Type} : List (Lit × DataW H) → Nat
  | [] => 0
  | x :: r => uptoBulkEntry x + uptoBulkEntries r
def uptoBulkEntry {H : Type} : Lit × DataW H → Nat
  | (.string bytes, d) => bytes.length + uptoBulk d + 1
  | (_, d) => uptoBulk d + 1
 end
def uptoSmall : (H : Type) → List (DataW H) → Bool := fun _ ds => decide (uptoBulkAll ds ≤ 1048576)
def OpenSpec.upto (s : _root_.Go.ChangeSpec) : _root_.Go.OpenSpec := { _root_.Go.OpenSpec.ofChange s with cond := some uptoSmall }

/-- 'arbourlaw08.ChunkCuts', WHERE WHAT IT READS IS OF BULK AT MOST 1048576: true; the input reads as it did. -/
def chunkCutsUptoRow : OpenClaim := { program := "ytbmgapboajdcpaa", sum := "3696c65891aada95cd40771622534b04e1722e543bbfb545133932a1f91dc43f", func := "arbour/arbourlaw08.ChunkCuts", spec := "chunkCuts", inPlace := ["internal/abi.NoEscape", "internal/bytealg.MakeNoZero"], unfollowed := true, recurses := true, apart := false, narrowed := true }
def ChunkCutsUptoSaid : Prop := chunkCutsUptoRow.holds Try.pinned (OpenSpec.upto chunkCutsSpec)

/-- 'arbourlaw08.ChunkGears', WHERE WHAT IT READS IS OF BULK AT MOST 1048576: true; the input reads as it did. -/
def chunkGearsUptoRow : OpenClaim := { program := "ytbmgapboajdcpaa", sum := "3696c65891aada95cd40771622534b04e1722e543bbfb545133932a1f91dc43f", func := "arbour/arbourlaw08.ChunkGears", spec := "chunkGears", unfollowed := true, recurses := true, apart := false, narrowed := true }
def ChunkGearsUptoSaid : Prop := chunkGearsUptoRow.holds Try.pinned (OpenSpec.upto chunkGearsSpec)

/-- 'arbourlaw08.ChunkShifts', WHERE WHAT IT READS IS OF BULK AT MOST 1048576: true; the input reads as it did. -/
def chunkShiftsUptoRow : OpenClaim := { program := "ytbmgapboajdcpaa", sum := "3696c65891aada95cd40771622534b04e1722e543bbfb545133932a1f91dc43f", func := "arbour/arbourlaw08.ChunkShifts", spec := "chunkShifts", unfollowed := true, recurses := true, apart := false, narrowed := true }
def ChunkShiftsUptoSaid : Prop := chunkShiftsUptoRow.holds Try.pinned (OpenSpec.upto chunkShiftsSpec)

/-- 'arbourlaw08.ChunkJoins', WHERE WHAT IT READS IS OF BULK AT MOST 1048576: true; the input reads as it did. -/
def chunkJoinsUptoRow : OpenClaim := { program := "ytbmgapboajdcpaa", sum := "3696c65891aada95cd40771622534b04e1722e543bbfb545133932a1f91dc43f", func := "arbour/arbourlaw08.ChunkJoins", spec := "chunkJoins", inPlace := ["internal/abi.NoEscape", "internal/bytealg.MakeNoZero"], unfollowed := true, recurses := true, apart := false, narrowed := true }
def ChunkJoinsUptoSaid : Prop := chunkJoinsUptoRow.holds Try.pinned (OpenSpec.upto chunkJoinsSpec)

/-- 'arbourlaw08.ChunkSizes', WHERE WHAT IT READS IS OF BULK AT MOST 1048576: true; the input reads as it did. -/
def chunkSizesUptoRow : OpenClaim := { program := "ytbmgapboajdcpaa", sum := "3696c65891aada95cd40771622534b04e1722e543bbfb545133932a1f91dc43f", func := "arbour/arbourlaw08.ChunkSizes", spec := "chunkSizes", unfollowed := true, recurses := true, apart := false, narrowed := true }
def ChunkSizesUptoSaid : Prop := chunkSizesUptoRow.holds Try.pinned (OpenSpec.upto chunkSizesSpec)

/-- 'arbourlaw08.ChunkEnds', WHERE WHAT IT READS IS OF BULK AT MOST 1048576: true; the input reads as it did. -/
def chunkEndsUptoRow : OpenClaim := { program := "ytbmgapboajdcpaa", sum := "3696c65891aada95cd40771622534b04e1722e543bbfb545133932a1f91dc43f", func := "arbour/arbourlaw08.ChunkEnds", spec := "chunkEnds", unfollowed := true, recurses := true, apart := false, narrowed := true }
def ChunkEndsUptoSaid : Prop := chunkEndsUptoRow.holds Try.pinned (OpenSpec.upto chunkEndsSpec)

end Rows
end Go.Proofs.Ytbmgapboajdcpaa
