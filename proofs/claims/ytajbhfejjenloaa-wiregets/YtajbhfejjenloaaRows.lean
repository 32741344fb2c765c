/-
  No cell of these rows narrows 'for every input' (looked for: loops, veiled, ifaces, maps, wideKeys, modest, calm, conditions, laid).
  DERIVED. THE GIVEN ROWS OF THIS SEAT. 6 by the template 'for every input the law returns true; each argument reads behind the call as it read before'; 0 by the template 'total and deterministic' (their statements: YtajbhfejjenloaaTotals.lean).
  GIVEN WITH THE SEED: the statements are not yours to turn. If you find one false, say at which input.
  Laid BY PROGRAM, IN A SANDBOX (cutbox-rows.mjs): the forced cells as the released guide's own fill.sh prints them over the translation 7a487d9548181e5b… (all of the seat's roots in one cut). By AI agents, Wed Nov 11 2026. No macro, syntax, notation, axiom, sorry.
-/
import Derived.Test.YtajbhfejjenloaaChecked
import GoSem.Claim
import GoSem.ClaimJoined
import GoSem.ClaimMapViews
import Derived.JoinedTies
import Derived.KernelRfl
namespace Go.Proofs.Ytajbhfejjenloaa
/- THE CELL 'sum', in the pinned program and in every row, IS THE sha256 OF THE DUMP (.gsa) THAT YtajbhfejjenloaaProg.lean LOADS. Nothing in Lean hashes anything: it is a label: what it is worth is what the hold of that sum in a sandbox is worth. -/
noncomputable def Try.pinned : Pinned := { name := "ytajbhfejjenloaa", sum := "7a487d9548181e5b1cb5d3dcaee98a349dae0e294fd630092ee7e91709758478", checked := Try.checked }
namespace Rows
def none {H : Type} : Left H := { results := [], args := [] }

/-- 'arbourlaw03.WireLetters': WHATEVER THE INPUT: true; the input reads as it did. -/
def wireLettersSpec : ChangeSpec := { name := "wireLetters", fn := fun _ => fun
  | [d1, d2] => { results := [.lit (.bool true)], args := [d1, d2] }
  | _ => none }
def wireLettersRow : OpenClaim := { program := "ytajbhfejjenloaa", sum := "7a487d9548181e5b1cb5d3dcaee98a349dae0e294fd630092ee7e91709758478", func := "arbour/arbourlaw03.WireLetters", spec := "wireLetters", apart := false }
def WireLettersSaid : Prop := wireLettersRow.holds Try.pinned (OpenSpec.ofChange wireLettersSpec)

/-- ITS FALSE NEIGHBOUR: 'it returns false'. Refute it at one input. -/
def wireLettersWrong : ChangeSpec := { name := "wireLetters", fn := fun _ => fun
  | [d1, d2] => { results := [.lit (.bool false)], args := [d1, d2] }
  | _ => none }
def WireLettersWrongFalsely : Prop := wireLettersRow.holds Try.pinned (OpenSpec.ofChange wireLettersWrong)

/-- 'arbourlaw03.WireChecks': WHATEVER THE INPUT: true; the input reads as it did. -/
def wireChecksSpec : ChangeSpec := { name := "wireChecks", fn := fun _ => fun
  | [d] => { results := [.lit (.bool true)], args := [d] }
  | _ => none }
def wireChecksRow : OpenClaim := { program := "ytajbhfejjenloaa", sum := "7a487d9548181e5b1cb5d3dcaee98a349dae0e294fd630092ee7e91709758478", func := "arbour/arbourlaw03.WireChecks", spec := "wireChecks", apart := false }
def WireChecksSaid : Prop := wireChecksRow.holds Try.pinned (OpenSpec.ofChange wireChecksSpec)

/-- ITS FALSE NEIGHBOUR: 'it returns false'. Refute it at one input. -/
def wireChecksWrong : ChangeSpec := { name := "wireChecks", fn := fun _ => fun
  | [d] => { results := [.lit (.bool false)], args := [d] }
  | _ => none }
def WireChecksWrongFalsely : Prop := wireChecksRow.holds Try.pinned (OpenSpec.ofChange wireChecksWrong)

/-- 'arbourlaw03.WireFraming': WHATEVER THE INPUT: true; the input reads as it did. -/
def wireFramingSpec : ChangeSpec := { name := "wireFraming", fn := fun _ => fun
  | [d1, d2, d3] => { results := [.lit (.bool true)], args := [d1, d2, d3] }
  | _ => none }
def wireFramingRow : OpenClaim := { program := "ytajbhfejjenloaa", sum := "7a487d9548181e5b1cb5d3dcaee98a349dae0e294fd630092ee7e91709758478", func := "arbour/arbourlaw03.WireFraming", spec := "wireFraming", apart := false }
def WireFramingSaid : Prop := wireFramingRow.holds Try.pinned (OpenSpec.ofChange wireFramingSpec)

/-- ITS FALSE NEIGHBOUR: 'it returns false'. Refute it at one input. -/
def wireFramingWrong : ChangeSpec := { name := "wireFraming", fn := fun _ => fun
  | [d1, d2, d3] => { results := [.lit (.bool false)], args := [d1, d2, d3] }
  | _ => none }
def WireFramingWrongFalsely : Prop := wireFramingRow.holds Try.pinned (OpenSpec.ofChange wireFramingWrong)

/-- 'arbourlaw03.WireGets': WHATEVER THE INPUT: true; the input reads as it did. -/
def wireGetsSpec : ChangeSpec := { name := "wireGets", fn := fun _ => fun
  | [d1, d2] => { results := [.lit (.bool true)], args := [d1, d2] }
  | _ => none }
def wireGetsRow : OpenClaim := { program := "ytajbhfejjenloaa", sum := "7a487d9548181e5b1cb5d3dcaee98a349dae0e294fd630092ee7e91709758478", func := "arbour/arbourlaw03.WireGets", spec := "wireGets", apart := false }
def WireGetsSaid : Prop := wireGetsRow.holds Try.pinned (OpenSpec.ofChange wireGetsSpec)

/-- ITS FALSE NEIGHBOUR: 'it returns false'. Refute it at one input. -/
def wireGetsWrong : ChangeSpec := { name := "wireGets", fn := fun _ => fun
  | [d1, d2] => { results := [.lit (.bool false)], args := [d1, d2] }
  | _ => none }
def WireGetsWrongFalsely : Prop := wireGetsRow.holds Try.pinned (OpenSpec.ofChange wireGetsWrong)

/-- 'arbourlaw03.WireGives': WHATEVER THE INPUT: true; the input reads as it did. -/
def wireGivesSpec : ChangeSpec := { name := "wireGives", fn := fun _ => fun
  | [d] => { results := [.lit (.bool true)], args := [d] }
  | _ => none }
def wireGivesRow : OpenClaim := { program := "ytajbhfejjenloaa", sum := "7a487d9548181e5b1cb5d3dcaee98a349dae0e294fd630092ee7e91709758478", func := "arbour/arbourlaw03.WireGives", spec := "wireGives", inPlace := ["internal/abi.NoEscape"], apart := false }
def WireGivesSaid : Prop := wireGivesRow.holds Try.pinned (OpenSpec.ofChange wireGivesSpec)

/-- ITS FALSE NEIGHBOUR: 'it returns false'. Refute it at one input. -/
def wireGivesWrong : ChangeSpec := { name := "wireGives", fn := fun _ => fun
  | [d] => { results := [.lit (.bool false)], args := [d] }
  | _ => none }
def WireGivesWrongFalsely : Prop := wireGivesRow.holds Try.pinned (OpenSpec.ofChange wireGivesWrong)

/-- 'arbourlaw03.WireMosts': WHATEVER THE INPUT: true; the input reads as it did. -/
def wireMostsSpec : ChangeSpec := { name := "wireMosts", fn := fun _ => fun
  | [d1, d2] => { results := [.lit (.bool true)], args := [d1, d2] }
  | _ => none }
def wireMostsRow : OpenClaim := { program := "ytajbhfejjenloaa", sum := "7a487d9548181e5b1cb5d3dcaee98a349dae0e294fd630092ee7e91709758478", func := "arbour/arbourlaw03.WireMosts", spec := "wireMosts", apart := false }
def WireMostsSaid : Prop := wireMostsRow.holds Try.pinned (OpenSpec.ofChange wireMostsSpec)

/-- ITS FALSE NEIGHBOUR: 'it returns false'. Refute it at one input. -/
def wireMostsWrong : ChangeSpec := { name := "wireMosts", fn := fun _ => fun
  | [d1, d2] => { results := [.lit (.bool false)], args := [d1, d2] }
  | _ => none }
def WireMostsWrongFalsely : Prop := wireMostsRow.holds Try.pinned (OpenSpec.ofChange wireMostsWrong)

/- THE SECOND FORM. 'bulk': how many values and letters a reading holds, each counted each time it is reached (what is shared counts as often as it is met; a slice's spare places count too). A statement '..UptoSaid' is the law's where the arguments, and the package variables that the reading takes, are together of bulk at most 1048576: NARROWER than '..Said'. Prove '..Said' where nothing that the law and all that it calls make is longer than what came in: it says more and counts as full. Else prove '..UptoSaid'. A law counts once. -/
mutual
def uptoBulk {H : Type} : DataW H → Nat
  | .lit (.string bytes) => bytes.length + 1
  | .lit _ => 1
  | .nil => 1
  | .ptr d => uptoBulk d + 1
  | .slice elems spare => uptoBulkAll elems + uptoBulkAll spare + 1
  | .agg parts => uptoBulkAll parts + 1
  | .iface _ d => uptoBulk d + 1
  | .map entries => uptoBulkEntries entries + 1
  | .held _ => 1
def uptoBulkAll {H : Type} : List (DataW H) → Nat
  | [] => 0
  | d :: r => uptoBulk d + uptoBulkAll r
def uptoBulkEntries {H : Type} : List (Lit × DataW H) → Nat
  | [] => 0
  | x :: r => uptoBulkEntry x + uptoBulkEntries r
def uptoBulkEntry {H : Type} : Lit × DataW H → Nat
  | (.string bytes, d) => bytes.length + uptoBulk d + 1
  | (_, d) => uptoBulk d + 1
 end
def uptoSmall : (H : Type) → List (DataW H) → Bool := fun _ ds => decide (uptoBulkAll ds ≤ 1048576)
def OpenSpec.upto (s : _root_.Go.ChangeSpec) : _root_.Go.OpenSpec := { _root_.Go.OpenSpec.ofChange s with cond := some uptoSmall }

/-- 'arbourlaw03.WireLetters', WHERE WHAT IT READS IS OF BULK AT MOST 1048576: true; the input reads as it did. -/
def wireLettersUptoRow : OpenClaim := { program := "ytajbhfejjenloaa", sum := "7a487d9548181e5b1cb5d3dcaee98a349dae0e294fd630092ee7e91709758478", func := "arbour/arbourlaw03.WireLetters", spec := "wireLetters", apart := false, narrowed := true }
def WireLettersUptoSaid : Prop := wireLettersUptoRow.holds Try.pinned (OpenSpec.upto wireLettersSpec)

/-- 'arbourlaw03.WireChecks', WHERE WHAT IT READS IS OF BULK AT MOST 1048576: true; the input reads as it did. -/
def wireChecksUptoRow : OpenClaim := { program := "ytajbhfejjenloaa", sum := "7a487d9548181e5b1cb5d3dcaee98a349dae0e294fd630092ee7e91709758478", func := "arbour/arbourlaw03.WireChecks", spec := "wireChecks", apart := false, narrowed := true }
def WireChecksUptoSaid : Prop := wireChecksUptoRow.holds Try.pinned (OpenSpec.upto wireChecksSpec)

/-- 'arbourlaw03.WireFraming', WHERE WHAT IT READS IS OF BULK AT MOST 1048576: true; the input reads as it did. -/
def wireFramingUptoRow : OpenClaim := { program := "ytajbhfejjenloaa", sum := "7a487d9548181e5b1cb5d3dcaee98a349dae0e294fd630092ee7e91709758478", func := "arbour/arbourlaw03.WireFraming", spec := "wireFraming", apart := false, narrowed := true }
def WireFramingUptoSaid : Prop := wireFramingUptoRow.holds Try.pinned (OpenSpec.upto wireFramingSpec)

/-- 'arbourlaw03.WireGets', WHERE WHAT IT READS IS OF BULK AT MOST 1048576: true; the input reads as it did. -/
def wireGetsUptoRow : OpenClaim := { program := "ytajbhfejjenloaa", sum := "7a487d9548181e5b1cb5d3dcaee98a349dae0e294fd630092ee7e91709758478", func := "arbour/arbourlaw03.WireGets", spec := "wireGets", apart := false, narrowed := true }
def WireGetsUptoSaid : Prop := wireGetsUptoRow.holds Try.pinned (OpenSpec.upto wireGetsSpec)

/-- 'arbourlaw03.WireGives', WHERE WHAT IT READS IS OF BULK AT MOST 1048576: true; the input reads as it did. -/
def wireGivesUptoRow : OpenClaim := { program := "ytajbhfejjenloaa", sum := "7a487d9548181e5b1cb5d3dcaee98a349dae0e294fd630092ee7e91709758478", func := "arbour/arbourlaw03.WireGives", spec := "wireGives", inPlace := ["internal/abi.NoEscape"], apart := false, narrowed := true }
def WireGivesUptoSaid : Prop := wireGivesUptoRow.holds Try.pinned (OpenSpec.upto wireGivesSpec)

/-- 'arbourlaw03.WireMosts', WHERE WHAT IT READS IS OF BULK AT MOST 1048576: true; the input reads as it did. -/
def wireMostsUptoRow : OpenClaim := { program := "ytajbhfejjenloaa", sum := "7a487d9548181e5b1cb5d3dcaee98a349dae0e294fd630092ee7e91709758478", func := "arbour/arbourlaw03.WireMosts", spec := "wireMosts", apart := false, narrowed := true }
def WireMostsUptoSaid : Prop := wireMostsUptoRow.holds Try.pinned (OpenSpec.upto wireMostsSpec)

end Rows
end Go.Proofs.Ytajbhfejjenloaa
