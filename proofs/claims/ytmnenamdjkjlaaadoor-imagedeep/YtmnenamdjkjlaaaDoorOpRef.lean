/- Contract: an operation as the document has it. -/
import Derived.Test.YtmnenamdjkjlaaaDoorOpAll
import Derived.Test.YtmnenamdjkjlaaaDoorRunAB
namespace Go.Proofs.YtmnenamdjkjlaaaDoor
open Go.RowKit Go.Wire Go.Stamp Go.Opn Go.Sort
set_option maxRecDepth 100000 in
theorem below_setRow {B : Nat} {w w1 : World} (h : Below B w w1) {g : Nat} (hg : B ≤ g) (cs : Array Value) : Below B w (w1.setRow g cs) :=
  h.trans ⟨rfl, rfl, rfl, by simp, fun k hk => setRow_other _ _ _ _ (by omega)⟩
end Go.Proofs.YtmnenamdjkjlaaaDoor
