/- What came in is read: things that are done, one behind the other. -/
import Derived.Test.YtnjkahoaogeecaaDiskOpen
import Derived.Test.YtnjkahoaogeecaaDiskActsWalk
namespace Go.Proofs.Ytnjkahoaogeecaa
open Go Go.ChangeShapes Go.WideShapes Go.ChangeAt Go.RowKit Go.Wire Go.Dk
set_option maxRecDepth 100000 in
theorem open_acts {H : Type} {enc : TypeId × Value → H} {W : World} {r : Reach} {b0 base : Nat} {held : Bool} {v : Value} {d : DataW H} {p : List MemPlace}
    (hv : Value.okWide Try.prog W r b0 22 v) (h : DataW.Trod enc Try.prog W base (fun _ => true) held 22 v d p) :
    ∃ (n : Nat) (gs : Nat → Ac), SRow W 8 v n (fun j => (gs j).cell) ∧ (∀ j, j < n → (gs j).Fits) ∧ n ≤ maxLen :=
  have : Inhabited Ac := ⟨⟨0, ByteArray.empty, ByteArray.empty, ByteArray.empty, 0, ⟨0, 0, 0⟩⟩⟩
  open_rows Ac.cell Ac.Fits Try.underlying22 (by decide) OpenW.cellsAct (fun n cs y hl h2 => by
    obtain ⟨y0, y1⟩ := y
    match cs, hl with
    | [x0, x1, x2, x3, x4, x5, x6, x7], _ =>
      obtain ⟨o, ho, hf⟩ := act_cells h2
      refine ⟨o, fun c hc => ?_, hf⟩
      rw [ho]
      match c, hc with
      | 0, _ | 1, _ | 2, _ | 3, _ | 4, _ | 5, _ | 6, _ | 7, _ => rfl) hv h
end Go.Proofs.Ytnjkahoaogeecaa
