/- What came in is read: manifests. -/
import Derived.Test.YtoopaeahhbkncaaDoorMerkleOpen
namespace Go.Proofs.YtoopaeahhbkncaaDoor
open Go Go.ChangeShapes Go.WideShapes Go.ChangeAt Go.RowKit Go.Mk
theorem opCellsMan : Tryd.prog.cellsOf 26 = 2 := by kernel_rfl
set_option maxRecDepth 100000 in
theorem open_man {H : Type} {enc : TypeId × Value → H} {W : World} {r : Reach} {b0 base : Nat} {held : Bool} {v : Value} {d : DataW H} {p : List MemPlace}
    (hv : Value.okWide Tryd.prog W r b0 26 v) (h : DataW.Trod enc Tryd.prog W base (fun _ => true) held 26 v d p) : ∃ (size : Int) (xs : List ByteArray) (pv : Value), v = .agg #[.int .i64 size, pv] ∧ StrRow.Reads W pv xs ∧ xs.length ≤ maxLen := by
  obtain ⟨cs, rfl, hsz⟩ := okWide_struct Tryd.underlying26 hv
  rw [opCellsMan] at hsz
  obtain ⟨l⟩ := cs
  match l, hsz with
  | [x0, x1], _ =>
    obtain ⟨fuel, hf⟩ := h
    obtain ⟨xs, n, _, _, _, hlen, hel⟩ := DataW.trod_struct Tryd.underlying26 hf
    match xs, hlen with
    | [y0, y1], _ =>
      have h0 := hel 0 _ rfl
      have h1 := hel 1 _ rfl
      clear hel hf
      obtain ⟨a0, e0, _, _⟩ := DataW.trod_int Tryd.underlying3 h0
      obtain ⟨v1, ls, e1, t1, _, m1⟩ := strs_of h1
      rw [show Tryd.prog.cellsOf (Field.type _) = 1 from opCells3] at e0
      rw [show Tryd.prog.cellsOf (Field.type _) = 1 from opCells24] at e1
      cases e0
      cases e1
      exact ⟨a0, ls, _, rfl, t1, m1⟩
end Go.Proofs.YtoopaeahhbkncaaDoor
