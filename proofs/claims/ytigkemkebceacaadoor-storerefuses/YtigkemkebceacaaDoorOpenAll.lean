/- Several texts in one: StrsOpen, MerkleOpen, MerkleOpenMan. -/
import Derived.Test.YtigkemkebceacaaDoorPureSha
import Derived.Test.YtigkemkebceacaaDoorRowsAll
import Derived.Test.YtigkemkebceacaaDoorFrameAll
import Derived.Test.YtigkemkebceacaaDoorMerkleTwo
/- What came in is read: slices of strings. -/
namespace Go.Proofs.YtigkemkebceacaaDoor
open Go Go.ChangeShapes Go.WideShapes Go.ChangeAt Go.RowKit
theorem opCells9 : Tryd.prog.cellsOf 9 = 1 := by kernel_rfl
theorem opCells3 : Tryd.prog.cellsOf 3 = 1 := by kernel_rfl
theorem opCells24 : Tryd.prog.cellsOf 22 = 1 := by kernel_rfl
set_option maxRecDepth 100000 in
theorem strs_of {H : Type} {enc : TypeId × Value → H} {W : World} {base n : Nat} {held : Bool} {cs : List Value} {y : DataW H × List MemPlace} (hf : DataW.trod enc Tryd.prog W base (fun _ => true) held n 22 cs = some y) :
    ∃ v xs, cs = [v] ∧ StrRow.Reads W v xs ∧ (∀ s ∈ xs, s.size ≤ maxLen) ∧ xs.length ≤ maxLen := by
  rcases open_strings Tryd.underlying22 Tryd.underlying9 opCells9 hf with ⟨hcs, _⟩ | ⟨a, len, cap, ss, hcs, _, hl, hm, hz, _, hcell, hsz⟩
  · exact ⟨_, [], hcs, .inl ⟨⟨_, _, rfl⟩, rfl⟩, by simp, by unfold maxLen; simp⟩
  · simp only [if_true] at hz
    have hlen : (ss.take len).length = len := by rw [List.length_take_of_le (by omega)]
    refine ⟨_, ss.take len, hcs, ?_, fun s hs => hsz s (List.mem_of_mem_take hs), by rw [hlen]; omega⟩
    by_cases h0 : len = 0
    · subst h0
      exact .inl ⟨⟨_, _, rfl⟩, by simp⟩
    · have hc0 := hcell 0 (by omega)
      obtain ⟨b, off, spot⟩ := a
      have hspot : spot = none := by simpa [Addr.add] using World.cell?_spot hc0
      subst hspot
      rw [Go.WideShapes.add_plain] at hc0
      refine .inr ⟨b, off, cap, by rw [hlen], block_lt_of_cell hc0, by rw [hlen]; exact hl, fun j s hs => ?_⟩
      have hjl : j < len := by have := (List.getElem?_eq_some_iff.1 hs).1; omega
      rw [List.getElem?_take_of_lt hjl] at hs
      have hc := hcell j (by omega)
      rw [Go.WideShapes.add_plain] at hc
      rw [hc, List.getD_eq_getElem?_getD, hs]
      rfl
end Go.Proofs.YtigkemkebceacaaDoor
/- What came in is read: slices of strings, shares, manifests. -/
namespace Go.Proofs.YtigkemkebceacaaDoor
open Go Go.ChangeShapes Go.WideShapes Go.ChangeAt Go.RowKit Go.Mk
end Go.Proofs.YtigkemkebceacaaDoor
/- What came in is read: manifests. -/
namespace Go.Proofs.YtigkemkebceacaaDoor
open Go Go.ChangeShapes Go.WideShapes Go.ChangeAt Go.RowKit Go.Mk
theorem opCellsMan : Tryd.prog.cellsOf 24 = 2 := by kernel_rfl
set_option maxRecDepth 100000 in
theorem open_man {H : Type} {enc : TypeId × Value → H} {W : World} {r : Reach} {b0 base : Nat} {held : Bool} {v : Value} {d : DataW H} {p : List MemPlace}
    (hv : Value.okWide Tryd.prog W r b0 24 v) (h : DataW.Trod enc Tryd.prog W base (fun _ => true) held 24 v d p) : ∃ (size : Int) (xs : List ByteArray) (pv : Value), v = .agg #[.int .i64 size, pv] ∧ StrRow.Reads W pv xs ∧ xs.length ≤ maxLen := by
  obtain ⟨cs, rfl, hsz⟩ := okWide_struct Tryd.underlying24 hv
  rw [opCellsMan] at hsz
  obtain ⟨l⟩ := cs
  match l, hsz with
  | [x0, x1], _ =>
    obtain ⟨fuel, hf⟩ := h
    obtain ⟨xs, n, _, _, _, hlen, hel⟩ := DataW.trod_struct Tryd.underlying24 hf
    match xs, hlen with
    | [y0, y1], _ =>
      have h0 := hel 0 _ rfl
      have h1 := hel 1 _ rfl
      clear hel hf
      obtain ⟨a0, e0, _, _⟩ := DataW.trod_int Tryd.underlying3 h0
      obtain ⟨v1, ls, e1, t1, _, m1⟩ := strs_of h1
      rw [show Tryd.prog.cellsOf (Field.type _) = 1 from opCells3] at e0
      rw [show Tryd.prog.cellsOf (Field.type _) = 1 from opCells24] at e1
      cases e0
      cases e1
      exact ⟨a0, ls, _, rfl, t1, m1⟩
end Go.Proofs.YtigkemkebceacaaDoor
