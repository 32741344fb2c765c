/- What came in is read: slices of strings, shares, manifests. -/
import Derived.Test.YtoopaeahhbkncabDoorMerkleClaim
import Derived.Test.YtoopaeahhbkncabDoorOpenRows
import Derived.Test.YtoopaeahhbkncabDoorFrame
namespace Go.Proofs.YtoopaeahhbkncabDoor
open Go Go.ChangeShapes Go.WideShapes Go.ChangeAt Go.RowKit Go.Mk
theorem opCells9 : Tryd.prog.cellsOf 9 = 1 := by kernel_rfl
theorem opCells3 : Tryd.prog.cellsOf 3 = 1 := by kernel_rfl
theorem opCells24 : Tryd.prog.cellsOf 24 = 1 := by kernel_rfl
set_option maxRecDepth 100000 in
theorem strs_of {H : Type} {enc : TypeId × Value → H} {W : World} {base n : Nat} {held : Bool} {cs : List Value} {y : DataW H × List MemPlace} (hf : DataW.trod enc Tryd.prog W base (fun _ => true) held n 24 cs = some y) :
    ∃ v xs, cs = [v] ∧ StrRow.Reads W v xs ∧ (∀ s ∈ xs, s.size ≤ maxLen) ∧ xs.length ≤ maxLen := by
  rcases open_strings Tryd.underlying24 Tryd.underlying9 opCells9 hf with ⟨hcs, _⟩ | ⟨a, len, cap, ss, hcs, _, hl, hm, hz, _, hcell, hsz⟩
  · exact ⟨_, [], hcs, .inl ⟨⟨_, _, rfl⟩, rfl⟩, by simp, by unfold maxLen; simp⟩
  · simp only [if_true] at hz
    have hlen : (ss.take len).length = len := by rw [List.length_take_of_le (by omega)]
    refine ⟨_, ss.take len, hcs, ?_, fun s hs => hsz s (List.mem_of_mem_take hs), by rw [hlen]; omega⟩
    by_cases h0 : len = 0
    · subst h0
      exact .inl ⟨⟨_, _, rfl⟩, by simp⟩
    · have hc0 := hcell 0 (by omega)
      obtain ⟨b, off, spot⟩ := a
      have hspot : spot = none := by simpa [Addr.add] using World.cell?_spot hc0
      subst hspot
      rw [Go.WideShapes.add_plain] at hc0
      refine .inr ⟨b, off, cap, by rw [hlen], block_lt_of_cell hc0, by rw [hlen]; exact hl, fun j s hs => ?_⟩
      have hjl : j < len := by have := (List.getElem?_eq_some_iff.1 hs).1; omega
      rw [List.getElem?_take_of_lt hjl] at hs
      have hc := hcell j (by omega)
      rw [Go.WideShapes.add_plain] at hc
      rw [hc, List.getD_eq_getElem?_getD, hs]
      rfl
theorem opCellsShare : Tryd.prog.cellsOf 27 = 6 := by kernel_rfl
set_option maxRecDepth 100000 in
theorem open_share {H : Type} {enc : TypeId × Value → H} {W : World} {r : Reach} {b0 base : Nat} {held : Bool} {v : Value} {d : DataW H} {p : List MemPlace}
    (hv : Value.okWide Tryd.prog W r b0 27 v) (h : DataW.Trod enc Tryd.prog W base (fun _ => true) held 27 v d p) : ∃ (x : Sh) (pv : Value), v = x.v pv ∧ StrRow.Reads W pv x.pa ∧ x.pa.length ≤ maxLen := by
  obtain ⟨cs, rfl, hsz⟩ := okWide_struct Tryd.underlying27 hv
  rw [opCellsShare] at hsz
  obtain ⟨l⟩ := cs
  match l, hsz with
  | [x0, x1, x2, x3, x4, x5], _ =>
    obtain ⟨fuel, hf⟩ := h
    obtain ⟨xs, n, _, _, _, hlen, hel⟩ := DataW.trod_struct Tryd.underlying27 hf
    match xs, hlen with
    | [y0, y1, y2, y3, y4, y5], _ =>
      have h0 := hel 0 _ rfl
      have h1 := hel 1 _ rfl
      have h2 := hel 2 _ rfl
      have h3 := hel 3 _ rfl
      have h4 := hel 4 _ rfl
      have h5 := hel 5 _ rfl
      clear hel hf
      obtain ⟨a0, e0, _, _⟩ := DataW.trod_string Tryd.underlying9 h0
      obtain ⟨a1, e1, _, _⟩ := DataW.trod_int Tryd.underlying3 h1
      obtain ⟨a2, e2, _, _⟩ := DataW.trod_int Tryd.underlying3 h2
      obtain ⟨a3, e3, _, _⟩ := DataW.trod_int Tryd.underlying3 h3
      obtain ⟨a4, e4, _, _⟩ := DataW.trod_string Tryd.underlying9 h4
      obtain ⟨v5, ls, e5, t5, _, m5⟩ := strs_of h5
      rw [show Tryd.prog.cellsOf (Field.type _) = 1 from opCells3] at e1 e2 e3
      rw [show Tryd.prog.cellsOf (Field.type _) = 1 from opCells9] at e0 e4
      rw [show Tryd.prog.cellsOf (Field.type _) = 1 from opCells24] at e5
      obtain rfl : x0 = .string a0 := (List.cons.inj e0).1
      obtain rfl : x1 = .int .i64 a1 := (List.cons.inj e1).1
      obtain rfl : x2 = .int .i64 a2 := (List.cons.inj e2).1
      obtain rfl : x3 = .int .i64 a3 := (List.cons.inj e3).1
      obtain rfl : x4 = .string a4 := (List.cons.inj e4).1
      obtain rfl : x5 = v5 := (List.cons.inj e5).1
      exact ⟨⟨a0, a1, a2, a3, a4, ls⟩, x5, rfl, t5, m5⟩
end Go.Proofs.YtoopaeahhbkncabDoor
