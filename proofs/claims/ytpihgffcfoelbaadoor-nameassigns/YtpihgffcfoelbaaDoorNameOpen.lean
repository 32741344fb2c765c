/- What came in is read: a slice of texts. -/
import Derived.Test.YtpihgffcfoelbaaDoorStrs
import Derived.Test.YtpihgffcfoelbaaDoorOpenRows
import Derived.Test.YtpihgffcfoelbaaDoorNameFrame
import Derived.SliceStrings
namespace Go.Proofs.YtpihgffcfoelbaaDoor
open Go Go.ChangeShapes Go.WideShapes Go.ChangeAt Go.RowKit
theorem opCells9 : Tryd.prog.cellsOf 9 = 1 := by kernel_rfl
set_option maxRecDepth 100000 in
theorem strs_of {H : Type} {enc : TypeId × Value → H} {W : World} {base n : Nat} {held : Bool} {cs : List Value} {y : DataW H × List MemPlace} (hf : DataW.trod enc Tryd.prog W base (fun _ => true) held n 27 cs = some y) :
    ∃ v xs, cs = [v] ∧ StrRow.Reads W v xs ∧ (∀ s ∈ xs, s.size ≤ maxLen) ∧ xs.length ≤ maxLen := by
  rcases open_strings Tryd.underlying27 Tryd.underlying9 opCells9 hf with ⟨hcs, _⟩ | ⟨a, len, cap, ss, hcs, _, hl, hm, hz, _, hcell, hsz⟩
  · exact ⟨_, [], hcs, .inl ⟨⟨_, _, rfl⟩, rfl⟩, by simp, by unfold maxLen; simp⟩
  · simp only [if_true] at hz
    have hlen : (ss.take len).length = len := by rw [List.length_take_of_le (by omega)]
    refine ⟨_, ss.take len, hcs, ?_, fun s hs => hsz s (List.mem_of_mem_take hs), by rw [hlen]; omega⟩
    by_cases h0 : len = 0
    · subst h0
      exact .inl ⟨⟨_, _, rfl⟩, by simp⟩
    · have hc0 := hcell 0 (by omega)
      obtain ⟨b, off, spot⟩ := a
      have hspot : spot = none := by simpa [Addr.add] using World.cell?_spot hc0
      subst hspot
      rw [Go.WideShapes.add_plain] at hc0
      refine .inr ⟨b, off, cap, by rw [hlen], block_lt_of_cell hc0, by rw [hlen]; exact hl, fun j s hs => ?_⟩
      have hjl : j < len := by have := (List.getElem?_eq_some_iff.1 hs).1; omega
      rw [List.getElem?_take_of_lt hjl] at hs
      have hc := hcell j (by omega)
      rw [Go.WideShapes.add_plain] at hc
      rw [hc, List.getD_eq_getElem?_getD, hs]
      rfl
theorem open_lines {H : Type} {enc : TypeId × Value → H} {W : World} {r : Reach} {b0 base : Nat} {held : Bool} {v : Value} {d : DataW H} {p : List MemPlace}
    (hv : Value.okWide Tryd.prog W r b0 27 v) (h : DataW.Trod enc Tryd.prog W base (fun _ => true) held 27 v d p) : ∃ xs, StrRow.Reads W v xs ∧ xs.length ≤ maxLen := by
  obtain ⟨a0, len, cap, rfl⟩ := okWide_slice Tryd.underlying27 hv
  obtain ⟨fuel, hf⟩ := h
  obtain ⟨v', xs, hcs, hr, _, hl⟩ := strs_of hf
  simp [Value.cells] at hcs
  subst hcs
  exact ⟨xs, hr, hl⟩
end Go.Proofs.YtpihgffcfoelbaaDoor
