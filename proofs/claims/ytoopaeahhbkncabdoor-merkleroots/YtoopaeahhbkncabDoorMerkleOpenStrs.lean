/- What came in is read: a slice of strings, each within the reach. -/
import Derived.Test.YtoopaeahhbkncabDoorMerkleOpen
import Derived.SizedLaws
namespace Go.Proofs.YtoopaeahhbkncabDoor
open Go Go.ChangeShapes Go.WideShapes Go.ChangeAt Go.RowKit Go.Mk
theorem strs_weights {H : Type} (P : Program) (e : TypeId) : ∀ (ss : List ByteArray), ∀ s ∈ ss, s.data.toList.length ∈ DataW.weightsAll (H := H) P e (strs ss)
  | x :: xs, s, hs => by
    have e1 : strs (H := H) (x :: xs) = .lit (.string x.data.toList) :: strs xs := rfl
    rw [e1]
    show _ ∈ DataW.weights P e (.lit (.string x.data.toList)) ++ DataW.weightsAll P e (strs xs)
    rcases List.mem_cons.1 hs with rfl | hs
    · exact List.mem_append_left _ (by simp [DataW.weights])
    · exact List.mem_append_right _ (strs_weights P e xs s hs)
set_option maxRecDepth 100000 in
theorem open_strs {H : Type} {enc : TypeId × Value → H} {W : World} {r : Reach} {b0 base : Nat} {held : Bool} {v : Value} {d : DataW H} {p : List MemPlace}
    (hv : Value.okWide Tryd.prog W r b0 24 v) (h : DataW.Trod enc Tryd.prog W base (fun _ => true) held 24 v d p) : ∃ xs, StrRow.Reads W v xs ∧ xs.length ≤ maxLen ∧ ∀ s ∈ xs, s.data.toList.length ∈ DataW.weights Tryd.prog 24 d := by
  obtain ⟨a0, len0, cap0, rfl⟩ := okWide_slice Tryd.underlying24 hv
  obtain ⟨fuel, hf⟩ := h
  rcases open_strings Tryd.underlying24 Tryd.underlying9 opCells9 hf with ⟨hcs, _⟩ | ⟨a, len, cap, ss, hcs, _, hl, hm, hz, hd, hcell, hsz⟩
  · simp [Value.cells] at hcs
    obtain ⟨rfl, rfl, rfl⟩ := hcs
    exact ⟨[], .inl ⟨⟨_, _, rfl⟩, rfl⟩, by unfold maxLen; simp, by simp⟩
  · simp [Value.cells] at hcs
    obtain ⟨rfl, rfl, rfl⟩ := hcs
    simp only [if_true] at hz
    have hlen : (ss.take len0).length = len0 := by rw [List.length_take_of_le (by omega)]
    have hd1 : d = .slice (strs (ss.take len0)) (strs (ss.drop len0)) := congrArg Prod.fst hd
    refine ⟨ss.take len0, ?_, by rw [hlen]; omega, fun s hs => ?_⟩
    · by_cases h0 : len0 = 0
      · subst h0
        exact .inl ⟨⟨_, _, rfl⟩, by simp⟩
      · have hc0 := hcell 0 (by omega)
        obtain ⟨b, off, spot⟩ := a
        have hspot : spot = none := by simpa [Addr.add] using World.cell?_spot hc0
        subst hspot
        rw [Go.WideShapes.add_plain] at hc0
        refine .inr ⟨b, off, cap0, by rw [hlen], block_lt_of_cell hc0, by rw [hlen]; exact hl, fun j s hs => ?_⟩
        have hjl : j < len0 := by have := (List.getElem?_eq_some_iff.1 hs).1; omega
        rw [List.getElem?_take_of_lt hjl] at hs
        have hc := hcell j (by omega)
        rw [Go.WideShapes.add_plain] at hc
        rw [hc, List.getD_eq_getElem?_getD, hs]
        rfl
    · rw [hd1]
      unfold DataW.weights
      rw [Tryd.underlying24]
      refine List.mem_cons_of_mem _ (List.mem_append_left _ ?_)
      exact strs_weights Tryd.prog 9 _ s hs
end Go.Proofs.YtoopaeahhbkncabDoor
