/- Several texts in one: WalOpenLists. -/
import Derived.Test.YtoineobjmllicaaGreatDoorFrameOne
import Derived.Test.YtoineobjmllicaaGreatDoorFullOne
import Derived.Test.YtoineobjmllicaaGreatDoorRowsOne
/- A slice of slices of texts that came in is read. -/
namespace Go.Proofs.YtoineobjmllicaaGreatDoor
open Go Go.ChangeShapes Go.WideShapes Go.ChangeAt Go.RowKit Go.Wal Go.Dk Go.Wire
set_option maxRecDepth 100000 in
theorem lines_of {H : Type} {enc : TypeId × Value → H} {W : World} {base n : Nat} {held : Bool} {cs : List Value} {y : DataW H × List MemPlace} (hf : DataW.trod enc Tryz.prog W base (fun _ => true) held n 30 cs = some y) :
    ∃ v ls, cs = [v] ∧ Texts W v ls ∧ (∀ l ∈ ls, l.length ≤ maxLen) ∧ ls.length ≤ maxLen := by
  rcases open_strings Tryz.underlying30 Tryz.underlying9 cells9 hf with ⟨hcs, _⟩ | ⟨a, len, cap, ss, hcs, _, hl, hm, hz, _, hcell, hsz⟩
  · exact ⟨_, [], hcs, ⟨none, 0, rfl, Nat.le_refl _, fun j l hj => by simp at hj⟩, by simp, by unfold maxLen; simp⟩
  · simp only [if_true] at hz
    have hlen : ((ss.take len).map fun s => s.data.toList).length = len := by rw [List.length_map, List.length_take_of_le (by omega)]
    refine ⟨_, (ss.take len).map fun s => s.data.toList, hcs, ⟨some a, cap, by rw [hlen], by rw [hlen]; exact hl, fun j l hj => ?_⟩, fun l hm' => ?_, by rw [hlen]; omega⟩
    · rw [List.getElem?_map] at hj
      obtain ⟨s, hs, rfl⟩ := Option.map_eq_some_iff.1 hj
      have hjl : j < len := by have := (List.getElem?_eq_some_iff.1 hs).1; rw [List.length_take_of_le (by omega)] at this; exact this
      rw [List.getElem?_take_of_lt hjl] at hs
      have hc0 := hcell 0 (by omega)
      obtain ⟨b, off, spot⟩ := a
      have hspot : spot = none := by simpa [Addr.add] using World.cell?_spot hc0
      subst hspot
      have hc := hcell j (by omega)
      rw [Go.WideShapes.add_plain] at hc
      refine ⟨b, off, rfl, ?_⟩
      rw [hc, List.getD_eq_getElem?_getD, hs]
      rfl
    · obtain ⟨s, hs, rfl⟩ := List.mem_map.1 hm'
      have := hsz s (List.mem_of_mem_take hs)
      rw [Array.length_toList]
      exact this
theorem cells30 : Tryz.prog.cellsOf 30 = 1 := by kernel_rfl
set_option maxRecDepth 100000 in
theorem open_lists {H : Type} {enc : TypeId × Value → H} {W : World} {r : Reach} {b0 base : Nat} {held : Bool} {v : Value} {d : DataW H} {p : List MemPlace}
    (hv : Value.okWide Tryz.prog W r b0 61 v) (h : DataW.Trod enc Tryz.prog W base (fun _ => true) held 61 v d p) : ∃ L, Lists W v L ∧ (∀ ls ∈ L, ls.length ≤ maxLen ∧ ∀ l ∈ ls, l.length ≤ maxLen) ∧ L.length ≤ maxLen := by
  have inh : Inhabited (Value × List Bs) := ⟨(undef, [])⟩
  obtain ⟨n, gs, hS, hΦ, hn⟩ := open_rows (G := Value × List Bs) (fun g _ => g.1) (fun g => Texts W g.1 g.2 ∧ (∀ l ∈ g.2, l.length ≤ maxLen) ∧ g.2.length ≤ maxLen) Tryz.underlying61 (by decide : 0 < 1) cells30 (fun k cs y _ hf => by
    obtain ⟨v, ls, rfl, h1, h2, h3⟩ := lines_of hf
    exact ⟨(v, ls), fun c hc => by
      have : c = 0 := by omega
      subst this
      rfl, h1, h2, h3⟩) hv h
  have hlen : ((List.range n).map fun j => (gs j).2).length = n := by simp
  refine ⟨(List.range n).map fun j => (gs j).2, ?_, fun ls hls => ?_, by rw [hlen]; exact hn⟩
  · rcases hS with ⟨⟨a, cap, rfl⟩, rfl⟩ | ⟨b, off, cap, rfl, _, hc, hcell⟩
    · exact ⟨a, cap, rfl, Nat.zero_le _, fun j ls hj => by simp at hj⟩
    · refine ⟨_, cap, by rw [hlen], by rw [hlen]; exact hc, fun j ls hj => ?_⟩
      have hjn : j < n := by have := (List.getElem?_eq_some_iff.1 hj).1; rwa [hlen] at this
      rw [List.getElem?_map, List.getElem?_range hjn] at hj
      cases hj
      refine ⟨b, off, (gs j).1, rfl, ?_, (hΦ j hjn).1⟩
      have := hcell j 0 hjn (by decide)
      rw [← this]
      congr 2
      omega
  · obtain ⟨j, hj, rfl⟩ := List.mem_map.1 hls
    have := hΦ j (List.mem_range.1 hj)
    exact ⟨this.2.2, this.2.1⟩
end Go.Proofs.YtoineobjmllicaaGreatDoor
