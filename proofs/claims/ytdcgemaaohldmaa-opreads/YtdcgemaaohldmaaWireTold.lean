/- A writer that is only asked any more: what it has is told again and again. -/
import Derived.Test.YtdcgemaaohldmaaWireAll
import Derived.Test.YtdcgemaaohldmaaWireSpare
namespace Go.Wire
open Go.RowKit
theorem freeze_same {w : World} {g : Nat} {cur : Array Value} {T : TypeId} {fr : Nat × Nat} (h : w.heap[g]? = some (.cells cur T fr)) (n : Nat) : ∃ fr', (w.freeze ⟨g, 0, none⟩ n).heap[g]? = some (.cells cur T fr') := by
  unfold World.freeze
  split
  · exact ⟨fr, h⟩
  · obtain ⟨lo, hi⟩ := fr
    refine ⟨if lo == hi then (0, 0 + n) else (min lo 0, max hi (0 + n)), ?_⟩
    simp only [Array.getElem?_modify, if_true, h, Option.map_some]
/-- Block b is a writer that has the bytes l; they may have been told. -/
def Wt (T B b : Nat) (l : List UInt8) (w : World) : Prop :=
  ∃ p, (l = [] ∧ w.heap[b]? = some (.cells #[p, .slice none 0 0] T (0, 0))) ∨
    ∃ g cap cur fr, l ≠ [] ∧ B ≤ g ∧ g ≠ b ∧ w.heap[b]? = some (.cells #[p, .slice (some ⟨g, 0, none⟩) l.length cap] T (0, 0)) ∧ w.heap[g]? = some (.cells cur 5 fr) ∧ l.length ≤ cap ∧ cap ≤ maxLen ∧ cur.size = cap * 1 ∧ cur.toList.take (l.length * 1) = Lib.byteCells l
theorem Wr.told {T B b : Nat} {l : List UInt8} {w : World} (h : Wr T B b l w) : Wt T B b l w := by
  obtain ⟨hBb, p, v, hp, hb, ho, hn, he⟩ := h
  refine ⟨p, ?_⟩
  by_cases h0 : l = []
  · have hv := he h0
    subst hv
    exact .inl ⟨h0, hb⟩
  · have hl0 : l.length ≠ 0 := by simpa using h0
    rcases ho.2 with ⟨_, hz⟩ | ⟨g, cap, cur, hv, hbg, hg, hnc, hcm, hcs, htake⟩
    · exact absurd hz hl0
    · subst hv
      exact .inr ⟨g, cap, cur, _, h0, hbg, fun e => hn (by rw [e]; rfl), hb, hg, hnc, hcm, hcs, htake⟩
theorem Wt.below {T B b : Nat} {l : List UInt8} {w w' : World} (h : Wt T B b l w) (k : Below w.heap.size w w') : Wt T B b l w' := by
  have kb : ∀ {g : Nat} {o : Obj}, w.heap[g]? = some o → w'.heap[g]? = some o := fun {g o} h => (k.block g (by
    rcases Nat.lt_or_ge g w.heap.size with x | x
    · exact x
    · rw [Array.getElem?_eq_none x] at h; cases h)).trans h
  obtain ⟨p, h | ⟨g, cap, cur, fr, h0, h1, h2, h3, h4, h5⟩⟩ := h
  · exact ⟨p, .inl ⟨h.1, kb h.2⟩⟩
  · exact ⟨p, .inr ⟨g, cap, cur, fr, h0, h1, h2, kb h3, kb h4, h5⟩⟩
end Go.Wire
namespace Go.Proofs.Ytdcgemaaohldmaa
open Go.RowKit Go.Wire
set_option maxHeartbeats 2000000 in
set_option maxRecDepth 100000 in
theorem bstring_told (B b g cap : Nat) (fr : Nat × Nat) (p : Value) (cur : Array Value) (l : List UInt8) (w : World) (h0 : l ≠ []) (hbg : B ≤ g) (hgb : g ≠ b) (hbk : w.heap[b]? = some (.cells #[p, .slice (some ⟨g, 0, none⟩) l.length cap] 99 (0, 0)))
    (hg : w.heap[g]? = some (.cells cur 5 fr)) (hnc : l.length ≤ cap) (hcm : cap ≤ maxLen) (hcs : cur.size = cap * 1) (htake : cur.toList.take (l.length * 1) = Lib.byteCells l) :
    Calls Try.prog 66 #[.pointer (some ⟨b, 0, none⟩)] w fun e w' => e = .returned (.string ⟨l.toArray⟩) ∧ w'.heap[b]? = some (.cells #[p, .slice (some ⟨g, 0, none⟩) l.length cap] 99 (0, 0)) ∧ (∃ fr', w'.heap[g]? = some (.cells cur 5 fr')) ∧ Wrote B (.pointer none) w w' := by
  have hl0 : l.length ≠ 0 := by simpa using h0
  have c1 : w.drew.cell? ⟨b, 1, none⟩ = some (.slice (some ⟨g, 0, none⟩) l.length cap) := by
    have : w.drew.heap[b]? = some (.cells #[p, .slice (some ⟨g, 0, none⟩) l.length cap] 99 (0, 0)) := hbk
    rw [Lib.cell_of_heap this]; rfl
  have hSD : (Builtin.unsafeSliceData_ #[42] 106 #[.slice (some ⟨g, 0, none⟩) l.length cap]).run Try.prog w.drew = .ok (.pointer (some ⟨g, 0, none⟩)) w.drew :=
    Lib.run_unsafeSliceData_row _ _ _ _ _ _ (by omega)
  have hUS : (Builtin.unsafeString_ #[106, 3] 9 #[.pointer (some ⟨g, 0, none⟩), .int .i64 l.length]).run Try.prog w.drew = .ok (.string ⟨l.toArray⟩) (w.drew.freeze ⟨g, 0, none⟩ l.length) := by
    refine Lib.run_unsafeString_row w.drew 106 3 9 5 underP5 cells5 g cur.size (by have hg' : w.drew.heap[g]? = some (.cells cur 5 fr) := hg; simp [World.shape?, hg']) l h0 (by omega) (by unfold maxLen at hcm; omega) ?_
    intro j x hx
    have hj : j < l.length := (List.getElem?_eq_some_iff.1 hx).1
    have hg' : w.drew.heap[g]? = some (.cells cur 5 fr) := hg
    rw [show (⟨g, 0, none⟩ : Addr).add j = ⟨g, j, none⟩ by unfold Addr.add; split <;> simp_all, Lib.cell_of_heap hg', ← Array.getElem?_toList]
    have h1 : (cur.toList.take (l.length * 1))[j]? = some (.int .u8 x.toNat) := by rw [htake]; simp [Lib.byteCells, hx]
    rwa [List.getElem?_take_of_lt (by omega)] at h1
  have HB : Hid ((w.drew.freeze ⟨g, 0, none⟩ l.length).heap[b]? = some (.cells #[p, .slice (some ⟨g, 0, none⟩) l.length cap] 99 (0, 0))) := (freeze_other _ ⟨g, 0, none⟩ _ b (fun e => hgb e.symm)).trans hbk
  have HG : Hid (∃ fr', (w.drew.freeze ⟨g, 0, none⟩ l.length).heap[g]? = some (.cells cur 5 fr')) := freeze_same (show w.drew.heap[g]? = _ from hg) _
  have HO : Hid (Wrote B (.pointer none) w (w.drew.freeze ⟨g, 0, none⟩ l.length)) := ⟨Lib.below_freeze (Below.drew (Below.refl B w)) (p := ⟨g, 0, none⟩) hbg _, fun k c T fr' _ hT hc => freeze_other _ ⟨g, 0, none⟩ _ k (fun e => hT (by
    have e : k = g := e
    rw [e, hg] at hc
    simp only [Option.some.injEq, Obj.cells.injEq] at hc
    exact hc.2.1.symm))⟩
  have mixed : Try.prog.follows Departure.mixedOrders = true := by kernel_rfl
  go_enter Try.func66, Try.ntmps66
  go_wp2
  go_region_o
  all_goals (go_wp2; go_ret; exact ⟨rfl, HB.out, HG.out, HO.out⟩)
set_option maxHeartbeats 400000 in
theorem all_told (B b : Nat) (l : List UInt8) (w : World) (hB : B ≤ w.heap.size) (h : Wt 99 B b l w) :
    Calls Try.prog 58 #[.pointer (some ⟨b, 0, none⟩)] w fun e w' => e = .returned (.string ⟨l.toArray⟩) ∧ Wt 99 B b l w' ∧ Wrote B (.pointer none) w w' := by
  have HS : Hid (Calls Try.prog 66 #[.pointer (some ⟨b, 0, none⟩)] w fun e w' => e = .returned (.string ⟨l.toArray⟩) ∧ Wt 99 B b l w' ∧ Wrote B (.pointer none) w w') := by
    obtain ⟨p, ⟨h0, hb⟩ | ⟨g, cap, cur, fr, h0, hbg, hgb, hb, hg, hnc, hcm, hcs, htake⟩⟩ := h
    · subst h0
      exact (bstring_nil b p w hb).mono fun e w' ⟨h1, h2, h3⟩ => ⟨h1, ⟨p, .inl ⟨rfl, by rw [h2]; exact hb⟩⟩, Wrote.of h3 hB⟩
    · exact (bstring_told B b g cap fr p cur l w h0 hbg hgb hb hg hnc hcm hcs htake).mono fun e w' ⟨h1, h2, ⟨fr', h4⟩, h3⟩ => ⟨h1, ⟨p, .inr ⟨g, cap, cur, fr', h0, hbg, hgb, h2, h4, hnc, hcm, hcs, htake⟩⟩, h3⟩
  go_enter Try.func58, Try.ntmps58
  go_wp2_with (go_at_call 66; refine HS.out.mono ?_; rintro e w1 ⟨rfl, h1, k1⟩)
  go_ret
  exact ⟨rfl, h1, k1⟩
end Go.Proofs.Ytdcgemaaohldmaa
