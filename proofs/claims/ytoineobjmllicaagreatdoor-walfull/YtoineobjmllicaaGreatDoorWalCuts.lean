/- Contract: a row of at most six texts of at most 200 bytes, laid anew. -/
import Derived.Test.YtoineobjmllicaaGreatDoorWalSame
namespace Go.Proofs.YtoineobjmllicaaGreatDoor
open Go.RowKit Go.Dk Go.Wal
set_option maxRecDepth 100000 in
set_option maxHeartbeats 1000000 in
theorem cut7s_any (v : Value) (ls : List Bs) (w : World) (h : Texts w v ls) (hs : ∀ l ∈ ls, l.length ≤ maxLen) (hn : ls.length ≤ maxLen) :
    Calls Tryz.prog 12 #[v] w fun e w' => ∃ g c, e = .returned (.slice (some ⟨g, 0, none⟩) (cut7 ls).length c) ∧ w'.ownsRow w.heap.size 9 1 (.slice (some ⟨g, 0, none⟩) (cut7 ls).length c) (cut7 ls).length (tv (cut7 ls)) ∧ Below w.heap.size w w' := by
  obtain ⟨i9, hi9, hz0, hz1, hz2⟩ := info_parts info_str
  obtain ⟨a, c, rfl, hc, hcells⟩ := h
  have HC := hide hcells
  have HS := hide hs
  unfold maxLen at hn
  clear hs hcells
  go_enter Tryz.func12, Tryz.ntmps12
  go_wp2_with fail
  go_loopw [3, 4] (fun vo vi wr => ∃ i rg rc : Nat, i ≤ ls.length ∧ i ≤ 6 ∧ vi = .int .i64 i ∧ vo = .slice (some ⟨rg, 0, none⟩) i rc ∧ Hid (wr.ownsRow w.heap.size 9 1 (.slice (some ⟨rg, 0, none⟩) i rc) i (tv ((ls.take i).map few7)) ∧ Below w.heap.size w wr)) (fun _ vi _ => 6 - (intOf vi).toNat)
  case atStart =>
    exact ⟨0, w.heap.size, 0, Nat.zero_le _, Nat.zero_le _, rfl, rfl, ⟨rfl, .inr ⟨w.heap.size, 0, #[], rfl, Nat.le_refl _, heap_alloc_new _ _, Nat.le_refl _, Nat.zero_le _, rfl, rfl⟩⟩, (Below.refl _ _).alloc (Nat.le_refl _) _⟩
  case round =>
    obtain ⟨i, rg, rc, hi, hi6, rfl, rfl, HH⟩ := hrel
    by_cases hlt : i < ls.length ∧ i < 6
    · obtain ⟨hl1, hl2⟩ := hlt
      obtain ⟨l, hl⟩ : ∃ l, ls[i]? = some l := ⟨_, List.getElem?_eq_getElem hl1⟩
      obtain ⟨b, off, rfl, hcell⟩ := HC.out i l hl
      have hll := HS.out l (List.mem_of_getElem? hl)
      have q0 : wr.cell? ⟨b, off + i, none⟩ = some (.string ⟨l.toArray⟩) := (HH.out.2.cell (p := ⟨b, off + i, none⟩) (cell_lt hcell)).trans hcell
      have HF : Hid (∀ w2, Calls Tryz.prog 29 #[.string ⟨l.toArray⟩] w2 fun e w' => e = .returned (.string ⟨(few7 l).toArray⟩) ∧ w' = w2) := fun w2 => few7_any l w2 hll
      have HE := hide (cut7_step hl hl2)
      clear hcell hl hll
      go_wp2_with (first
        | (go_at_call 29; refine (HF.out _).mono ?_; rintro e w2 ⟨rfl, rfl⟩)
        | (at_builtin; refine wpList_append_lies _ rfl _ _ 30 rfl w.heap.size 9 i9 (.string ⟨#[]⟩) 1 16 under_strs hi9 hz0 hz1 hz2 rfl (by decide) _ _ _ rfl (HH.out.1.alloc _) ⟨w2.heap.size, 0, none⟩ 1 1 [.string ⟨(few7 l).toArray⟩] rfl rfl ?a1 ?a2 (by decide) ?a3 ?a4 ?a5 (w2.heap.size + 1) (by simp) ?_))
      case a1 => exact cell_one_new _ _ _
      case a2 => intro u hu; simp at hu; subst hu; rfl
      case a3 => unfold maxLen; omega
      case a4 => omega
      case a5 => have h1 := HH.out.2.size; simp; omega
      intro g cap w3 hown hgrow _ _
      have H3 : Hid (w3.ownsRow w.heap.size 9 1 (.slice (some ⟨g, 0, none⟩) (i + 1) cap) (i + 1) (tv ((ls.take (i + 1)).map few7)) ∧ Below w.heap.size w w3) := by
        have hb2 := HH.out.2.alloc HH.out.2.size (.cells #[.string ⟨(few7 l).toArray⟩] 9)
        refine ⟨?_, hb2.grown hgrow hb2.size fun k e => ownsRow_ge HH.out.1 e⟩
        rw [HE.out]
        unfold tv at hown ⊢
        rw [← List.map_take] at hown
        rw [List.map_append]
        exact hown
      clear hown hgrow
      go_wp2_with fail
      exact ⟨⟨i + 1, g, cap, by omega, by omega, by first | rfl | go_num, rfl, H3.out.1, H3.out.2⟩, by simp [intOf]; omega⟩
    · have hE : (ls.take i).map few7 = cut7 ls := cut7_end (by omega) hi6
      have hlen : (cut7 ls).length = i := by rw [← hE, List.length_map, List.length_take]; omega
      have HD : Hid (wr.ownsRow w.heap.size 9 1 (.slice (some ⟨rg, 0, none⟩) (cut7 ls).length rc) (cut7 ls).length (tv (cut7 ls)) ∧ Below w.heap.size w wr) := by
        have := HH.out
        rw [hE] at this
        rw [hlen]
        exact this
      have HLN := hide hlen
      clear hE hlen
      by_cases h1 : i < ls.length
      · have h2 : i = 6 := by omega
        subst h2
        go_wp2_with fail
        go_ret
        refine ⟨rg, rc, ?_, HD.out.1, HD.out.2⟩
        rw [HLN.out]
        rfl
      · have h2 : i = ls.length := by omega
        subst h2
        go_wp2_with fail
        go_ret
        refine ⟨rg, rc, ?_, HD.out.1, HD.out.2⟩
        rw [HLN.out]
        rfl
end Go.Proofs.YtoineobjmllicaaGreatDoor
