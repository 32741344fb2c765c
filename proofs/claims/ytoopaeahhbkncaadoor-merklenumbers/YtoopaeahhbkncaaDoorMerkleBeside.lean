/- Contract: the digests beside the way up. -/
import Derived.Test.YtoopaeahhbkncaaDoorMerkleOfMem
import Derived.Test.YtoopaeahhbkncaaDoorRows2
import Derived.Deep.RegionLaw
namespace Go.Proofs.YtoopaeahhbkncaaDoor
open Go.RowKit Go.Shelf Go.Wire Go.Mk Go.Chunk
attribute [local go_sem] Oper.semAt_some
set_option maxHeartbeats 2000000 in
set_option maxRecDepth 100000 in
theorem beside_any (xs : List ByteArray) : ∀ (i : Nat) (v : Value) (w : World) (_ : StrRow.Reads w v xs) (_ : xs.length ≤ 256) (_ : i < xs.length ∨ xs.length < 2) (_ : ∀ s ∈ xs, s.size = 32) (_ : Steps w),
    Calls Tryd.prog 68 #[v, .int .i64 i] w fun e w' => ∃ p, e = .returned p ∧ w'.ownsRow w.heap.size 9 1 p (path xs i).length ((path xs i).map Value.string) ∧ Below w.heap.size w w' := by
  generalize hn : xs.length = n
  induction n using Nat.strongRecOn generalizing xs with
  | _ n ih =>
    subst hn
    intro i v w hr h256 hi hx hst
    obtain ⟨i9, hi9, hz0, hz1, hz2⟩ := info_parts ciInfo9
    by_cases h2 : 2 ≤ xs.length
    · have hil : i < xs.length := by omega
      obtain ⟨b, off, cap, rfl, hcap, hb⟩ := hr.at (by intro e; subst e; simp at h2)
      have k1 := kc_pos xs.length
      have k2 := kc_lt h2
      have HF := hide (fun (w : World) => first_any xs.length w h2 h256)
      have lt : (xs.take (kc xs.length)).length = kc xs.length := by rw [List.length_take]; omega
      have ld : (xs.drop (kc xs.length)).length = xs.length - kc xs.length := by rw [List.length_drop]
      have rt := reads_take hr (kc xs.length) (by omega)
      have rd := reads_drop hr (kc xs.length) (by omega)
      by_cases hk : i < kc xs.length
      · rw [path_left xs i h2 hk]
        have HB := hide (fun (w' : World) (h : Below w.heap.size w w') => ih _ (by rw [lt]; exact k2) (xs.take (kc xs.length)) rfl i _ w' (rt.below h (Nat.le_refl _)) (by omega) (.inl (by omega)) (fun s hs => hx s (List.mem_of_mem_take hs)) (hst.kept h))
        have HR := hide (fun (w' : World) (h : Below w.heap.size w w') => root_any (xs.drop (kc xs.length)) _ w' (rd.below h (Nat.le_refl _)) (by omega) (fun s hs => hx s (List.mem_of_mem_drop hs)) (hst.kept h))
        have hpl : (path (xs.take (kc xs.length)) i).length ≤ 8 := by rw [path_length, lt]; exact way_eight _ _ k1 (by omega)
        clear ih hr hst hx rt rd lt ld
        generalize path (xs.take (kc xs.length)) i = p at *
        generalize root (xs.drop (kc xs.length)) = R at *
        generalize kc xs.length = k at *
        generalize xs.length = n at *
        have k3 : (k : Int) < n := by omega
        have k4 : (k : Int) ≤ cap := by omega
        have k5 : (n : Int) ≤ cap := by omega
        have n0 : ¬ ((n : Int) < 2) := by omega
        have i0 : (i : Int) < k := by omega
        have k6 : (k : Int) ≤ n := by omega
        have k7 : (0 : Int) ≤ k := by omega
        have k8 : k ≤ n := by omega
        have k9 : ¬ cap = k := by omega
        go_enter Tryd.func68, Tryd.ntmps68
        go_wp2_with (go_at_call 41; refine (HF.out _).mono ?_; rintro e w' ⟨rfl, hw⟩; subst hw)
        go_region_law
          (first
            | (refine TwoRows.step_append1 (base := w'.heap.size) (e := 9) rfl (.tmp 19) (.tmp 24) 24 rfl i9 (.string ⟨#[]⟩) 16 ciUnder24 hi9 hz0 hz1 hz2 rfl p.length rfl (HO3.out.1.alloc _) w3.heap.size 1 (.string R) rfl (TwoRows.cell_new w3 _ _) rfl (by omega) (by unfold maxLen; omega) (by have := HO3.out.2.size; simp; omega) ?_
               intro v' w4 hown4 hg4
               have H4 := hide (And.intro hown4 ((HO3.out.2.alloc HO3.out.2.size _).grown hg4 (HO3.out.2.alloc HO3.out.2.size _).size fun j ej => own_base HO3.out.1 ej))
               clear hown4 hg4)
            | (go_simp
               go_at_call 68
               refine (HB.out (World.drew w') ⟨rfl, rfl, rfl, Nat.le_refl _, fun _ _ => rfl⟩).mono ?_
               rintro e w2 ⟨pv, rfl, hown, hb2⟩
               obtain ⟨va, vc, rfl⟩ := own_slice hown
               have HO := hide (And.intro (show w2.ownsRow w'.heap.size 9 1 _ _ _ from hown) ((show Below w'.heap.size w' (World.drew w') from ⟨rfl, rfl, rfl, Nat.le_refl _, fun _ _ => rfl⟩).trans hb2))
               clear hown hb2)
            | (go_simp
               go_at_call 13
               refine (HR.out _ HO.out.2).mono ?_
               rintro e w3 ⟨rfl, hb3⟩
               have HO3 := hide (And.intro (own_below HO.out.1 hb3) (HO.out.2.trans (hb3.mono HO.out.2.size)))
               clear hb3)
            | fail)
        go_wp2_with fail
        go_ret
        refine ⟨_, rfl, ?_, H4.out.2⟩
        rw [List.length_append, List.map_append]
        exact H4.out.1
      · rw [path_right xs i h2 hk]
        have HB := hide (fun (w' : World) (h : Below w.heap.size w w') => ih _ (by rw [ld]; omega) (xs.drop (kc xs.length)) rfl (i - kc xs.length) _ w' (rd.below h (Nat.le_refl _)) (by omega) (.inl (by omega)) (fun s hs => hx s (List.mem_of_mem_drop hs)) (hst.kept h))
        have HR := hide (fun (w' : World) (h : Below w.heap.size w w') => root_any (xs.take (kc xs.length)) _ w' (rt.below h (Nat.le_refl _)) (by omega) (fun s hs => hx s (List.mem_of_mem_take hs)) (hst.kept h))
        have hpl : (path (xs.drop (kc xs.length)) (i - kc xs.length)).length ≤ 8 := by rw [path_length, ld]; exact way_eight _ _ (by omega) (by omega)
        clear ih hr hst hx rt rd lt ld
        generalize path (xs.drop (kc xs.length)) (i - kc xs.length) = p at *
        generalize root (xs.take (kc xs.length)) = R at *
        generalize kc xs.length = k at *
        generalize xs.length = n at *
        have k3 : (k : Int) < n := by omega
        have k4 : (k : Int) ≤ cap := by omega
        have k5 : (n : Int) ≤ cap := by omega
        have n0 : ¬ ((n : Int) < 2) := by omega
        have i0 : ¬ ((i : Int) < k) := by omega
        rw [show ((i - k : Nat) : Int) = (i : Int) - k by omega] at HB
        have i1 : (i : Int) < n := by omega
        have i2 : (n : Int) ≤ 256 := by omega
        have i3 : IntKind.i64.wrap ((i : Int) - k) = (i : Int) - k := Sha.wrap_i64 _ (by omega) (by omega)
        have k6 : (k : Int) ≤ n := by omega
        have k7 : (0 : Int) ≤ k := by omega
        have k8 : k ≤ n := by omega
        have k9 : ¬ cap = k := by omega
        go_enter Tryd.func68, Tryd.ntmps68
        go_wp2_with (go_at_call 41; refine (HF.out _).mono ?_; rintro e w' ⟨rfl, hw⟩; subst hw)
        go_region_law
          (first
            | (refine TwoRows.step_append1 (base := w'.heap.size) (e := 9) rfl (.tmp 32) (.tmp 37) 24 rfl i9 (.string ⟨#[]⟩) 16 ciUnder24 hi9 hz0 hz1 hz2 rfl p.length rfl (HO3.out.1.alloc _) w3.heap.size 1 (.string R) rfl (TwoRows.cell_new w3 _ _) rfl (by omega) (by unfold maxLen; omega) (by have := HO3.out.2.size; simp; omega) ?_
               intro v' w4 hown4 hg4
               have H4 := hide (And.intro hown4 ((HO3.out.2.alloc HO3.out.2.size _).grown hg4 (HO3.out.2.alloc HO3.out.2.size _).size fun j ej => own_base HO3.out.1 ej))
               clear hown4 hg4)
            | (go_simp
               go_at_call 68
               refine (HB.out (World.drew w') ⟨rfl, rfl, rfl, Nat.le_refl _, fun _ _ => rfl⟩).mono ?_
               rintro e w2 ⟨pv, rfl, hown, hb2⟩
               obtain ⟨va, vc, rfl⟩ := own_slice hown
               have HO := hide (And.intro (show w2.ownsRow w'.heap.size 9 1 _ _ _ from hown) ((show Below w'.heap.size w' (World.drew w') from ⟨rfl, rfl, rfl, Nat.le_refl _, fun _ _ => rfl⟩).trans hb2))
               clear hown hb2)
            | (go_simp
               go_at_call 13
               refine (HR.out _ HO.out.2).mono ?_
               rintro e w3 ⟨rfl, hb3⟩
               have HO3 := hide (And.intro (own_below HO.out.1 hb3) (HO.out.2.trans (hb3.mono HO.out.2.size)))
               clear hb3)
            | fail)
        go_wp2_with fail
        go_ret
        refine ⟨_, rfl, ?_, H4.out.2⟩
        rw [List.length_append, List.map_append]
        exact H4.out.1
    · rw [path_few xs i (by omega)]
      obtain ⟨a, c, rfl⟩ := hr.form
      have n0 : ((xs.length : Int) < 2) := by omega
      clear ih hr hst hx
      generalize xs.length = n at *
      go_enter Tryd.func68, Tryd.ntmps68
      go_wp2_with fail
      go_ret
      exact ⟨_, rfl, World.ownsRow_nil _ _ _ _, Below.refl _ _⟩
end Go.Proofs.YtoopaeahhbkncaaDoor
