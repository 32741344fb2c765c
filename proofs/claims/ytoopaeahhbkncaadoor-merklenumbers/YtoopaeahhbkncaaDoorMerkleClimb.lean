/- Contracts: how many steps it is up, and what one comes to. -/
import Derived.Test.YtoopaeahhbkncaaDoorMerkleFile
namespace Go.Proofs.YtoopaeahhbkncaaDoor
open Go.RowKit Go.Mk Go.Chunk
attribute [local go_sem] Oper.semAt_some
theorem way_any (n : Nat) : ∀ (i : Nat) (w : World) (_ : 1 ≤ n) (_ : n ≤ 256) (_ : i < n),
    Calls Tryd.prog 101 #[.int .i64 i, .int .i64 n] w fun e w' => e = .returned (.int .i64 (way i n)) ∧ w' = w := by
  induction n using Nat.strongRecOn with
  | _ n ih =>
    intro i w h1 h256 hi
    by_cases h2 : 2 ≤ n
    · have k1 := kc_pos n
      have k2 := kc_lt h2
      have k3 := kc_half h2
      have HF := hide (fun w => first_any n w h2 h256)
      by_cases hk : i < kc n
      · rw [way_left i n h2 hk]
        have HW := hide (fun w => ih (kc n) k2 i w k1 (by omega) hk)
        have hl := way_eight i (kc n) k1 (by omega)
        clear ih
        generalize way i (kc n) = q at *
        generalize kc n = k at *
        have j1 : ¬ ((n : Int) = 1) := by omega
        have j2 : (i : Int) < k := by omega
        have j3 : (q : Int) ≤ 8 := by omega
        go_enter Tryd.func101, Tryd.ntmps101
        go_wp2_with (first
          | (go_at_call 41; refine (HF.out _).mono ?_; rintro e w2 ⟨rfl, hw⟩; subst hw)
          | (go_at_call 101; refine (HW.out _).mono ?_; rintro e w2 ⟨rfl, hw⟩; subst hw))
        go_ret
        exact ⟨by go_num, rfl⟩
      · rw [way_right i n h2 hk]
        have HW := hide (fun w => ih (n - kc n) (by omega) (i - kc n) w (by omega) (by omega) (by omega))
        have hl := way_eight (i - kc n) (n - kc n) (by omega) (by omega)
        clear ih
        generalize way (i - kc n) (n - kc n) = q at *
        generalize kc n = k at *
        have j1 : ¬ ((n : Int) = 1) := by omega
        have j2 : ¬ ((i : Int) < k) := by omega
        have j3 : (q : Int) ≤ 8 := by omega
        rw [show ((i - k : Nat) : Int) = (i : Int) - k by omega, show ((n - k : Nat) : Int) = (n : Int) - k by omega] at HW
        go_enter Tryd.func101, Tryd.ntmps101
        go_wp2_with (first
          | (go_at_call 41; refine (HF.out _).mono ?_; rintro e w2 ⟨rfl, hw⟩; subst hw)
          | (go_at_call 101; refine (HW.out _).mono ?_; rintro e w2 ⟨rfl, hw⟩; subst hw))
        go_ret
        exact ⟨by go_num, rfl⟩
    · have e1 : n = 1 := by omega
      subst e1
      rw [way_one i 1 (by omega)]
      clear ih
      go_enter Tryd.func101, Tryd.ntmps101
      go_wp2_with fail
      go_ret
      exact ⟨rfl, rfl⟩
theorem climb_any (n : Nat) : ∀ (h : ByteArray) (i : Nat) (v : Value) (p : List ByteArray) (w : World) (_ : 1 ≤ n) (_ : n ≤ 256) (_ : i < n) (_ : h.size = 32) (_ : p.length = way i n) (_ : ∀ s ∈ p, s.size = 32) (_ : StrRow.Reads w v p) (_ : Steps w),
    Calls Tryd.prog 102 #[.string h, .int .i64 i, .int .i64 n, v] w fun e w' => e = .returned (.string (climb h i n p)) ∧ Below w.heap.size w w' := by
  induction n using Nat.strongRecOn with
  | _ n ih =>
    intro h i v p w h1 h256 hi hh hp hps hr hst
    by_cases h2 : 2 ≤ n
    · have k1 := kc_pos n
      have k2 := kc_lt h2
      have HF := hide (fun w => first_any n w h2 h256)
      have hp1 : 1 ≤ p.length := by
        rw [hp]
        by_cases hk : i < kc n
        · rw [way_left i n h2 hk]; omega
        · rw [way_right i n h2 hk]; omega
      have hp8 : p.length ≤ 8 := by rw [hp]; exact way_eight i n h1 h256
      obtain ⟨b, off, cap, rfl, hcap, hb⟩ := hr.at (by intro e; subst e; simp at hp1)
      obtain ⟨s, hs⟩ : ∃ s, p[p.length - 1]? = some s := ⟨_, List.getElem?_eq_getElem (by omega)⟩
      have hcell := hr.cell hs
      have hlast : p.getLast?.getD ⟨#[]⟩ = s := by rw [List.getLast?_eq_getElem?, hs]; rfl
      have hss : s.size = 32 := hps s (List.mem_of_getElem? hs)
      have hdl : p.dropLast = p.take (p.length - 1) := List.dropLast_eq_take
      have hrt := reads_take hr (p.length - 1) (by omega)
      rw [← hdl] at hrt
      have hdp : ∀ s ∈ p.dropLast, s.size = 32 := fun s hs => hps s (List.dropLast_subset _ hs)
      have hdle : p.dropLast.length = p.length - 1 := List.length_dropLast
      have pi : ((p.length - 1 : Nat) : Int) = (p.length : Int) - 1 := by omega
      by_cases hk : i < kc n
      · rw [climb_left h i n p h2 hk, hlast]
        have HC := hide (fun (w' : World) (hw : Below w.heap.size w w') => ih (kc n) k2 h i (.slice (some ⟨b, off, none⟩) (p.length - 1) cap) p.dropLast w' k1 (by omega) hk hh (by rw [hdle, hp, way_left i n h2 hk]; omega) hdp (hrt.below hw (Nat.le_refl _)) (hst.kept hw))
        have hcs := climb_size h i (kc n) p.dropLast hh
        have HJ := hide (fun (w' : World) (hw : Below w.heap.size w w') => join_any (climb h i (kc n) p.dropLast) s w' (by omega) (by omega) (hst.kept hw))
        clear ih hr hst hrt hps hdp
        generalize climb h i (kc n) p.dropLast = C at *
        generalize kc n = k at *
        clear hs hlast hdl hdle hp
        generalize p.length = m at *
        obtain ⟨q, rfl⟩ : ∃ q, m = q + 1 := ⟨m - 1, by omega⟩
        rw [Nat.add_sub_cancel] at hcell HC
        clear pi hp1
        have j1 : ¬ ((n : Int) = 1) := by omega
        have j2 : (i : Int) < k := by omega
        have j4 : (q : Int) + 1 ≤ cap := by omega
        have r1 := cell_regrown hcell
        have j6 : (0 : Int) ≤ q := by omega
        have j7 : (q : Int) ≤ cap := by omega
        have j8 : (q : Int) ≤ 8 := by omega
        go_enter Tryd.func102, Tryd.ntmps102
        go_wp2_with fail
        refine QuietCalls.region (by kernel_rfl) (by kernel_rfl) ?_
        first | go_big_quiet_step (fail) | quiet_step (fail)
        refine QuietCalls.call1 rfl rfl Tryd.call41 (fun w _ => (HF.out w).mono fun e w' h => ⟨h.1, h.2 ▸ Below.refl _ _⟩) rfl ?_; simp only [Act.put, List.setIfInBounds_toArray, List.set_cons_succ, List.set_cons_zero]
        iterate 14 first | go_big_quiet_step (fail) | quiet_step (fail)
        refine wpQuiet_nil ?_
        intro w2 hb2
        have HB2 := hide hb2
        clear hb2 r1
        go_wp2_with (first
          | (go_at_call 102; refine (HC.out _ HB2.out).mono ?_; rintro e w3 ⟨rfl, hb3⟩; have HB3 := hide (HB2.out.trans (hb3.mono HB2.out.size)); clear hb3)
          | (go_at_call 42; refine (HJ.out _ HB3.out).mono ?_; rintro e w4 ⟨rfl, hb4⟩))
        go_ret
        exact ⟨rfl, HB3.out.trans (hb4.mono HB3.out.size)⟩
      · rw [climb_right h i n p h2 hk, hlast]
        have HC := hide (fun (w' : World) (hw : Below w.heap.size w w') => ih (n - kc n) (by omega) h (i - kc n) (.slice (some ⟨b, off, none⟩) (p.length - 1) cap) p.dropLast w' (by omega) (by omega) (by omega) hh (by rw [hdle, hp, way_right i n h2 hk]; omega) hdp (hrt.below hw (Nat.le_refl _)) (hst.kept hw))
        have hcs := climb_size h (i - kc n) (n - kc n) p.dropLast hh
        have HJ := hide (fun (w' : World) (hw : Below w.heap.size w w') => join_any s (climb h (i - kc n) (n - kc n) p.dropLast) w' (by omega) (by omega) (hst.kept hw))
        clear ih hr hst hrt hps hdp
        generalize climb h (i - kc n) (n - kc n) p.dropLast = C at *
        generalize kc n = k at *
        clear hs hlast hdl hdle hp
        generalize p.length = m at *
        obtain ⟨q, rfl⟩ : ∃ q, m = q + 1 := ⟨m - 1, by omega⟩
        rw [Nat.add_sub_cancel] at hcell HC
        clear pi hp1
        have j1 : ¬ ((n : Int) = 1) := by omega
        have j2 : ¬ ((i : Int) < k) := by omega
        rw [show ((i - k : Nat) : Int) = (i : Int) - k by omega, show ((n - k : Nat) : Int) = (n : Int) - k by omega] at HC
        have j9 : (n : Int) ≤ 256 := by omega
        have j4 : (q : Int) + 1 ≤ cap := by omega
        have r1 := cell_regrown hcell
        have j6 : (0 : Int) ≤ q := by omega
        have j7 : (q : Int) ≤ cap := by omega
        have j8 : (q : Int) ≤ 8 := by omega
        go_enter Tryd.func102, Tryd.ntmps102
        go_wp2_with fail
        refine QuietCalls.region (by kernel_rfl) (by kernel_rfl) ?_
        first | go_big_quiet_step (fail) | quiet_step (fail)
        refine QuietCalls.call1 rfl rfl Tryd.call41 (fun w _ => (HF.out w).mono fun e w' h => ⟨h.1, h.2 ▸ Below.refl _ _⟩) rfl ?_; simp only [Act.put, List.setIfInBounds_toArray, List.set_cons_succ, List.set_cons_zero]
        iterate 14 first | go_big_quiet_step (fail) | quiet_step (fail)
        refine wpQuiet_nil ?_
        intro w2 hb2
        have HB2 := hide hb2
        clear hb2 r1
        go_wp2_with (first
          | (go_at_call 102; refine (HC.out _ HB2.out).mono ?_; rintro e w3 ⟨rfl, hb3⟩; have HB3 := hide (HB2.out.trans (hb3.mono HB2.out.size)); clear hb3)
          | (go_at_call 42; refine (HJ.out _ HB3.out).mono ?_; rintro e w4 ⟨rfl, hb4⟩))
        go_ret
        exact ⟨rfl, HB3.out.trans (hb4.mono HB3.out.size)⟩
    · have e1 : n = 1 := by omega
      subst e1
      rw [climb_one h i 1 p (by omega)]
      clear ih hr hst
      go_enter Tryd.func102, Tryd.ntmps102
      go_wp2_with fail
      go_ret
      exact ⟨rfl, Below.refl _ _⟩
end Go.Proofs.YtoopaeahhbkncaaDoor
