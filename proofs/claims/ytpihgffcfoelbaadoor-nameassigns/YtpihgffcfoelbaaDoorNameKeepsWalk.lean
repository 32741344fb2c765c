/- The walk of the statement on names that are kept. -/
import Derived.Test.YtpihgffcfoelbaaDoorNameFew
namespace Go.Proofs.YtpihgffcfoelbaaDoor
open Go.RowKit Go.Names
theorem reads_of_strV {W w : World} {a : Option Addr} {n c : Nat} {names : List Bs} (h : w.ownsRow W.heap.size 9 1 (.slice a n c) n (strV names)) : StrRow.Reads w (.slice a n c) (names.map fun x => (⟨x.toArray⟩ : ByteArray)) := by
  refine StrRow.Reads.of_own (base := W.heap.size) (e := 9) (n := n) ?_
  rw [List.map_map]
  exact h
set_option maxRecDepth 100000 in
set_option maxHeartbeats 2000000 in
theorem nameKeeps_any (v : Value) (xs : List ByteArray) (more : ByteArray) (w : World) (hr : StrRow.Reads w v xs) (hxl : xs.length ≤ maxLen) (hv : Vt w) :
    Calls Tryd.prog 5 #[v, .string more] w fun e w' => e = .returned (.bool true) ∧ Below w.heap.size w w' := by
  obtain ⟨va, vc, rfl⟩ := hr.form
  have hxl' : (xs.length : Int) ≤ 9223372036854775807 := by unfold maxLen at hxl; omega
  have HR := hide hr
  have HV := hide hv
  have hts := few_size more
  have HFew := hide (few_any more)
  generalize few more = t at hts HFew
  clear hv hr hxl
  obtain ⟨n, hn⟩ : ∃ n, n = min xs.length 30 := ⟨_, rfl⟩
  have hn1 : n ≤ xs.length := by omega
  have hn2 : n ≤ 30 := by omega
  go_enter Tryd.func5, Tryd.ntmps5
  go_wp2
  go_loopw [5, 6] (fun vg vi wr => ∃ (i g : Nat) (gc : Nat), i ≤ n ∧ vg = .slice (some ⟨g, 0, none⟩) i gc ∧ vi = .int .i64 i ∧ Hid (Gr w (.slice (some ⟨g, 0, none⟩) i gc) (giv (xs.take i)) wr)) (fun _ vi _ => 1000 - (intOf vi).toNat)
  case atStart => exact ⟨0, _, _, Nat.zero_le _, rfl, rfl, Gr.made w⟩
  case round =>
    obtain ⟨i, g, gc, hi, rfl, rfl, HH⟩ := hrel
    have hsl : Hid ((giv (xs.take i)).length = i) := by show _ = _; rw [giv_length, List.length_take_of_le (by omega)]
    by_cases hlt : i < n
    · have hlt' : (i : Int) < xs.length := by omega
      have hlt2 : (i : Int) < 30 := by omega
      obtain ⟨x, hx⟩ : ∃ x, xs[i]? = some x := ⟨_, List.getElem?_eq_getElem (by omega)⟩
      have hnext := hide (giv_take hx)
      have HF := hide (few_any x)
      have hR2 := HR.out.below HH.out.below (Nat.le_refl _)
      obtain ⟨b, off, cp, hvv, hcp, hb⟩ := hR2.at (fun e => by rw [e] at hx; cases hx)
      cases hvv
      have hcell := hR2.cell hx
      have hcp' : (xs.length : Int) ≤ vc := by omega
      clear hR2 hb hx
      generalize few x = y at hnext HF
      go_wp2_with (first
        | (go_at_call 7; refine (HF.out _).mono ?_; rintro e w1 ⟨rfl, rfl⟩)
        | (at_builtin; refine HH.out.append (((16 + i : Nat) : Int), y) (by rw [hsl.out]; omega) rfl _ _ rfl rfl rfl ?_
           intro a1 c1 w3 h3
           rw [← hnext.out, hsl.out] at h3
           rw [hsl.out]
           obtain ⟨g1, rfl⟩ := own2_some (own2_is h3.own (by rw [giv_length, List.length_take_of_le (by omega)])) (Nat.succ_pos i)
           have H3 := hide h3
           clear h3))
      go_roundw
      case rel => exact ⟨i + 1, g1, c1, by omega, rfl, by go_num, H3.out⟩
      case measure => simp [intOf]; omega
    · have hin : i = n := by omega
      subst hin
      have hcase : ((i : Int) < xs.length ∧ ¬ (i : Int) < 30) ∨ ¬ (i : Int) < xs.length := by omega
      have hvr := HV.out.below HV.out.size HH.out.below
      have HA := hide (assignAll_any _ _ _ hvr HH.out.gvs (by rw [hsl.out]; omega) (fun g hg => by have := giv_size _ g hg; omega))
      rw [hsl.out] at HA
      have hgz := hide (giv_size (xs.take i))
      have hLn : Hid ((asg (namesOf (giv (xs.take i)))).length = i) := by
        show _ = _
        rw [asg_length]
        exact (List.length_map _).trans hsl.out
      have hLg := hide (asg_legal (namesOf (giv (xs.take i))) (by rw [← asg_length, hLn.out]; omega))
      have hNx := hide (asg_snoc (namesOf (giv (xs.take i))) t.data.toList)
      generalize giv (xs.take i) = gs at HH hsl HA hgz hLn hLg hNx
      have HA2 : Hid (∀ (W2 : World) (a : Option Addr) (c : Nat), Vt W2 → Gvs W2 (.slice a (i + 1) c) (gs ++ [((99 : Int), t)]) → Calls Tryd.prog 19 #[.slice a (i + 1) c] W2 fun e w' => ∃ a' c', e = .returned (.slice a' (i + 1) c') ∧ w'.ownsRow W2.heap.size 9 1 (.slice a' (i + 1) c') (i + 1) (strV (asg (namesOf gs) ++ [pick ((asg (namesOf gs)).map fold) (fix t.data.toList)])) ∧ Below W2.heap.size W2 w') := by
        intro W2 a c h1 h2
        have hl : (gs ++ [((99 : Int), t)]).length = i + 1 := by rw [List.length_append, hsl.out]; rfl
        have := assignAll_any _ _ W2 h1 h2 (by rw [hl]; omega) (fun g hg => by
          rcases List.mem_append.1 hg with hg | hg
          · have := hgz.out g hg; omega
          · rw [List.mem_singleton.1 hg]; show t.size ≤ _; omega)
        rw [hl, namesOf_append, show namesOf [((99 : Int), t)] = [t.data.toList] from rfl, hNx.out] at this
        exact this
      generalize asg (namesOf gs) = names at HA HA2 hLn hLg hNx
      obtain ⟨P, hP⟩ : ∃ P, P = pick (names.map fold) (fix t.data.toList) := ⟨_, rfl⟩
      rw [← hP] at HA2
      have hFP : Hid (freeB t.data.toList names = true → P = t.data.toList) := fun h => by rw [hP]; exact free_pick h
      have HL := hide (fun w1 => rlegal_any t w1 (by omega))
      have HM := hide True.intro
      replace hvr := hide hvr
      clear hP hNx hgz HR hn hn1
      obtain ⟨hc1, hc2⟩ | hc1 := hcase
      all_goals
        go_wp2_with (first
          | (go_at_call 19; refine HA.out.mono ?_; rintro e w2 ⟨la, lc, rfl, hown, k2⟩
             have H2 := hide (And.intro hown (And.intro k2 (HH.out.step k2)))
             clear hown k2 HA)
          | (at_builtin; clear HM; refine (Gr.made w2).appendAll (W2 := w) (H2.out.2.2.own_as hsl.out) hsl.out.symm (by rw [hsl.out]; simp; omega) rfl _ _ rfl rfl rfl ?_
             intro a1 c1 w4 h4
             rw [show ([] : List (Int × ByteArray)).length + gs.length = i by rw [hsl.out]; simp] at h4 ⊢
             rw [List.nil_append] at h4
             have H4 := hide h4
             clear h4)
          | (go_at_call 7; refine (HFew.out _).mono ?_; rintro e w1 ⟨rfl, h1⟩; replace h1 := h1.symm; subst h1)
          | (at_builtin; refine H4.out.append ((99 : Int), t) (by rw [hsl.out]; omega) rfl _ _ rfl rfl rfl ?_
             intro a2 c2 w5 h5
             rw [hsl.out] at h5 ⊢
             have H5 := hide h5
             clear h5 H4)
          | (go_at_call 19; refine (HA2.out _ _ _ ((hvr.out.below hvr.out.size H2.out.2.1).below (Nat.le_trans hvr.out.size H2.out.2.1.size) H5.out.below) H5.out.gvs).mono ?_; rintro e w6 ⟨ma, mc, rfl, hown, k6⟩
             have H6 := hide (And.intro hown (H5.out.below.trans (k6.mono H5.out.below.size)))
             clear hown k6 HA2 H5)
          | (go_at_call 10; refine (awake_any w6 ((hvr.out.below hvr.out.size H2.out.2.1).below (Nat.le_trans hvr.out.size H2.out.2.1.size) H6.out.2)).mono ?_; rintro e w7 ⟨rfl, k7⟩
             have H7 := hide (And.intro ((reads_of_strV H2.out.1).below (H6.out.2.trans (k7.mono H6.out.2.size)) (Nat.le_refl _)) (And.intro ((reads_of_strV H6.out.1).below k7 (Nat.le_refl _)) (H2.out.2.2.below.trans ((H6.out.2.trans (k7.mono H6.out.2.size)).mono H2.out.2.2.below.size))))
             clear k7 H2 H6)
          | (go_at_call 12; refine (HL.out _).mono ?_; rintro e w1 ⟨rfl, h1⟩; replace h1 := h1.symm; subst h1))
        clear hvr HV HH
        go_loopw [9, 10] (fun vf vi wr => ∃ (f : Bool) (j : Nat), j ≤ i ∧ vf = .bool f ∧ vi = .int .i64 j ∧ Hid (f = freeB t.data.toList (names.take j) ∧ Below w7.heap.size w7 wr)) (fun _ vi _ => 1000 - (intOf vi).toNat)
        case atStart => exact ⟨_, 0, Nat.zero_le _, rfl, rfl, by rw [List.take_zero, freeB_nil], Below.refl _ _⟩
        case round =>
          obtain ⟨f, j, hj, rfl, rfl, HQ⟩ := hrel
          have hR1 := H7.out.1.below HQ.out.2 (Nat.le_refl _)
          have hR2 := H7.out.2.1.below HQ.out.2 (Nat.le_refl _)
          by_cases hlj : j < i
          · have hlj' : (j : Int) < i := by omega
            have hlj2 : (j : Int) < i + 1 := by omega
            obtain ⟨x, hx⟩ : ∃ x, names[j]? = some x := ⟨_, List.getElem?_eq_getElem (by rw [hLn.out]; exact hlj)⟩
            have hxL := hLg.out x (List.mem_of_getElem? hx)
            obtain ⟨X, hX⟩ : ∃ X : ByteArray, X = ⟨x.toArray⟩ := ⟨_, rfl⟩
            have hXs : X.size ≤ 32 := by
              rw [hX, ba_size]
              simp only [legal, Bool.and_eq_true, decide_eq_true_eq] at hxL
              omega
            have hXd : X.data.toList = x := by rw [hX]
            have hx1 : (names.map fun x => (⟨x.toArray⟩ : ByteArray))[j]? = some X := by rw [List.getElem?_map, hx, hX]; rfl
            have hx2 : ((names ++ [P]).map fun x => (⟨x.toArray⟩ : ByteArray))[j]? = some X := by rw [List.getElem?_map, List.getElem?_append_left (by rw [hLn.out]; exact hlj), hx, hX]; rfl
            obtain ⟨b, off, cp, hvv, hcp, hb⟩ := hR1.at (fun e => by rw [e] at hx1; cases hx1)
            rw [List.length_map, hLn.out] at hvv hcp
            cases hvv
            obtain ⟨b2, off2, cp2, hvv2, hcp2, hb2⟩ := hR2.at (fun e => by rw [e] at hx2; cases hx2)
            rw [List.length_map, List.length_append, hLn.out] at hvv2 hcp2
            cases hvv2
            have hcell := hR1.cell hx1
            have hcell2 := hR2.cell hx2
            have hcp' : (i : Int) ≤ lc := by omega
            have hcp2' : (i : Int) + 1 ≤ mc := by simp at hcp2; omega
            have hnext := hide (freeB_succ (T := t.data.toList) hx)
            have HFo := hide (fun w1 => rfold_any X w1 (by omega))
            have HFt := hide (fun w1 => rfold_any t w1 (by omega))
            obtain ⟨Y, hY⟩ : ∃ Y : ByteArray, Y = ⟨(fold X.data.toList).toArray⟩ := ⟨_, rfl⟩
            obtain ⟨Z, hZ⟩ : ∃ Z : ByteArray, Z = ⟨(fold t.data.toList).toArray⟩ := ⟨_, rfl⟩
            rw [← hY] at HFo
            rw [← hZ] at HFt
            have hcr := cell_regrown hcell
            have hcr2 := cell_regrown hcell2
            have hYZ : Hid (Y = Z ↔ fold x = fold t.data.toList) := ⟨fun e => ba_eq (by rw [← hXd, ← hY, ← hZ]; exact e), fun e => by rw [hY, hZ, hXd, e]⟩
            clear hY hZ hX hXd hx1 hx2 hR1 hR2 hxL hx
            go_upto_region 14 with (fail)
            refine QuietCalls.region (by kernel_rfl) (by kernel_rfl) ?_
            first | go_big_quiet_step (fail) | quiet_step (fail)
            first | go_big_quiet_step (fail) | quiet_step (fail)
            first | go_big_quiet_step (fail) | quiet_step (fail)
            first | go_big_quiet_step (fail) | quiet_step (fail)
            first | go_big_quiet_step (fail) | quiet_step (fail)
            first | go_big_quiet_step (fail) | quiet_step (fail)
            first | go_big_quiet_step (fail) | quiet_step (fail)
            first | go_big_quiet_step (fail) | quiet_step (fail)
            first | go_big_quiet_step (fail) | quiet_step (fail)
            refine wpQuiet_nil ?_
            intro w8 k8
            have hcell8 : w8.cell? ⟨b, off + j, none⟩ = some (.string X) := (k8.cell (p := ⟨b, off + j, none⟩) (by show b < _; exact hb)).trans hcell
            have HQ8 := hide (HQ.out.2.trans (k8.mono HQ.out.2.size))
            have HQf := hide HQ.out.1
            clear hcr hcr2 hcell hcell2 k8 HQ hb hb2
            cases f with
            | false =>
              go_wp2
              go_roundw
              case rel => exact ⟨false, j + 1, by omega, rfl, by go_num, by rw [hnext.out, ← HQf.out]; rfl, HQ8.out⟩
              case measure => simp [intOf]; omega
            | true =>
              by_cases hyz : Y = Z
              · have hd := hide (hYZ.out.1 hyz)
                subst hyz
                go_wp2_with (first
                  | (go_at_call 14; refine (HFo.out _).mono ?_; rintro e w9 ⟨rfl, k9⟩
                     have H9 := hide (HQ8.out.trans (k9.mono HQ8.out.size))
                     clear k9 HFo HQ8)
                  | (go_at_call 7; refine (HFew.out _).mono ?_; rintro e w1 ⟨rfl, rfl⟩)
                  | (go_at_call 14; refine (HFt.out _).mono ?_; rintro e w10 ⟨rfl, k10⟩
                     have H10 := hide (H9.out.trans (k10.mono H9.out.size))
                     clear k10 H9 HFt))
                go_roundw
                case rel => exact ⟨_, j + 1, by omega, rfl, by go_num, by rw [hnext.out, ← HQf.out]; simp [hd.out], H10.out⟩
                case measure => simp [intOf]; omega
              · have hd : Hid (fold x ≠ fold t.data.toList) := fun e => hyz (hYZ.out.2 e)
                have hyz1 : (Y.toList == Z.toList) = false := by
                  rw [beq_eq_false_iff_ne]
                  intro e
                  rw [ByteArray.toList_eq, ByteArray.toList_eq] at e
                  exact hyz (ByteArray.ext (Array.toList_inj.1 e))
                go_wp2_with (first
                  | (go_at_call 14; refine (HFo.out _).mono ?_; rintro e w9 ⟨rfl, k9⟩
                     have H9 := hide (HQ8.out.trans (k9.mono HQ8.out.size))
                     clear k9 HFo HQ8)
                  | (go_at_call 7; refine (HFew.out _).mono ?_; rintro e w1 ⟨rfl, rfl⟩)
                  | (go_at_call 14; refine (HFt.out _).mono ?_; rintro e w10 ⟨rfl, k10⟩
                     have H10 := hide (H9.out.trans (k10.mono H9.out.size))
                     clear k10 H9 HFt))
                go_roundw
                case rel => exact ⟨true, j + 1, by omega, rfl, by go_num, by rw [hnext.out, ← HQf.out, decide_eq_true hd.out]; rfl, H10.out⟩
                case measure => simp [intOf]; omega
          · have hlj' : ¬ (j : Int) < i := by omega
            have hji : j = i := by omega
            subst hji
            have hx2 : ((names ++ [P]).map fun x => (⟨x.toArray⟩ : ByteArray))[j]? = some ⟨P.toArray⟩ := by rw [List.getElem?_map, List.getElem?_append_right (by rw [hLn.out]; exact Nat.le_refl _), hLn.out, Nat.sub_self]; rfl
            obtain ⟨b2, off2, cp2, hvv2, hcp2, hb2⟩ := hR2.at (fun e => by rw [e] at hx2; cases hx2)
            rw [List.length_map, List.length_append, hLn.out] at hvv2 hcp2
            cases hvv2
            have hcell2 := hR2.cell hx2
            have hcp2' : (j : Int) + 1 ≤ mc := by simp at hcp2; omega
            have hcr2 := cell_regrown hcell2
            have HFew2 : Hid (∀ w1 : World, Calls Tryd.prog 7 #[.string more] w1 fun e w' => e = .returned (.string t) ∧ Below w1.heap.size w1 w') := fun w1 => (HFew.out w1).mono (fun e w' ⟨h1, h2⟩ => ⟨h1, by rw [h2]; exact Below.refl _ _⟩)
            have hlj2 : (j : Int) < j + 1 := by omega
            cases f with
            | false =>
              go_upto_region 17 with (fail)
              refine QuietCalls.region (by kernel_rfl) (by kernel_rfl) ?_
              first | go_big_quiet_step (fail) | quiet_step (fail)
              first | go_big_quiet_step (fail) | quiet_step (fail)
              first | go_big_quiet_step (fail) | quiet_step (fail)
              first | go_big_quiet_step (fail) | quiet_step (fail)
              first | go_big_quiet_step (fail) | quiet_step (fail)
              first | go_big_quiet_step (fail) | quiet_step (fail)
              first | go_big_quiet_step (fail) | quiet_step (fail)
              first | go_big_quiet_step (fail) | quiet_step (fail)
              first | go_big_quiet_step (fail) | quiet_step (fail)
              first | go_big_quiet_step (fail) | quiet_step (fail)
              first | go_big_quiet_step (fail) | quiet_step (fail)
              first | go_big_quiet_step (fail) | quiet_step (fail)
              first | go_big_quiet_step (fail) | quiet_step (fail)
              refine wpQuiet_nil ?_
              intro w8 k8
              go_wp2
              go_ret
              exact ⟨rfl, (H7.out.2.2.trans (HQ.out.2.mono H7.out.2.2.size)).trans (k8.mono (Nat.le_trans H7.out.2.2.size HQ.out.2.size))⟩
            | true =>
              have hPt : (⟨P.toArray⟩ : ByteArray) = t := by
                have := hFP.out (by rw [HQ.out.1, ← hLn.out, List.take_length])
                rw [this]
              rw [hPt] at hcell2 hcr2
              clear hPt hx2
              go_upto_region 17 with (fail)
              refine QuietCalls.region (by kernel_rfl) (by kernel_rfl) ?_
              first | go_big_quiet_step (fail) | quiet_step (fail)
              first | go_big_quiet_step (fail) | quiet_step (fail)
              first | go_big_quiet_step (fail) | quiet_step (fail)
              first | go_big_quiet_step (fail) | quiet_step (fail)
              first | go_big_quiet_step (fail) | quiet_step (fail)
              first | go_big_quiet_step (fail) | quiet_step (fail)
              first | go_big_quiet_step (fail) | quiet_step (fail)
              first | go_big_quiet_step (fail) | quiet_step (fail)
              first | go_big_quiet_step (fail) | quiet_step (fail)
              refine QuietCalls.call1 rfl rfl Tryd.call7 (fun w _ => HFew2.out w) rfl ?_; simp only [Act.put, List.setIfInBounds_toArray, List.set_cons_succ, List.set_cons_zero]
              first | go_big_quiet_step (fail) | quiet_step (fail)
              first | go_big_quiet_step (fail) | quiet_step (fail)
              first | go_big_quiet_step (fail) | quiet_step (fail)
              refine wpQuiet_nil ?_
              intro w8 k8
              go_wp2
              go_ret
              exact ⟨by simp, (H7.out.2.2.trans (HQ.out.2.mono H7.out.2.2.size)).trans (k8.mono (Nat.le_trans H7.out.2.2.size HQ.out.2.size))⟩
end Go.Proofs.YtpihgffcfoelbaaDoor
