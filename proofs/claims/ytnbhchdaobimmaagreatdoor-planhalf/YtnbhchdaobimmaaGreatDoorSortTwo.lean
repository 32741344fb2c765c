/- Several texts in one: SortPart2, SortPartial, SortBreak, SortPdq. -/
import Derived.Test.YtnbhchdaobimmaaGreatDoorSortOne
import Derived.Sort.LotA
import Derived.Sort.Lot0
import Derived.Sort.AssemblyPlain
/- Contracts: parting a row by its pivot (what is less ahead of it). -/
namespace Go.Srt
open Go.RowKit Go.Sort
theorem part_end {a i j : Nat} {d : Array Int} (h : scanDown (fun x => !ltInt x d[a]!) d (scanUp (fun x => ltInt x d[a]!) d j i) j < scanUp (fun x => ltInt x d[a]!) d j i) : partLoop ltInt a i j d = (scanDown (fun x => !ltInt x d[a]!) d (scanUp (fun x => ltInt x d[a]!) d j i) j, d) := by
 rw [partLoop_eq, if_pos h]
theorem part_step {a i j : Nat} {d : Array Int} (h : ¬ scanDown (fun x => !ltInt x d[a]!) d (scanUp (fun x => ltInt x d[a]!) d j i) j < scanUp (fun x => ltInt x d[a]!) d j i) : partLoop ltInt a i j d = partLoop ltInt a (scanUp (fun x => ltInt x d[a]!) d j i + 1) (scanDown (fun x => !ltInt x d[a]!) d (scanUp (fun x => ltInt x d[a]!) d j i) j - 1) (Sort.swp d (scanUp (fun x => ltInt x d[a]!) d j i) (scanDown (fun x => !ltInt x d[a]!) d (scanUp (fun x => ltInt x d[a]!) d j i) j)) := by
 rw [partLoop_eq, if_neg h]
theorem scans_ne {a i j : Nat} {d : Array Int} (h0 : 0 < i) {i2 j2 : Nat} (hi2 : i2 = scanUp (fun x => ltInt x d[a]!) d j i) (hj2 : j2 = scanDown (fun x => !ltInt x d[a]!) d i2 j) (h : ¬ j2 < i2) : i2 < j2 := by
 subst hi2; subst hj2
 obtain ⟨u1, _, _, u4⟩ := scanUp_spec (fun x => ltInt x d[a]!) d j _ i rfl
 obtain ⟨v1, _, _, v4⟩ := scanDown_spec (fun x => !ltInt x d[a]!) d (scanUp (fun x => ltInt x d[a]!) d j i) j
 rcases Nat.lt_or_ge (scanUp (fun x => ltInt x d[a]!) d j i) (scanDown (fun x => !ltInt x d[a]!) d (scanUp (fun x => ltInt x d[a]!) d j i) j) with h' | h'
 ·exact h'
 ·have e : scanDown (fun x => !ltInt x d[a]!) d (scanUp (fun x => ltInt x d[a]!) d j i) j = scanUp (fun x => ltInt x d[a]!) d j i := by omega
  have f1 := u4 (by omega)
  have f2 := v4 (by omega) (by omega)
  rw [e] at f2
  simp only [f1] at f2
  cases f2
end Go.Srt
namespace Go.Proofs.YtnbhchdaobimmaaGreatDoor
open Go.RowKit Go.Sort Go.Srt Go.Mov
attribute [local go_sem] Oper.semAt_some
set_option maxHeartbeats 4000000 in
set_option maxRecDepth 100000 in
theorem part_any {W : World} {g c : Nat} (a b pv : Nat) (d : Array Int) (w : World) (h : Us 49 W g d w) (hab : a < b) (hb : b ≤ d.size) (hpa : a < pv) (hpb : pv < b) (hd : d.size ≤ 1000000) (hc : d.size ≤ c) :
  Calls Tryz.prog 137 #[.slice (some ⟨g, 0, none⟩) d.size c, .int .i64 a, .int .i64 b, .int .i64 pv] w fun e w' => e = .returned (.tuple #[.int .i64 (partition ltInt d a b pv).1, .bool (partition ltInt d a b pv).2.1]) ∧ Us 49 W g (partition ltInt d a b pv).2.2 w' := by
 obtain ⟨N, hN⟩ : ∃ N, N = d.size := ⟨_, rfl⟩
 obtain ⟨R, hR⟩ : ∃ R, R = partition ltInt d a b pv := ⟨_, rfl⟩
 rw [← hR]
 unfold Sort.partition at hR
 dsimp only at hR
 rw [← hN] at hb hd hc ⊢
 have hNI : (N : Int) ≤ 1000000 := by omega
 have hcI : (N : Int) ≤ c := by omega
 have ha0 : (0 : Int) ≤ a := by omega
 have haN : (a : Int) < N := by omega
 have hp0 : (0 : Int) ≤ pv := by omega
 have hpN : (pv : Int) < N := by omega
 have hbI : (b : Int) ≤ 1000000 := by omega
 have hb1 : (1 : Int) ≤ b := by omega
 have hne1 : ¬ a = pv := by omega
 have hne2 : ¬ pv = a := by omega
 obtain ⟨b1, hb1e⟩ : ∃ b1, b1 = b - 1 := ⟨_, rfl⟩
 have rb : (b : Int) - 1 = (b1 : Int) := by omega
 rw [← hb1e] at hR
 have c1 := h.cell (i := a) (by omega)
 have c2 := h.cell (i := pv) (by omega)
 have f1 := h.fz a
 have f2 := h.fz pv
 have HSW := hide (And.intro (h.swp (i := a) (j := pv) (by omega) (by omega)) (And.intro ((Srt.swp_size d a pv).trans hN.symm) hR.symm))
 have hb1N : b1 < N := by omega
 have hab1 : a ≤ b1 := by omega
 generalize Sort.swp d a pv = d0 at HSW
 generalize d[a]! = x1 at c1 HSW
 generalize d[pv]! = x2 at c2 HSW
 clear h hN hR hb1e
 go_enter Tryz.func137, Tryz.ntmps137
 go_upto_region 1 with fail
 go_region
 have HU0 := hide (HSW.out.1.below ((Below.refl _ _).drew))
 have HDs := hide HSW.out.2.1
 have HR := hide HSW.out.2.2
 clear HSW c1 c2 f1 f2 hne1 hne2
 generalize ((w.setCell ⟨g, a, none⟩ (.int .u64 x2)).setCell ⟨g, pv, none⟩ (.int .u64 x1)).drew = w0 at HU0 ⊢
 obtain ⟨i2, hi2⟩ : ∃ i2, i2 = scanUp (fun x => ltInt x d0[a]!) d0 b1 (a + 1) := ⟨_, rfl⟩
 rw [← hi2] at HR
 obtain ⟨j2, hj2⟩ : ∃ j2, j2 = scanDown (fun x => !ltInt x d0[a]!) d0 i2 b1 := ⟨_, rfl⟩
 rw [← hj2] at HR
 have hne3 := hide (scans_ne (Nat.succ_pos a) hi2 hj2)
 have HI2 := hide hi2.symm
 have HJ2 := hide hj2.symm
 clear hi2 hj2
 have ha1N : a + 1 ≤ N := by omega
 go_upto_block 0 with fail
 go_cut [10] (fun v wx => v = .int .i64 i2 ∧ a + 1 ≤ i2 ∧ i2 ≤ N ∧ Hid (Us 49 W g d0 wx))
 case first =>
  have HS0 : Hid (Us 49 W g d0 w0 ∧ scanUp (fun x => ltInt x d0[a]!) d0 b1 (a + 1) = i2) := ⟨HU0.out, HI2.out⟩
  clear HU0 HR
  go_wp2_with fail
  go_loopw [10] (fun v wr => ∃ x : Nat, v = .int .i64 x ∧ a + 1 ≤ x ∧ x ≤ N ∧ Hid (Us 49 W g d0 wr ∧ scanUp (fun x => ltInt x d0[a]!) d0 b1 x = i2)) (fun v _ => N + 1 - (intOf v).toNat)
  case atStart => exact ⟨a + 1, by simp, Nat.le_refl _, ha1N, HS0.out⟩
  case round =>
   obtain ⟨x, rfl, hx1, hx2, HX⟩ := hrel
   clear HS0
   by_cases hcond : x ≤ b1
   ·have hcI : (x : Int) ≤ b1 := by omega
    have hx0 : (0 : Int) ≤ x := by omega
    have hxN : (x : Int) < N := by omega
    have c1 := HX.out.1.cell (i := a) (by rw [HDs.out]; omega)
    have c2 := HX.out.1.cell (i := x) (by rw [HDs.out]; omega)
    have HLl := hide (fun v => less_any d0[x]! d0[a]! v)
    obtain ⟨l, hl⟩ : ∃ l, l = ltInt d0[x]! d0[a]! := ⟨_, rfl⟩
    rw [← hl] at HLl
    have HLT := hide hl
    generalize hy1 : d0[a]! = y1 at c1 c2 HLl
    generalize hy2 : d0[x]! = y2 at c1 c2 HLl
    have r1 := cell_regrown c1
    have r2 := cell_regrown c2
    have HY := hide hy1
    clear hl hy1 hy2
    go_upto_region 3 with fail
    refine QuietCalls.region (by kernel_rfl) (by kernel_rfl) ?_
    iterate 12 (first | go_big_quiet_step (fail) | quiet_step (fail))
    refine QuietCalls.call rfl 135 #[.int .u64 y2, .int .u64 y1] (.bool l) (fun v _ => (HLl.out v).mono fun e w' hh => ⟨hh.1, hh.2 ▸ Below.refl _ _⟩) (fun v => by go_simp) ?_; simp only [Act.put, List.setIfInBounds_toArray, List.set_cons_succ, List.set_cons_zero]
    iterate 1 (first | go_big_quiet_step (fail) | quiet_step (fail))
    refine wpQuiet_nil ?_
    intro w2 k2
    have HU2 := hide (HX.out.1.below k2)
    clear k2 c1 c2 r1 r2 HLl
    cases l with
    | false =>
     have hst : Hid (x = i2) := by
      have h1 := HX.out.2
      rw [scanUp_end _ _ _ _ (.inr (by show (ltInt d0[x]! d0[a]!) = false; rw [← HLT.out]))] at h1
      exact h1
     go_wp2_with fail
     go_meet
     exact ⟨by rw [hst.out], by rw [← hst.out]; exact hx1, by rw [← hst.out]; exact hx2, HU2.out⟩
    | true =>
     have hgo : Hid (scanUp (fun x => ltInt x d0[a]!) d0 b1 (x + 1) = i2) := by
      have h1 := HX.out.2
      rw [scanUp_go _ _ _ _ hcond (by show ltInt d0[x]! d0[a]! = true; rw [← HLT.out])] at h1
      exact h1
     go_wp2_with fail
     go_roundw
     case rel => exact ⟨x + 1, by simp, by omega, by omega, HU2.out, by rw [← HY.out]; exact hgo.out⟩
     case measure => simp [intOf]; omega
   ·have hcI : ¬ ((x : Int) ≤ b1) := by omega
    have hst : Hid (x = i2) := by
     have h1 := HX.out.2
     rw [scanUp_end _ _ _ _ (.inl hcond)] at h1
     exact h1
    go_upto_region 3 with fail
    refine QuietCalls.region (by kernel_rfl) (by kernel_rfl) ?_
    iterate 14 (first | go_big_quiet_step (fail) | quiet_step (fail))
    refine wpQuiet_nil ?_
    intro w2 k2
    have HU2 := hide (HX.out.1.below k2)
    clear k2
    go_wp2_with fail
    go_meet
    exact ⟨by rw [hst.out], by rw [← hst.out]; exact hx1, by rw [← hst.out]; exact hx2, HU2.out⟩
 case rest =>
  obtain ⟨rfl, hii, hi2N, HU1⟩ := hcut
  clear HU0
  go_upto_block 2 with fail
  go_cut [11] (fun v wx => v = .int .i64 j2 ∧ j2 ≤ b1 ∧ Hid (Us 49 W g d0 wx))
  case first =>
   have HS0 : Hid (Us 49 W g d0 wc ∧ scanDown (fun x => !ltInt x d0[a]!) d0 i2 b1 = j2) := ⟨HU1.out, HJ2.out⟩
   clear HU1 HR
   go_wp2_with fail
   go_loopw [11] (fun v wr => ∃ x : Nat, v = .int .i64 x ∧ x ≤ b1 ∧ x < N ∧ Hid (Us 49 W g d0 wr ∧ scanDown (fun x => !ltInt x d0[a]!) d0 i2 x = j2)) (fun v _ => (intOf v).toNat)
   case atStart => exact ⟨b1, rfl, Nat.le_refl _, hb1N, HS0.out⟩
   case round =>
    obtain ⟨x, rfl, hx1, hx2, HX⟩ := hrel
    clear HS0
    by_cases hcond : i2 ≤ x
    ·have hcI : (i2 : Int) ≤ x := by omega
     have hx0 : (0 : Int) ≤ x := by omega
     have hxN : (x : Int) < N := by omega
     have c1 := HX.out.1.cell (i := a) (by rw [HDs.out]; omega)
     have c2 := HX.out.1.cell (i := x) (by rw [HDs.out]; omega)
     have HLl := hide (fun v => less_any d0[x]! d0[a]! v)
     obtain ⟨l, hl⟩ : ∃ l, l = ltInt d0[x]! d0[a]! := ⟨_, rfl⟩
     rw [← hl] at HLl
     have HLT := hide hl
     generalize hy1 : d0[a]! = y1 at c1 c2 HLl
     generalize hy2 : d0[x]! = y2 at c1 c2 HLl
     have r1 := cell_regrown c1
     have r2 := cell_regrown c2
     have HY := hide hy1
     clear hl hy1 hy2
     go_upto_region 5 with fail
     refine QuietCalls.region (by kernel_rfl) (by kernel_rfl) ?_
     iterate 12 (first | go_big_quiet_step (fail) | quiet_step (fail))
     refine QuietCalls.call rfl 135 #[.int .u64 y2, .int .u64 y1] (.bool l) (fun v _ => (HLl.out v).mono fun e w' hh => ⟨hh.1, hh.2 ▸ Below.refl _ _⟩) (fun v => by go_simp) ?_; simp only [Act.put, List.setIfInBounds_toArray, List.set_cons_succ, List.set_cons_zero]
     iterate 2 (first | go_big_quiet_step (fail) | quiet_step (fail))
     refine wpQuiet_nil ?_
     intro w2 k2
     have HU2 := hide (HX.out.1.below k2)
     clear k2 c1 c2 r1 r2 HLl
     cases l with
     | true =>
      have hst : Hid (x = j2) := by
       have h1 := HX.out.2
       rw [scanDown_end _ _ _ _ (.inr (by show (!ltInt d0[x]! d0[a]!) = false; rw [← HLT.out]; rfl))] at h1
       exact h1
      go_wp2_with fail
      go_meet
      exact ⟨by rw [hst.out], by rw [← hst.out]; exact hx1, HU2.out⟩
     | false =>
      have hgo : Hid (scanDown (fun x => !ltInt x d0[a]!) d0 i2 (x - 1) = j2) := by
       have h1 := HX.out.2
       rw [scanDown_go _ _ _ _ hcond (by omega) (by show (!ltInt d0[x]! d0[a]!) = true; rw [← HLT.out]; rfl)] at h1
       exact h1
      go_wp2_with fail
      go_roundw
      case rel => exact ⟨x - 1, (by have : 1 ≤ x := (by omega); simp; omega), by omega, by omega, HU2.out, by rw [← HY.out]; exact hgo.out⟩
      case measure => simp [intOf]; omega
    ·have hcI : ¬ ((i2 : Int) ≤ x) := by omega
     have hst : Hid (x = j2) := by
      have h1 := HX.out.2
      rw [scanDown_end _ _ _ _ (.inl hcond)] at h1
      exact h1
     go_upto_region 5 with fail
     refine QuietCalls.region (by kernel_rfl) (by kernel_rfl) ?_
     iterate 15 (first | go_big_quiet_step (fail) | quiet_step (fail))
     refine wpQuiet_nil ?_
     intro w2 k2
     have HU2 := hide (HX.out.1.below k2)
     clear k2
     go_wp2_with fail
     go_meet
     exact ⟨by rw [hst.out], by rw [← hst.out]; exact hx1, HU2.out⟩
  case rest =>
   rename_i wc0
   obtain ⟨rfl, hjj, HU2⟩ := hcut
   clear HU1 HI2 HJ2
   have hs0 := HDs.out
   by_cases hbr : j2 < i2
   ·have hbrI : (j2 : Int) < i2 := by omega
    have HR2 : Hid (R = (j2, true, Sort.swp d0 j2 a)) := by
     have h1 := HR.out
     rw [if_pos hbr] at h1
     exact h1.symm
    clear HR hne3
    have hj0 : (0 : Int) ≤ j2 := by omega
    have hjN : (j2 : Int) < N := by omega
    have c1 := HU2.out.cell (i := j2) (by omega)
    have c2 := HU2.out.cell (i := a) (by omega)
    have f1 := HU2.out.fz j2
    have f2 := HU2.out.fz a
    have HSW := hide (HU2.out.swp (i := j2) (j := a) (by omega) (by omega))
    by_cases hsame : j2 = a
    ·subst hsame
     generalize d0[j2]! = y1 at c1 c2 HSW
     clear hs0
     go_upto_region 8 with fail
     go_region
     have HU4 := hide (HSW.out.below ((Below.refl _ _).drew))
     clear HSW c1 c2 f1 f2
     generalize ((wc.setCell ⟨g, j2, none⟩ (.int .u64 y1)).setCell ⟨g, j2, none⟩ (.int .u64 y1)).drew = w4 at HU4 ⊢
     go_wp2_with fail
     go_ret2
     rw [HR2.out]
     exact ⟨rfl, HU4.out⟩
    ·have hne1 : ¬ j2 = a := hsame
     have hne2 : ¬ a = j2 := fun e => hsame e.symm
     generalize d0[j2]! = y1 at c1 HSW
     generalize d0[a]! = y2 at c2 HSW
     clear hs0
     go_upto_region 8 with fail
     go_region
     have HU4 := hide (HSW.out.below ((Below.refl _ _).drew))
     clear HSW c1 c2 f1 f2
     generalize ((wc.setCell ⟨g, j2, none⟩ (.int .u64 y2)).setCell ⟨g, a, none⟩ (.int .u64 y1)).drew = w4 at HU4 ⊢
     go_wp2_with fail
     go_ret2
     rw [HR2.out]
     exact ⟨rfl, HU4.out⟩
   ·have hbrI : ¬ (j2 : Int) < i2 := by omega
    have hlt := hne3.out hbr
    obtain ⟨Q, hQ⟩ : ∃ Q, Q = partLoop ltInt a (i2 + 1) (j2 - 1) (Sort.swp d0 i2 j2) := ⟨_, rfl⟩
    have HR2 : Hid (R = (Q.1, false, Sort.swp Q.2 Q.1 a)) := by
     have h1 := HR.out
     rw [if_neg hbr, ← hQ] at h1
     exact h1.symm
    have HQ := hide hQ.symm
    clear HR hne3 hQ
    have hi20 : (0 : Int) ≤ i2 := by omega
    have hj20 : (0 : Int) ≤ j2 := by omega
    have hi2I : (i2 : Int) < N := by omega
    have hj2I : (j2 : Int) < N := by omega
    have hne1 : ¬ i2 = j2 := by omega
    have hne2 : ¬ j2 = i2 := by omega
    have c1 := HU2.out.cell (i := i2) (by omega)
    have c2 := HU2.out.cell (i := j2) (by omega)
    have f1 := HU2.out.fz i2
    have f2 := HU2.out.fz j2
    have HSW := hide (And.intro (HU2.out.swp (i := i2) (j := j2) (by omega) (by omega)) ((Srt.swp_size d0 i2 j2).trans hs0))
    have hj3 : (j2 : Int) - 1 = ((j2 - 1 : Nat) : Int) := by omega
    generalize Sort.swp d0 i2 j2 = d3 at HSW HQ
    generalize d0[i2]! = y1 at c1 HSW
    generalize d0[j2]! = y2 at c2 HSW
    clear hs0 HDs HU2
    go_upto_region 10 with fail
    go_region
    have HU4 : Hid (Us 49 W g d3 ((wc.setCell ⟨g, i2, none⟩ (.int .u64 y2)).setCell ⟨g, j2, none⟩ (.int .u64 y1)).drew ∧ d3.size = N ∧ partLoop ltInt a (i2 + 1) (j2 - 1) d3 = Q) := ⟨HSW.out.1.below ((Below.refl _ _).drew), HSW.out.2, HQ.out⟩
    clear HSW c1 c2 f1 f2 hne1 hne2 HQ
    generalize ((wc.setCell ⟨g, i2, none⟩ (.int .u64 y2)).setCell ⟨g, j2, none⟩ (.int .u64 y1)).drew = w4 at HU4 ⊢
    go_wp2_with fail
    go_loopw [10, 11] (fun v10 v11 wr => ∃ (i j : Nat), v10 = .int .i64 i ∧ v11 = .int .i64 j ∧ a + 1 ≤ i ∧ i ≤ N ∧ j < N ∧ Hid (∃ d', Us 49 W g d' wr ∧ d'.size = N ∧ partLoop ltInt a i j d' = Q)) (fun v10 v11 _ => (intOf v11 + 1 - intOf v10).toNat)
    case atStart => exact ⟨i2 + 1, j2 - 1, by simp, by simp, by omega, by omega, by omega, d3, HU4.out⟩
    case round =>
     obtain ⟨i, j, rfl, rfl, hi1, hiN, hjN, HI⟩ := hrel
     clear HU4 hi20 hj20 hi2I hj2I hj3 hbrI
     obtain ⟨d1, hU, hs, hE⟩ := HI.out
     obtain ⟨i3, hi3⟩ : ∃ i3, i3 = scanUp (fun x => ltInt x d1[a]!) d1 j i := ⟨_, rfl⟩
     obtain ⟨j3, hj3⟩ : ∃ j3, j3 = scanDown (fun x => !ltInt x d1[a]!) d1 i3 j := ⟨_, rfl⟩
     have HNE := hide (scans_ne (by omega) hi3 hj3)
     have HU1 := hide hU
     have HDs := hide hs
     have HE := hide hE
     have HI3 := hide hi3.symm
     have HJ3 := hide hj3.symm
     clear HI hU hs hE hi3 hj3
     go_upto_block 6 with fail
     go_cut [10] (fun v wx => v = .int .i64 i3 ∧ i ≤ i3 ∧ i3 ≤ N ∧ Hid (Us 49 W g d1 wx))
     case first =>
      have HS0 : Hid (Us 49 W g d1 wr ∧ scanUp (fun x => ltInt x d1[a]!) d1 j i = i3) := ⟨HU1.out, HI3.out⟩
      clear HU1 HR2 HE
      go_wp2_with fail
      go_loopw [10] (fun v wr => ∃ x : Nat, v = .int .i64 x ∧ i ≤ x ∧ x ≤ N ∧ Hid (Us 49 W g d1 wr ∧ scanUp (fun x => ltInt x d1[a]!) d1 j x = i3)) (fun v _ => N + 1 - (intOf v).toNat)
      case atStart => exact ⟨i, rfl, Nat.le_refl _, hiN, HS0.out⟩
      case round =>
       obtain ⟨x, rfl, hx1, hx2, HX⟩ := hrel
       clear HS0
       by_cases hcond : x ≤ j
       ·have hcI : (x : Int) ≤ j := by omega
        have hx0 : (0 : Int) ≤ x := by omega
        have hxN : (x : Int) < N := by omega
        have c1 := HX.out.1.cell (i := a) (by rw [HDs.out]; omega)
        have c2 := HX.out.1.cell (i := x) (by rw [HDs.out]; omega)
        have HLl := hide (fun v => less_any d1[x]! d1[a]! v)
        obtain ⟨l, hl⟩ : ∃ l, l = ltInt d1[x]! d1[a]! := ⟨_, rfl⟩
        rw [← hl] at HLl
        have HLT := hide hl
        generalize hy1 : d1[a]! = y1 at c1 c2 HLl
        generalize hy2 : d1[x]! = y2 at c1 c2 HLl
        have r1 := cell_regrown c1
        have r2 := cell_regrown c2
        have HY := hide hy1
        clear hl hy1 hy2
        go_upto_region 13 with fail
        refine QuietCalls.region (by kernel_rfl) (by kernel_rfl) ?_
        iterate 12 (first | go_big_quiet_step (fail) | quiet_step (fail))
        refine QuietCalls.call rfl 135 #[.int .u64 y2, .int .u64 y1] (.bool l) (fun v _ => (HLl.out v).mono fun e w' hh => ⟨hh.1, hh.2 ▸ Below.refl _ _⟩) (fun v => by go_simp) ?_; simp only [Act.put, List.setIfInBounds_toArray, List.set_cons_succ, List.set_cons_zero]
        iterate 1 (first | go_big_quiet_step (fail) | quiet_step (fail))
        refine wpQuiet_nil ?_
        intro w2 k2
        have HU2 := hide (HX.out.1.below k2)
        clear k2 c1 c2 r1 r2 HLl
        cases l with
        | false =>
         have hst : Hid (x = i3) := by
          have h1 := HX.out.2
          rw [scanUp_end _ _ _ _ (.inr (by show (ltInt d1[x]! d1[a]!) = false; rw [← HLT.out]))] at h1
          exact h1
         go_wp2_with fail
         go_meet
         exact ⟨by rw [hst.out], by rw [← hst.out]; exact hx1, by rw [← hst.out]; exact hx2, HU2.out⟩
        | true =>
         have hgo : Hid (scanUp (fun x => ltInt x d1[a]!) d1 j (x + 1) = i3) := by
          have h1 := HX.out.2
          rw [scanUp_go _ _ _ _ hcond (by show ltInt d1[x]! d1[a]! = true; rw [← HLT.out])] at h1
          exact h1
         go_wp2_with fail
         go_roundw
         case rel => exact ⟨x + 1, by simp, by omega, by omega, HU2.out, by rw [← HY.out]; exact hgo.out⟩
         case measure => simp [intOf]; omega
       ·have hcI : ¬ ((x : Int) ≤ j) := by omega
        have hst : Hid (x = i3) := by
         have h1 := HX.out.2
         rw [scanUp_end _ _ _ _ (.inl hcond)] at h1
         exact h1
        go_upto_region 13 with fail
        refine QuietCalls.region (by kernel_rfl) (by kernel_rfl) ?_
        iterate 14 (first | go_big_quiet_step (fail) | quiet_step (fail))
        refine wpQuiet_nil ?_
        intro w2 k2
        have HU2 := hide (HX.out.1.below k2)
        clear k2
        go_wp2_with fail
        go_meet
        exact ⟨by rw [hst.out], by rw [← hst.out]; exact hx1, by rw [← hst.out]; exact hx2, HU2.out⟩
     case rest =>
      obtain ⟨rfl, hi3i, hi3N, HU2⟩ := hcut
      clear HU1
      go_upto_block 8 with fail
      go_cut [11] (fun v wx => v = .int .i64 j3 ∧ j3 ≤ j ∧ Hid (Us 49 W g d1 wx))
      case first =>
       have HS0 : Hid (Us 49 W g d1 wc ∧ scanDown (fun x => !ltInt x d1[a]!) d1 i3 j = j3) := ⟨HU2.out, HJ3.out⟩
       clear HU2 HR2 HE
       go_wp2_with fail
       go_loopw [11] (fun v wr => ∃ x : Nat, v = .int .i64 x ∧ x ≤ j ∧ x < N ∧ Hid (Us 49 W g d1 wr ∧ scanDown (fun x => !ltInt x d1[a]!) d1 i3 x = j3)) (fun v _ => (intOf v).toNat)
       case atStart => exact ⟨j, rfl, Nat.le_refl _, hjN, HS0.out⟩
       case round =>
        obtain ⟨x, rfl, hx1, hx2, HX⟩ := hrel
        clear HS0
        by_cases hcond : i3 ≤ x
        ·have hcI : (i3 : Int) ≤ x := by omega
         have hx0 : (0 : Int) ≤ x := by omega
         have hxN : (x : Int) < N := by omega
         have c1 := HX.out.1.cell (i := a) (by rw [HDs.out]; omega)
         have c2 := HX.out.1.cell (i := x) (by rw [HDs.out]; omega)
         have HLl := hide (fun v => less_any d1[x]! d1[a]! v)
         obtain ⟨l, hl⟩ : ∃ l, l = ltInt d1[x]! d1[a]! := ⟨_, rfl⟩
         rw [← hl] at HLl
         have HLT := hide hl
         generalize hy1 : d1[a]! = y1 at c1 c2 HLl
         generalize hy2 : d1[x]! = y2 at c1 c2 HLl
         have r1 := cell_regrown c1
         have r2 := cell_regrown c2
         have HY := hide hy1
         clear hl hy1 hy2
         go_upto_region 15 with fail
         refine QuietCalls.region (by kernel_rfl) (by kernel_rfl) ?_
         iterate 12 (first | go_big_quiet_step (fail) | quiet_step (fail))
         refine QuietCalls.call rfl 135 #[.int .u64 y2, .int .u64 y1] (.bool l) (fun v _ => (HLl.out v).mono fun e w' hh => ⟨hh.1, hh.2 ▸ Below.refl _ _⟩) (fun v => by go_simp) ?_; simp only [Act.put, List.setIfInBounds_toArray, List.set_cons_succ, List.set_cons_zero]
         iterate 2 (first | go_big_quiet_step (fail) | quiet_step (fail))
         refine wpQuiet_nil ?_
         intro w2 k2
         have HU2 := hide (HX.out.1.below k2)
         clear k2 c1 c2 r1 r2 HLl
         cases l with
         | true =>
          have hst : Hid (x = j3) := by
           have h1 := HX.out.2
           rw [scanDown_end _ _ _ _ (.inr (by show (!ltInt d1[x]! d1[a]!) = false; rw [← HLT.out]; rfl))] at h1
           exact h1
          go_wp2_with fail
          go_meet
          exact ⟨by rw [hst.out], by rw [← hst.out]; exact hx1, HU2.out⟩
         | false =>
          have hgo : Hid (scanDown (fun x => !ltInt x d1[a]!) d1 i3 (x - 1) = j3) := by
           have h1 := HX.out.2
           rw [scanDown_go _ _ _ _ hcond (by omega) (by show (!ltInt d1[x]! d1[a]!) = true; rw [← HLT.out]; rfl)] at h1
           exact h1
          go_wp2_with fail
          go_roundw
          case rel => exact ⟨x - 1, (by have : 1 ≤ x := (by omega); simp; omega), by omega, by omega, HU2.out, by rw [← HY.out]; exact hgo.out⟩
          case measure => simp [intOf]; omega
        ·have hcI : ¬ ((i3 : Int) ≤ x) := by omega
         have hst : Hid (x = j3) := by
          have h1 := HX.out.2
          rw [scanDown_end _ _ _ _ (.inl hcond)] at h1
          exact h1
         go_upto_region 15 with fail
         refine QuietCalls.region (by kernel_rfl) (by kernel_rfl) ?_
         iterate 15 (first | go_big_quiet_step (fail) | quiet_step (fail))
         refine wpQuiet_nil ?_
         intro w2 k2
         have HU2 := hide (HX.out.1.below k2)
         clear k2
         go_wp2_with fail
         go_meet
         exact ⟨by rw [hst.out], by rw [← hst.out]; exact hx1, HU2.out⟩
      case rest =>
       rename_i wc0
       obtain ⟨rfl, hj3j, HU3⟩ := hcut
       clear HU2
       have hs1 := HDs.out
       by_cases hbr3 : j3 < i3
       ·have hbrI : (j3 : Int) < i3 := by omega
        have hQ : Hid (R = (j3, false, Sort.swp d1 j3 a)) := by
         have h1 := HE.out
         rw [part_end (by rw [HI3.out, HJ3.out]; exact hbr3), HI3.out, HJ3.out] at h1
         exact HR2.out.trans (by rw [← h1])
        clear HE HR2 HNE HI3 HJ3
        have hj0 : (0 : Int) ≤ j3 := by omega
        have hj3N : (j3 : Int) < N := by omega
        have c1 := HU3.out.cell (i := j3) (by omega)
        have c2 := HU3.out.cell (i := a) (by omega)
        have f1 := HU3.out.fz j3
        have f2 := HU3.out.fz a
        have HSW := hide (HU3.out.swp (i := j3) (j := a) (by omega) (by omega))
        by_cases hsame : j3 = a
        ·subst hsame
         generalize d1[j3]! = y1 at c1 c2 HSW
         clear hs1
         go_upto_region 21 with fail
         go_region
         have HU4 := hide (HSW.out.below ((Below.refl _ _).drew))
         clear HSW c1 c2 f1 f2
         generalize ((wc.setCell ⟨g, j3, none⟩ (.int .u64 y1)).setCell ⟨g, j3, none⟩ (.int .u64 y1)).drew = w4 at HU4 ⊢
         go_wp2_with fail
         go_ret2
         rw [hQ.out]
         exact ⟨rfl, HU4.out⟩
        ·have hne1 : ¬ j3 = a := hsame
         have hne2 : ¬ a = j3 := fun e => hsame e.symm
         generalize d1[j3]! = y1 at c1 HSW
         generalize d1[a]! = y2 at c2 HSW
         clear hs1
         go_upto_region 21 with fail
         go_region
         have HU4 := hide (HSW.out.below ((Below.refl _ _).drew))
         clear HSW c1 c2 f1 f2
         generalize ((wc.setCell ⟨g, j3, none⟩ (.int .u64 y2)).setCell ⟨g, a, none⟩ (.int .u64 y1)).drew = w4 at HU4 ⊢
         go_wp2_with fail
         go_ret2
         rw [hQ.out]
         exact ⟨rfl, HU4.out⟩
       ·have hbrI : ¬ (j3 : Int) < i3 := by omega
        have hlt3 := HNE.out hbr3
        have hQ : Hid (partLoop ltInt a (i3 + 1) (j3 - 1) (Sort.swp d1 i3 j3) = Q) := by
         have h1 := HE.out
         rw [part_step (by rw [HI3.out, HJ3.out]; exact hbr3), HI3.out, HJ3.out] at h1
         exact h1
        clear HE HNE HI3 HJ3
        have hi20 : (0 : Int) ≤ i3 := by omega
        have hj20 : (0 : Int) ≤ j3 := by omega
        have hi2I : (i3 : Int) < N := by omega
        have hj2I : (j3 : Int) < N := by omega
        have hrj : (j3 : Int) - 1 = ((j3 - 1 : Nat) : Int) := by omega
        have hne1 : ¬ i3 = j3 := by omega
        have hne2 : ¬ j3 = i3 := by omega
        have c1 := HU3.out.cell (i := i3) (by omega)
        have c2 := HU3.out.cell (i := j3) (by omega)
        have f1 := HU3.out.fz i3
        have f2 := HU3.out.fz j3
        have HSW := hide (And.intro (HU3.out.swp (i := i3) (j := j3) (by omega) (by omega)) ((Srt.swp_size d1 i3 j3).trans hs1))
        generalize d1[i3]! = y1 at c1 HSW
        generalize d1[j3]! = y2 at c2 HSW
        clear hs1
        go_upto_region 18 with fail
        go_region
        have HU4 := hide (And.intro (HSW.out.1.below ((Below.refl _ _).drew)) HSW.out.2)
        clear HSW c1 c2 f1 f2
        generalize ((wc.setCell ⟨g, i3, none⟩ (.int .u64 y2)).setCell ⟨g, j3, none⟩ (.int .u64 y1)).drew = w4 at HU4 ⊢
        go_wp2_with fail
        go_roundw
        case rel => exact ⟨i3 + 1, j3 - 1, by simp, by simp, by omega, by omega, by omega, _, HU4.out.1, HU4.out.2, hQ.out⟩
        case measure => simp [intOf]; omega
end Go.Proofs.YtnbhchdaobimmaaGreatDoor
/- Contracts: insertion sort that gives up. -/
namespace Go.Srt
open Go.RowKit Go.Sort
theorem scanSorted_go {d : Array Int} {b i : Nat} (h : i < b) (hp : ltInt d[i]! d[i - 1]! = false) : scanSorted ltInt d b i = scanSorted ltInt d b (i + 1) := by
 rw [scanSorted, if_pos (by simp [h, hp])]
theorem scanSorted_end {d : Array Int} {b i : Nat} (h : ¬ i < b ∨ ltInt d[i]! d[i - 1]! = true) : scanSorted ltInt d b i = i := by
 rw [scanSorted, if_neg (by rcases h with h | h <;> simp [h])]
theorem shiftDown_size : ∀ (j : Nat) (d : Array Int), (shiftDown ltInt j d).size = d.size
 | 0, d => rfl
 | j + 1, d => by
  unfold shiftDown
  split
  ·rfl
  ·rw [shiftDown_size j, Srt.swp_size]
theorem shiftUp_go {d : Array Int} {b j : Nat} (h : j < b) (hp : ltInt d[j]! d[j - 1]! = true) : shiftUp ltInt b j d = shiftUp ltInt b (j + 1) (Sort.swp d j (j - 1)) := by
 rw [shiftUp, if_pos h, if_neg (by simp [hp])]
theorem shiftUp_end {d : Array Int} {b j : Nat} (h : ¬ j < b ∨ ltInt d[j]! d[j - 1]! = false) : shiftUp ltInt b j d = d := by
 rcases h with h | h
 ·rw [shiftUp, if_neg h]
 ·rw [shiftUp]
  split
  ·rw [if_pos (by simp [h])]
  ·rfl
theorem shiftUp_size (b : Nat) : ∀ (n j : Nat) (d : Array Int), b - j ≤ n → (shiftUp ltInt b j d).size = d.size
 | 0, j, d, h => by rw [shiftUp_end (.inl (by omega))]
 | n + 1, j, d, h => by
  by_cases hj : j < b
  ·cases e : ltInt d[j]! d[j - 1]! with
   | true => rw [shiftUp_go hj e, shiftUp_size b n _ _ (by omega), Srt.swp_size]
   | false => rw [shiftUp_end (.inr e)]
  ·rw [shiftUp_end (.inl hj)]
end Go.Srt
namespace Go.Proofs.YtnbhchdaobimmaaGreatDoor
open Go.RowKit Go.Sort Go.Srt Go.Mov
attribute [local go_sem] Oper.semAt_some
set_option maxHeartbeats 4000000 in
set_option maxRecDepth 100000 in
theorem partial_any {W : World} {g c : Nat} (a b : Nat) (d : Array Int) (w : World) (h : Us 49 W g d w) (hab : a < b) (hb : b ≤ d.size) (hd : d.size ≤ 1000000) (hc : d.size ≤ c) :
  Calls Tryz.prog 134 #[.slice (some ⟨g, 0, none⟩) d.size c, .int .i64 a, .int .i64 b] w fun e w' => e = .returned (.bool (partialInsertionSort ltInt d a b).2) ∧ Us 49 W g (partialInsertionSort ltInt d a b).1 w' := by
 obtain ⟨N, hN⟩ : ∃ N, N = d.size := ⟨_, rfl⟩
 obtain ⟨R, hR⟩ : ∃ R, R = partialInsertionSort ltInt d a b := ⟨_, rfl⟩
 rw [← hR]
 unfold partialInsertionSort at hR
 have HU0 : Hid (Us 49 W g d w ∧ d.size = N ∧ partialIns ltInt a b 5 (a + 1) d = R) := ⟨h, hN.symm, hR.symm⟩
 rw [← hN] at hb hd hc ⊢
 have hNI : (N : Int) ≤ 1000000 := by omega
 have hcI : (N : Int) ≤ c := by omega
 have ha0 : (0 : Int) ≤ a := by omega
 have haN : (a : Int) < N := by omega
 have hbN : (b : Int) ≤ N := by omega
 have hbI : (b : Int) ≤ 1000000 := by omega
 have haI : (a : Int) < b := by omega
 clear h hN hR
 go_enter Tryz.func134, Tryz.ntmps134
 go_wp2_with fail
 go_loopw [7, 8] (fun v7 v8 wr => ∃ (i s : Nat), v7 = .int .i64 i ∧ v8 = .int .i64 s ∧ a + 1 ≤ i ∧ i ≤ b ∧ s ≤ 5 ∧ Hid (∃ d', Us 49 W g d' wr ∧ d'.size = N ∧ partialIns ltInt a b (5 - s) i d' = R)) (fun _ v8 _ => (5 - intOf v8).toNat)
 case atStart => exact ⟨a + 1, 0, by simp, rfl, Nat.le_refl _, by omega, by omega, d, HU0.out⟩
 case round =>
  obtain ⟨i, s, rfl, rfl, hi1, hib, hs5, HI⟩ := hrel
  clear HU0
  obtain ⟨d1, hU, hs, hE⟩ := HI.out
  clear HI
  by_cases hs4 : s < 5
  ·obtain ⟨t, ht⟩ : ∃ t, 5 - s = t + 1 := ⟨4 - s, by omega⟩
   rw [ht, partialIns_succ] at hE
   have hsI : (s : Int) < 5 := by omega
   have hs0 : (0 : Int) ≤ s := by omega
   have ht2 : 5 - (s + 1) = t := by omega
   have HT := hide ht2
   obtain ⟨i2, hi2⟩ : ∃ i2, i2 = scanSorted ltInt d1 b i := ⟨_, rfl⟩
   rw [← hi2] at hE
   have HU1 := hide hU
   have HDs := hide hs
   have HE := hide hE
   have HI2 := hide hi2.symm
   clear hU hs hE hi2 ht ht2
   go_upto_block 2 with fail
   go_cut [7] (fun v wx => v = .int .i64 i2 ∧ i ≤ i2 ∧ i2 ≤ b ∧ Hid (Us 49 W g d1 wx))
   case first =>
    have HS0 : Hid (Us 49 W g d1 wr ∧ scanSorted ltInt d1 b i = i2) := ⟨HU1.out, HI2.out⟩
    clear HU1 HE
    go_wp2_with fail
    go_loopw [7] (fun v wr => ∃ x : Nat, v = .int .i64 x ∧ i ≤ x ∧ x ≤ b ∧ Hid (Us 49 W g d1 wr ∧ scanSorted ltInt d1 b x = i2)) (fun v _ => N + 1 - (intOf v).toNat)
    case atStart => exact ⟨i, rfl, Nat.le_refl _, hib, HS0.out⟩
    case round =>
     obtain ⟨x, rfl, hx1, hx2, HX⟩ := hrel
     clear HS0
     by_cases hcond : x < b
     ·have hcI : (x : Int) < b := by omega
      have hx0 : (1 : Int) ≤ x := by omega
      have hxN : (x : Int) < N := by omega
      have hxm : (x : Int) - 1 = ((x - 1 : Nat) : Int) := by omega
      have c1 := HX.out.1.cell (i := x - 1) (by rw [HDs.out]; omega)
      have c2 := HX.out.1.cell (i := x) (by rw [HDs.out]; omega)
      have HLl := hide (fun v => less_any d1[x]! d1[x - 1]! v)
      obtain ⟨l, hl⟩ : ∃ l, l = ltInt d1[x]! d1[x - 1]! := ⟨_, rfl⟩
      rw [← hl] at HLl
      have HLT := hide hl
      generalize hy1 : d1[x - 1]! = y1 at c1 c2 HLl
      generalize hy2 : d1[x]! = y2 at c1 c2 HLl
      have r1 := cell_regrown c1
      have r2 := cell_regrown c2
      clear hl hy1 hy2
      go_upto_region 5 with fail
      refine QuietCalls.region (by kernel_rfl) (by kernel_rfl) ?_
      iterate 13 (first | go_big_quiet_step (fail) | quiet_step (fail))
      refine QuietCalls.call rfl 135 #[.int .u64 y2, .int .u64 y1] (.bool l) (fun v _ => (HLl.out v).mono fun e w' hh => ⟨hh.1, hh.2 ▸ Below.refl _ _⟩) (fun v => by go_simp) ?_; simp only [Act.put, List.setIfInBounds_toArray, List.set_cons_succ, List.set_cons_zero]
      iterate 2 (first | go_big_quiet_step (fail) | quiet_step (fail))
      refine wpQuiet_nil ?_
      intro w2 k2
      have HU2 := hide (HX.out.1.below k2)
      clear k2 c1 c2 r1 r2 HLl
      cases l with
      | true =>
       have hst : Hid (x = i2) := by
        have h1 := HX.out.2
        rw [scanSorted_end (.inr (by rw [← HLT.out]))] at h1
        exact h1
       go_wp2_with fail
       go_meet
       exact ⟨by rw [hst.out], by rw [← hst.out]; exact hx1, by rw [← hst.out]; exact hx2, HU2.out⟩
      | false =>
       have hgo : Hid (scanSorted ltInt d1 b (x + 1) = i2) := by
        have h1 := HX.out.2
        rw [Srt.scanSorted_go hcond (by rw [← HLT.out])] at h1
        exact h1
       go_wp2_with fail
       go_roundw
       case rel => exact ⟨x + 1, by simp, by omega, by omega, HU2.out, hgo.out⟩
       case measure => simp [intOf]; omega
     ·have hcI : ¬ ((x : Int) < b) := by omega
      have hst : Hid (x = i2) := by
       have h1 := HX.out.2
       rw [scanSorted_end (.inl hcond)] at h1
       exact h1
      go_upto_region 5 with fail
      refine QuietCalls.region (by kernel_rfl) (by kernel_rfl) ?_
      iterate 16 (first | go_big_quiet_step (fail) | quiet_step (fail))
      refine wpQuiet_nil ?_
      intro w2 k2
      have HU2 := hide (HX.out.1.below k2)
      clear k2
      go_wp2_with fail
      go_meet
      exact ⟨by rw [hst.out], by rw [← hst.out]; exact hx1, by rw [← hst.out]; exact hx2, HU2.out⟩
   case rest =>
    obtain ⟨rfl, hii, hi2b, HU2⟩ := hcut
    clear HU1 HI2
    have hi20 : (1 : Int) ≤ i2 := by omega
    have hi2I : (i2 : Int) ≤ b := by omega
    have hs1 := HDs.out
    by_cases hend : i2 = b
    ·have hendI : (i2 : Int) = b := by omega
     have hR : Hid (R = (d1, true)) := by
      have h1 := HE.out
      rw [if_pos hend] at h1
      exact h1.symm
     subst hend
     go_wp2_with fail
     go_ret
     rw [hR.out]
     exact ⟨rfl, HU2.out⟩
    ·have hendI : ¬ (i2 : Int) = b := by omega
     obtain ⟨q, hq⟩ : ∃ q, q = b - a := ⟨_, rfl⟩
     have hqI : (b : Int) - a = q := by omega
     have hE2 := HE.out
     rw [if_neg hend, ← hq] at hE2
     by_cases h50 : q < 50
     ·have h50I : (q : Int) < 50 := by omega
      have hR : Hid (R = (d1, false)) := by
       rw [if_pos h50] at hE2
       exact hE2.symm
      clear hE2 hq
      go_wp2_with fail
      go_ret
      rw [hR.out]
      exact ⟨rfl, HU2.out⟩
     ·have h50I : ¬ (q : Int) < 50 := by omega
      rw [if_neg h50] at hE2
      have hi2N : (i2 : Int) < N := by omega
      have him : (i2 : Int) - 1 = ((i2 - 1 : Nat) : Int) := by omega
      have c1 := HU2.out.cell (i := i2) (by omega)
      have c2 := HU2.out.cell (i := i2 - 1) (by omega)
      have f1 := HU2.out.fz i2
      have f2 := HU2.out.fz (i2 - 1)
      have hne1 : ¬ i2 = i2 - 1 := by omega
      have hne2 : ¬ i2 - 1 = i2 := by omega
      have HSW := hide (And.intro (HU2.out.swp (i := i2) (j := i2 - 1) (by omega) (by omega)) ((Srt.swp_size d1 i2 (i2 - 1)).trans hs1))
      generalize Sort.swp d1 i2 (i2 - 1) = d2 at HSW hE2
      generalize d1[i2]! = y1 at c1 HSW
      generalize d1[i2 - 1]! = y2 at c2 HSW
      obtain ⟨d3, hd3⟩ : ∃ d3, d3 = fixDown ltInt a i2 d2 := ⟨_, rfl⟩
      rw [← hd3] at hE2
      obtain ⟨d4, hd4⟩ : ∃ d4, d4 = fixUp ltInt b i2 d3 := ⟨_, rfl⟩
      rw [← hd4] at hE2
      have HE2 := hide hE2
      have HD3 := hide hd3
      have HD4 := hide hd4
      have hs3 : Hid (d3.size = N) := by
       rw [hd3]; refine hide ?_; unfold fixDown; split
       ·rw [shiftDown_size]; exact HSW.out.2
       ·exact HSW.out.2
      have hs4 : Hid (d4.size = N) := by
       rw [hd4]; refine hide ?_; unfold fixUp; split
       ·rw [shiftUp_size _ _ _ _ (Nat.le_refl _)]; exact hs3.out
       ·exact hs3.out
      clear hE2 hd3 hd4 hs1 hq HE HDs
      go_upto_region 11 with fail
      go_region
      have HU3 := hide (And.intro (HSW.out.1.below ((Below.refl _ _).drew)) HSW.out.2)
      clear HSW c1 c2 f1 f2 hne1 hne2 HU2
      generalize ((wc.setCell ⟨g, i2, none⟩ (.int .u64 y2)).setCell ⟨g, i2 - 1, none⟩ (.int .u64 y1)).drew = w3 at HU3 ⊢
      go_upto_if 61 with fail
      go_cut [7] (fun v wx => v = .int .i64 i2 ∧ Hid (Us 49 W g d3 wx))
      case first =>
       by_cases h2 : i2 - a ≥ 2
       ·have h2I : (2 : Int) ≤ (i2 : Int) - a := by omega
        have HJ0 : Hid (Us 49 W g d2 w3 ∧ d2.size = N ∧ shiftDown ltInt (i2 - 1) d2 = d3) := ⟨HU3.out.1, HU3.out.2, by rw [HD3.out]; unfold fixDown; rw [if_pos h2]⟩
        clear HU3 HE2 HD3 HD4 hs4
        go_wp2_with fail
        go_loopw [9] (fun v9 wr => ∃ (j : Nat), v9 = .int .i64 j ∧ j < N ∧ Hid (∃ d', Us 49 W g d' wr ∧ d'.size = N ∧ shiftDown ltInt j d' = d3)) (fun v9 _ => (intOf v9).toNat)
        case atStart => exact ⟨i2 - 1, rfl, by omega, d2, HJ0.out⟩
        case round =>
         obtain ⟨j, rfl, hjN, HJ⟩ := hrel
         clear HJ0
         obtain ⟨d5, hU, hs, hE⟩ := HJ.out
         by_cases hj0 : 0 < j
         ·obtain ⟨k, rfl⟩ : ∃ k, j = k + 1 := ⟨j - 1, by omega⟩
          have hk0 : (0 : Int) ≤ k := by omega
          have hk01 : (1 : Int) ≤ (k : Int) + 1 := by omega
          have hkN : (k : Int) + 1 < N := by omega
          have hkN2 : (k : Int) < N := by omega
          have hcx : ((k + 1 : Nat) : Int) = (k : Int) + 1 := by omega
          rw [hcx]
          clear hcx
          have c1 := hU.cell (i := k + 1) (by omega)
          have c2 := hU.cell (i := k) (by omega)
          have f1 := hU.fz (k + 1)
          have f2 := hU.fz k
          have hsw := fun (v : World) (hv : Us 49 W g d5 v) => hv.swp (i := k + 1) (j := k) (by omega) (by omega)
          have hss := Srt.swp_size d5 (k + 1) k
          have HU := hide (And.intro hU (And.intro hs (And.intro hsw hss)))
          have HL := hide (fun v => less_any d5[k + 1]! d5[k]! v)
          have HE3 := hide hE
          generalize hx1 : d5[k + 1]! = x1 at c1 c2 HL
          generalize hx2 : d5[k]! = x2 at c1 c2 HL
          have HX := hide (And.intro hx1 hx2)
          clear hU hs hE hsw hss hx1 hx2 HJ
          have r1 := cell_regrown c1
          have r2 := cell_regrown c2
          obtain ⟨lt, hlt⟩ : ∃ lt, lt = ltInt x1 x2 := ⟨_, rfl⟩
          rw [← hlt] at HL
          have HLT := hide hlt
          clear hlt
          go_upto_region 16 with fail
          refine QuietCalls.region (by kernel_rfl) (by kernel_rfl) ?_
          iterate 9 (first | go_big_quiet_step (fail) | quiet_step (fail))
          refine QuietCalls.call rfl 135 #[.int .u64 x1, .int .u64 x2] (.bool lt) (fun v _ => (HL.out v).mono fun e w' hh => ⟨hh.1, hh.2 ▸ Below.refl _ _⟩) (fun v => by go_simp) ?_; simp only [Act.put, List.setIfInBounds_toArray, List.set_cons_succ, List.set_cons_zero]
          iterate 1 (first | go_big_quiet_step (fail) | quiet_step (fail))
          refine wpQuiet_nil ?_
          intro w2 k2
          have HU2 := hide (HU.out.1.below k2)
          have d1c := HU2.out.cell (i := k + 1) (by rw [HU.out.2.1]; omega)
          have d2c := HU2.out.cell (i := k) (by rw [HU.out.2.1]; omega)
          have g1 := HU2.out.fz (k + 1)
          have g2 := HU2.out.fz k
          rw [HX.out.1] at d1c
          rw [HX.out.2] at d2c
          clear k2 c1 c2 r1 r2 f1 f2 HL
          cases lt with
          | true =>
           have hstep : shiftDown ltInt k (Sort.swp d5 (k + 1) k) = d3 := by
            have h1 := HE3.out
            unfold shiftDown at h1
            rw [HX.out.1, HX.out.2, ← HLT.out, if_neg (by simp)] at h1
            exact h1
           have HST := hide hstep
           clear hstep
           go_upto_region 17 with fail
           go_region
           have HS := hide (And.intro (((HU.out.2.2.1 w2 HU2.out).below ((Below.refl _ _).drew))) (HU.out.2.2.2.trans HU.out.2.1))
           rw [HX.out.1, HX.out.2] at HS
           clear d1c d2c g1 g2
           generalize ((w2.setCell ⟨g, k + 1, none⟩ (.int .u64 x2)).setCell ⟨g, k, none⟩ (.int .u64 x1)).drew = w3 at HS ⊢
           go_wp2_with fail
           go_roundw
           case rel => exact ⟨k, by simp, by omega, _, HS.out.1, HS.out.2, HST.out⟩
           case measure => simp [intOf]
          | false =>
           have hend : Hid (d5 = d3) := by
            have h1 := HE3.out
            unfold shiftDown at h1
            rw [HX.out.1, HX.out.2, ← HLT.out, if_pos (by simp)] at h1
            exact h1
           go_wp2_with fail
           go_meet
           exact ⟨rfl, by rw [← hend.out]; exact HU2.out⟩
         ·obtain rfl : j = 0 := by omega
          have hX : Hid (d5 = d3) := hE
          have HU := hide hU
          clear hU hs hE HJ
          go_wp2_with fail
          go_meet
          exact ⟨rfl, by rw [← hX.out]; exact HU.out⟩
       ·have h2I : ¬ (2 : Int) ≤ (i2 : Int) - a := by omega
        have hX : Hid (d3 = d2) := by rw [HD3.out]; unfold fixDown; rw [if_neg h2]; exact hide rfl
        go_wp2_with fail
        go_meet
        exact ⟨rfl, by rw [hX.out]; exact HU3.out.1⟩
      case rest =>
       rename_i wc0
       obtain ⟨rfl, HU4⟩ := hcut
       clear HU3 HD3
       have hwr : IntKind.i64.wrap ((s : Int) + 1) = (s : Int) + 1 := Sha.wrap_i64 _ (by omega) (by omega)
       by_cases h2 : b - i2 ≥ 2
       ·have h2I : (2 : Int) ≤ (b : Int) - i2 := by omega
        have HJ0 : Hid (Us 49 W g d3 wc ∧ d3.size = N ∧ shiftUp ltInt b (i2 + 1) d3 = d4) := ⟨HU4.out, hs3.out, by rw [HD4.out]; unfold fixUp; rw [if_pos h2]⟩
        clear HU4 HD4 hs3
        go_wp2_with fail
        go_loopw [10] (fun v10 wr => ∃ (j : Nat), v10 = .int .i64 j ∧ 1 ≤ j ∧ j ≤ b ∧ Hid (∃ d', Us 49 W g d' wr ∧ d'.size = N ∧ shiftUp ltInt b j d' = d4)) (fun v10 _ => b + 1 - (intOf v10).toNat)
        case atStart => exact ⟨i2 + 1, by simp, by omega, by omega, d3, HJ0.out⟩
        case round =>
         obtain ⟨j, rfl, hj1, hjb, HJ⟩ := hrel
         clear HJ0
         obtain ⟨d5, hU, hs, hE⟩ := HJ.out
         by_cases hjl : j < b
         ·obtain ⟨k, rfl⟩ : ∃ k, j = k + 1 := ⟨j - 1, by omega⟩
          have hk0 : (0 : Int) ≤ k := by omega
          have hk01 : (1 : Int) ≤ (k : Int) + 1 := by omega
          have hkN : (k : Int) + 1 < N := by omega
          have hkN2 : (k : Int) < N := by omega
          have hkb : (k : Int) + 1 < b := by omega
          have hcx : ((k + 1 : Nat) : Int) = (k : Int) + 1 := by omega
          rw [hcx]
          clear hcx
          have c1 := hU.cell (i := k + 1) (by omega)
          have c2 := hU.cell (i := k) (by omega)
          have f1 := hU.fz (k + 1)
          have f2 := hU.fz k
          have hsw := fun (v : World) (hv : Us 49 W g d5 v) => hv.swp (i := k + 1) (j := k) (by omega) (by omega)
          have hss := Srt.swp_size d5 (k + 1) k
          have HU := hide (And.intro hU (And.intro hs (And.intro hsw hss)))
          have HL := hide (fun v => less_any d5[k + 1]! d5[k]! v)
          have HE3 := hide hE
          generalize hx1 : d5[k + 1]! = x1 at c1 c2 HL
          generalize hx2 : d5[k]! = x2 at c1 c2 HL
          have HX := hide (And.intro hx1 hx2)
          clear hU hs hE hsw hss hx1 hx2 HJ
          have r1 := cell_regrown c1
          have r2 := cell_regrown c2
          obtain ⟨lt, hlt⟩ : ∃ lt, lt = ltInt x1 x2 := ⟨_, rfl⟩
          rw [← hlt] at HL
          have HLT := hide hlt
          clear hlt
          go_upto_region 22 with fail
          refine QuietCalls.region (by kernel_rfl) (by kernel_rfl) ?_
          iterate 9 (first | go_big_quiet_step (fail) | quiet_step (fail))
          refine QuietCalls.call rfl 135 #[.int .u64 x1, .int .u64 x2] (.bool lt) (fun v _ => (HL.out v).mono fun e w' hh => ⟨hh.1, hh.2 ▸ Below.refl _ _⟩) (fun v => by go_simp) ?_; simp only [Act.put, List.setIfInBounds_toArray, List.set_cons_succ, List.set_cons_zero]
          iterate 1 (first | go_big_quiet_step (fail) | quiet_step (fail))
          refine wpQuiet_nil ?_
          intro w2 k2
          have HU2 := hide (HU.out.1.below k2)
          have d1c := HU2.out.cell (i := k + 1) (by rw [HU.out.2.1]; omega)
          have d2c := HU2.out.cell (i := k) (by rw [HU.out.2.1]; omega)
          have g1 := HU2.out.fz (k + 1)
          have g2 := HU2.out.fz k
          rw [HX.out.1] at d1c
          rw [HX.out.2] at d2c
          clear k2 c1 c2 r1 r2 f1 f2 HL
          cases lt with
          | true =>
           have hstep : shiftUp ltInt b (k + 1 + 1) (Sort.swp d5 (k + 1) k) = d4 := by
            have h1 := HE3.out
            rw [Srt.shiftUp_go hjl (by rw [Nat.add_sub_cancel, HX.out.1, HX.out.2, ← HLT.out]), Nat.add_sub_cancel] at h1
            exact h1
           have HST := hide hstep
           clear hstep
           go_upto_region 23 with fail
           go_region
           have HS := hide (And.intro (((HU.out.2.2.1 w2 HU2.out).below ((Below.refl _ _).drew))) (HU.out.2.2.2.trans HU.out.2.1))
           rw [HX.out.1, HX.out.2] at HS
           clear d1c d2c g1 g2
           generalize ((w2.setCell ⟨g, k + 1, none⟩ (.int .u64 x2)).setCell ⟨g, k, none⟩ (.int .u64 x1)).drew = w3 at HS ⊢
           go_wp2_with fail
           go_roundw
           case rel => exact ⟨k + 1 + 1, by simp, by omega, by omega, _, HS.out.1, HS.out.2, HST.out⟩
           case measure => simp [intOf]; omega
          | false =>
           have hend : Hid (d5 = d4) := by
            have h1 := HE3.out
            rw [shiftUp_end (.inr (by rw [Nat.add_sub_cancel, HX.out.1, HX.out.2, ← HLT.out]))] at h1
            exact h1
           go_wp2_with fail
           go_roundw
           case rel => exact ⟨i2, s + 1, rfl, by simp, by omega, hi2b, by omega, d4, by rw [← hend.out]; exact HU2.out, hs4.out, by rw [HT.out]; exact HE2.out⟩
           case measure => simp [intOf]; omega
         ·obtain rfl : j = b := by omega
          have hX : Hid (d5 = d4) := by
           rw [shiftUp_end (.inl (by omega))] at hE
           exact hE
          have HU := hide hU
          clear hU hs hE HJ
          have hjj : ¬ (j : Int) < j := by omega
          go_wp2_with fail
          go_roundw
          case rel => exact ⟨i2, s + 1, rfl, by simp, by omega, hi2b, by omega, d4, by rw [← hX.out]; exact HU.out, hs4.out, by rw [HT.out]; exact HE2.out⟩
          case measure => simp [intOf]; omega
       ·have h2I : ¬ (2 : Int) ≤ (b : Int) - i2 := by omega
        have hX : Hid (d4 = d3) := by rw [HD4.out]; unfold fixUp; rw [if_neg h2]; exact hide rfl
        go_wp2_with fail
        go_roundw
        case rel => exact ⟨i2, s + 1, rfl, by simp, by omega, hi2b, by omega, d4, by rw [hX.out]; exact HU4.out, hs4.out, by rw [HT.out]; exact HE2.out⟩
        case measure => simp [intOf]; omega
  ·obtain rfl : s = 5 := by omega
   have hR : Hid (R = (d1, false)) := by
    have h1 : partialIns ltInt a b 0 i d1 = R := hE
    exact h1.symm
   have HU := hide hU
   clear hU hs hE
   go_wp2_with fail
   go_ret
   rw [hR.out]
   exact ⟨rfl, HU.out⟩
end Go.Proofs.YtnbhchdaobimmaaGreatDoor
/- Contracts: breaking patterns: some other order of the same numbers. -/
namespace Go.Srt
open Go.RowKit Go.Sort
/-- A number whose low bits are taken is small. -/
theorem and_small (n : Int) (c : Nat) (hc : c < 1000) : ∃ m : Nat, m ≤ c ∧ bits .and .u64 n (c : Int) = (m : Int) := by
 have h1 : (BitVec.ofInt 64 n &&& BitVec.ofInt 64 (c : Int)).toNat ≤ c := by
  rw [BitVec.toNat_and]
  refine Nat.le_trans Nat.and_le_right ?_
  simp
  omega
 refine ⟨(BitVec.ofInt 64 n &&& BitVec.ofInt 64 (c : Int)).toNat, h1, ?_⟩
 have e : bits .and .u64 n (c : Int) = IntKind.u64.wrap ((BitVec.ofInt 64 n &&& BitVec.ofInt 64 (c : Int)).toNat : Int) := rfl
 rw [e]
 generalize (BitVec.ofInt 64 n &&& BitVec.ofInt 64 (c : Int)).toNat = m at h1
 simp [IntKind.wrap, IntKind.bits, IntKind.signed]
 omega
theorem byte_wraps (b : UInt8) : wrap64 (wrap64 ((b.toNat : Nat) : Int)) = ((b.toNat : Nat) : Int) := by
 have := b.toNat_lt
 unfold wrap64; omega
theorem len_of (S : ByteArray) (x : Nat) (h : x < S.size) (hx : 1 ≤ x) (hS : ∀ n, (h : n < S.size) → 1 ≤ n → (S[n]).toNat = Nat.log2 n + 1) : wrap64 (wrap64 ((((S[x]).toNat : Nat)) : Int)) = ((Nat.log2 x + 1 : Nat) : Int) := by
 rw [byte_wraps, hS x h hx]
/-- The row, and a number in a block of its own. -/
structure Xs (T X : TypeId) (W : World) (g : Nat) (d : Array Int) (sb : Nat) (w : World) : Prop where
 us : Us T W g d w
 ls : W.heap.size ≤ sb
 box : ∃ x : Int, w.heap[sb]? = some (.cells #[.int .u64 x] X (0, 0))
variable {T X : TypeId} {W w w' : World} {g sb : Nat} {d : Array Int}
theorem Xs.below (h : Xs T X W g d sb w) (k : Below w.heap.size w w') : Xs T X W g d sb w' := by
 obtain ⟨x, hx⟩ := h.box
 exact ⟨h.us.below k, h.ls, x, (k.block _ (Array.getElem?_eq_some_iff.1 hx).1).trans hx⟩
theorem Xs.set (h : Xs T X W g d sb w) (n : Int) : Xs T X W g d sb (w.setCell ⟨sb, 0, none⟩ (.int .u64 n)) := by
 obtain ⟨x, hx⟩ := h.box
 exact ⟨h.us.setOther h.ls _, h.ls, n, by rw [heap_setCell_same _ _ _ _ _ _ hx]; rfl⟩
theorem Xs.swp (h : Xs T X W g d sb w) {i j : Nat} (hi : i < d.size) (hj : j < d.size) : Xs T X W g (Sort.swp d i j) sb ((w.setCell ⟨g, i, none⟩ (.int .u64 d[j]!)).setCell ⟨g, j, none⟩ (.int .u64 d[i]!)) := by
 obtain ⟨x, hx⟩ := h.box
 have hne : sb ≠ g := by have := h.us.lt; have := h.ls; omega
 exact ⟨h.us.swp hi hj, h.ls, x, (heap_setCell_other _ _ _ _ hne).trans ((heap_setCell_other _ _ _ _ hne).trans hx)⟩
theorem Xs.c (h : Xs T X W g d sb w) : ∃ x : Int, w.cell? ⟨sb, 0, none⟩ = some (.int .u64 x) := by
 obtain ⟨x, hx⟩ := h.box
 exact ⟨x, (cell_of_row _ _ _ _ _ _ hx).trans rfl⟩
theorem Xs.f (h : Xs T X W g d sb w) : w.frozen? ⟨sb, 0, none⟩ = false := by
 obtain ⟨x, hx⟩ := h.box
 exact frozen_of_row _ _ _ _ _ hx
end Go.Srt
namespace Go.Proofs.YtnbhchdaobimmaaGreatDoor
open Go.RowKit Go.Sort Go.Srt Go.Mov
attribute [local go_sem] Oper.semAt_some
set_option maxRecDepth 100000 in
theorem len64_any (x : Nat) (w : World) (hx : 1 ≤ x) (hx2 : x < 256) :
  Calls Tryz.prog 98 #[.int .u64 x] w fun e w' => e = .returned (.int .i64 (Nat.log2 x + 1 : Nat)) ∧ w' = w := by
 have hx3 : (x : Int) < 256 := by omega
 have hx0 : (0 : Int) ≤ x := by omega
 go_enter Tryz.func98, Tryz.ntmps98
 have hc1 : ¬ ((4294967296 : Int) ≤ x) := by omega
 have hc2 : ¬ ((65536 : Int) ≤ x) := by omega
 have hc3 : ¬ ((256 : Int) ≤ x) := by omega
 iterate 21 go_step
 refine wp_cond_split rfl (fun h => (by cases h)) (fun _ => ?_)
 iterate 62 go_step
 go_ret
 refine ⟨?_, rfl⟩
 refine congrArg (fun z => Ending.returned (Value.int .i64 z)) ?_
 exact len_of _ x _ hx (by decide +kernel)
set_option maxRecDepth 100000 in
theorem len_any (x : Nat) (w : World) (hx : 1 ≤ x) (hx2 : x < 256) :
  Calls Tryz.prog 62 #[.int .u64 x] w fun e w' => e = .returned (.int .i64 (Nat.log2 x + 1 : Nat)) ∧ w' = w := by
 have H := hide (len64_any x w hx hx2)
 go_enter Tryz.func62, Tryz.ntmps62
 go_wp2_with (go_at_call 98; refine H.out.mono ?_; rintro e w' ⟨rfl, hw⟩; subst hw)
 go_ret
 exact ⟨rfl, rfl⟩
set_option maxRecDepth 100000 in
theorem pow_any (n : Nat) (w : World) (hn : 1 ≤ n) (hn2 : n < 256) :
  Calls Tryz.prog 118 #[.int .i64 n] w fun e w' => (∃ K : Nat, 1 ≤ K ∧ K ≤ 2 * n ∧ e = .returned (.int .u64 K)) ∧ w' = w := by
 have H := hide (len_any n w hn hn2)
 have hk : Nat.log2 n < 8 := by
  refine (Nat.log2_lt (by omega)).2 ?_
  show n < 2 ^ 8
  omega
 have HK : Hid (2 ^ Nat.log2 n ≤ n) := Nat.log2_self_le (by omega)
 generalize Nat.log2 n = j at *
 have hn3 : (n : Int) < 256 := by omega
 have hn0 : (0 : Int) ≤ n := by omega
 have hj : (j : Int) < 8 := by omega
 go_enter Tryz.func118, Tryz.ntmps118
 go_wp2_with (go_at_call 62; refine H.out.mono ?_; rintro e w' ⟨rfl, hw⟩; subst hw)
 go_ret
 refine ⟨⟨2 ^ (j + 1), Nat.one_le_two_pow, by rw [Nat.pow_succ]; have := HK.out; omega, congrArg (fun z => Ending.returned (Value.int .u64 z)) ?_⟩, rfl⟩
 have h2 : 2 ^ (j + 1) ≤ 2 ^ 8 := Nat.pow_le_pow_right (by omega) (by omega)
 have h3 : ((2 ^ (j + 1) : Nat) : Int) = (2 : Int) ^ (j + 1) := by simp
 rw [← h3]
 clear h3 HK H
 generalize 2 ^ (j + 1) = X at h2 ⊢
 simp [IntKind.wrap, IntKind.bits, IntKind.signed]
 omega
set_option maxHeartbeats 4000000 in
set_option maxRecDepth 100000 in
theorem next_any {W : World} {g sb : Nat} (d : Array Int) (w : World) (h : Xs 49 189 W g d sb w) :
  Calls Tryz.prog 119 #[.pointer (some ⟨sb, 0, none⟩)] w fun e w' => (∃ r : Int, e = .returned (.int .u64 r)) ∧ Xs 49 189 W g d sb w' := by
 have HX := hide h
 obtain ⟨x, c⟩ := h.c
 have f := h.f
 clear h
 go_enter Tryz.func119, Tryz.ntmps119
 go_upto_region 1 with fail
 go_region
 generalize bits BinOp.xor IntKind.u64 x (IntKind.u64.wrap (x * 8192)) = x1
 have HX1 := hide ((HX.out.set x1).below (Below.refl _ _).drew)
 clear c f HX
 generalize (World.setCell w _ _).drew = w1 at HX1 ⊢
 have f := HX1.out.f
 obtain ⟨y1, c⟩ := HX1.out.c
 go_upto_region 2 with fail
 go_region
 generalize bits BinOp.xor IntKind.u64 y1 (y1 / 128) = x2
 have HX2 := hide ((HX1.out.set x2).below (Below.refl _ _).drew)
 clear c f HX1
 generalize (World.setCell w1 _ _).drew = w2 at HX2 ⊢
 have f := HX2.out.f
 obtain ⟨y2, c⟩ := HX2.out.c
 go_upto_region 3 with fail
 go_region
 generalize bits BinOp.xor IntKind.u64 y2 (IntKind.u64.wrap (y2 * 131072)) = x3
 have HX3 := hide ((HX2.out.set x3).below (Below.refl _ _).drew)
 clear c f HX2
 generalize (World.setCell w2 _ _).drew = w3 at HX3 ⊢
 have f := HX3.out.f
 obtain ⟨y3, c⟩ := HX3.out.c
 go_wp2_with fail
 go_ret
 exact ⟨⟨y3, rfl⟩, HX3.out⟩
set_option maxHeartbeats 4000000 in
set_option maxRecDepth 100000 in
theorem break_any {W : World} {g c : Nat} (a b : Nat) (d : Array Int) (w : World) (h : Us 49 W g d w) (hab : a + 13 ≤ b) (hb : b ≤ d.size) (hd : d.size < 256) (hc : d.size ≤ c) :
  Calls Tryz.prog 131 #[.slice (some ⟨g, 0, none⟩) d.size c, .int .i64 a, .int .i64 b] w fun e w' => e = .returned (.tuple #[]) ∧ ∃ d', PermIn a b d d' ∧ Us 49 W g d' w' := by
 obtain ⟨N, hN⟩ : ∃ N, N = d.size := ⟨_, rfl⟩
 obtain ⟨l, hl⟩ : ∃ l, l = b - a := ⟨_, rfl⟩
 obtain ⟨q, hq⟩ : ∃ q, q = l / 4 := ⟨_, rfl⟩
 have rl : (b : Int) - (a : Int) = (l : Int) := by omega
 have rq : (l : Int).tdiv 4 = (q : Int) := by rw [Int.tdiv_eq_ediv_of_nonneg (by omega)]; omega
 rw [← hN] at hb hd hc ⊢
 have hNI : (N : Int) < 256 := by omega
 have hcI : (N : Int) ≤ c := by omega
 have ha0 : (0 : Int) ≤ a := by omega
 have haI : (a : Int) ≤ 256 := by omega
 have hbI : (b : Int) ≤ 256 := by omega
 have hl8 : (8 : Int) ≤ l := by omega
 have hlI : (l : Int) ≤ 256 := by omega
 have hq0 : (3 : Int) ≤ q := by omega
 have hqI : (q : Int) ≤ 64 := by omega
 have hql : 4 * q ≤ l := by omega
 have hal : a + l = b := by omega
 have hl2 : l < 256 := by omega
 have hl1 : 1 ≤ l := by omega
 obtain ⟨s, hs⟩ : ∃ s, s = a + q * 2 - 1 := ⟨_, rfl⟩
 have rs : (a : Int) + (q : Int) * 2 - 1 = (s : Int) := by omega
 have rs2 : (a : Int) + (q : Int) * 2 + 1 = (s : Int) + 2 := by omega
 have hs1 : a ≤ s ∧ s + 2 < b := by omega
 have hsI : (s : Int) ≤ 256 := by omega
 have HP := hide (fun v => pow_any l v hl1 hl2)
 have HU0 : Hid (Xs 49 189 W g d w.heap.size (w.alloc (.cells #[.int .u64 l] 189)) ∧ d.size = N) := ⟨⟨h.below ((Below.refl _ w).alloc (Nat.le_refl _) _), h.size, l, heap_alloc_new w _⟩, hN.symm⟩
 clear h hN hl hq hs
 go_enter Tryz.func131, Tryz.ntmps131
 go_wp2_with (go_at_call 118; refine (HP.out _).mono ?_; rintro e w1 ⟨⟨K, hK1, hK2, rfl⟩, hw1⟩; have HW1 := hide hw1; clear HP hw1)
 have rK : (K : Int) - 1 = ((K - 1 : Nat) : Int) := by omega
 have hKI : (K : Int) ≤ 512 := by omega
 have hK0 : (1 : Int) ≤ K := by omega
 have HU1 : Hid (Xs 49 189 W g d w.heap.size w1 ∧ d.size = N ∧ PermIn a b d d) := ⟨by rw [HW1.out]; exact HU0.out.1, HU0.out.2, permIn_refl d a b⟩
 clear HU0 HW1
 have HND := hide hd
 generalize w.heap.size = sb at HU1 ⊢
 go_loopw [9] (fun v wr => ∃ x : Nat, v = .int .i64 x ∧ s ≤ x ∧ x ≤ s + 3 ∧ Hid (∃ d', Xs 49 189 W g d' sb wr ∧ d'.size = N ∧ PermIn a b d d')) (fun v _ => s + 3 - (intOf v).toNat)
 case atStart => exact ⟨s, by simp, by omega, by omega, d, HU1.out⟩
 case round =>
  obtain ⟨x, rfl, hx1, hx2, HI⟩ := hrel
  clear HU1
  obtain ⟨d1, hX, hs1d, hPM⟩ := HI.out
  have HX := hide hX
  have HPM := hide hPM
  clear HI hX hPM
  have hx0 : (0 : Int) ≤ x := by omega
  by_cases hxs : x ≤ s + 2
  ·have hxsI : (x : Int) ≤ (s : Int) + 2 := by omega
   have hxN : (x : Int) < N := by omega
   go_upto_region 8 with (go_at_call 119; refine (next_any d1 _ HX.out).mono ?_; rintro e w2 ⟨⟨r, rfl⟩, hX2⟩; have HX2 := hide hX2; obtain ⟨m, hm, hmE⟩ := Srt.and_small r (K - 1) (by omega); have hmI : (m : Int) ≤ 512 := (by omega); have hm0 : (0 : Int) ≤ m := (by omega); clear hX2 HX)
   clear hmE rK
   by_cases hml : l ≤ m
   ·obtain ⟨o, ho⟩ : ∃ o, o = m - l := ⟨_, rfl⟩
    have hmlI : (l : Int) ≤ m := by omega
    have ro : (m : Int) - l = (o : Int) := by omega
    have hol : o < l := by omega
    obtain ⟨y, hy⟩ : ∃ y, y = a + o := ⟨_, rfl⟩
    have roa : (a : Int) + (o : Int) = (y : Int) := by omega
    have hyN : (y : Int) < N := by omega
    have hy0 : (0 : Int) ≤ y := by omega
    have hyb : a ≤ y ∧ y < b := by omega
    clear hy
    clear ho
    have c1 := HX2.out.us.cell (i := x) (by omega)
    have c2 := HX2.out.us.cell (i := y) (by omega)
    have f1 := HX2.out.us.fz x
    have f2 := HX2.out.us.fz y
    have HSW := hide (And.intro (HX2.out.swp (i := x) (j := y) (by omega) (by omega)) (And.intro ((Srt.swp_size d1 x y).trans hs1d) (permIn_trans _ _ _ _ _ HPM.out (swp_permIn d1 a b x y (by omega) (by omega) (by omega) (by omega) (by omega)))))
    by_cases hsame : x = y
    ·subst hsame
     generalize d1[x]! = y1 at c1 c2 HSW
     clear hs1d
     go_upto_region 10 with fail
     go_region
     have HU4 := hide (And.intro (HSW.out.1.below ((Below.refl _ _).drew)) HSW.out.2)
     clear HSW c1 c2 f1 f2
     generalize (World.setCell _ _ _).drew = w4 at HU4 ⊢
     go_wp2_with fail
     go_roundw
     case rel => exact ⟨x + 1, by simp, by omega, by omega, _, HU4.out.1, HU4.out.2.1, HU4.out.2.2⟩
     case measure => simp [intOf]; omega
    ·have hne1 : ¬ x = y := hsame
     have hne2 : ¬ y = x := fun e => hsame e.symm
     generalize d1[x]! = y1 at c1 HSW
     generalize d1[y]! = y2 at c2 HSW
     clear hs1d
     go_upto_region 10 with fail
     go_region
     have HU4 := hide (And.intro (HSW.out.1.below ((Below.refl _ _).drew)) HSW.out.2)
     clear HSW c1 c2 f1 f2
     generalize (World.setCell _ _ _).drew = w4 at HU4 ⊢
     go_wp2_with fail
     go_roundw
     case rel => exact ⟨x + 1, by simp, by omega, by omega, _, HU4.out.1, HU4.out.2.1, HU4.out.2.2⟩
     case measure => simp [intOf]; omega
   ·have hmlI : ¬ (l : Int) ≤ m := by omega
    have hol : m < l := by omega
    obtain ⟨y, hy⟩ : ∃ y, y = a + m := ⟨_, rfl⟩
    have roa : (a : Int) + (m : Int) = (y : Int) := by omega
    have hyN : (y : Int) < N := by omega
    have hy0 : (0 : Int) ≤ y := by omega
    have hyb : a ≤ y ∧ y < b := by omega
    clear hy
    have c1 := HX2.out.us.cell (i := x) (by omega)
    have c2 := HX2.out.us.cell (i := y) (by omega)
    have f1 := HX2.out.us.fz x
    have f2 := HX2.out.us.fz y
    have HSW := hide (And.intro (HX2.out.swp (i := x) (j := y) (by omega) (by omega)) (And.intro ((Srt.swp_size d1 x y).trans hs1d) (permIn_trans _ _ _ _ _ HPM.out (swp_permIn d1 a b x y (by omega) (by omega) (by omega) (by omega) (by omega)))))
    by_cases hsame : x = y
    ·subst hsame
     generalize d1[x]! = y1 at c1 c2 HSW
     clear hs1d
     go_upto_region 10 with fail
     go_region
     have HU4 := hide (And.intro (HSW.out.1.below ((Below.refl _ _).drew)) HSW.out.2)
     clear HSW c1 c2 f1 f2
     generalize (World.setCell _ _ _).drew = w4 at HU4 ⊢
     go_wp2_with fail
     go_roundw
     case rel => exact ⟨x + 1, by simp, by omega, by omega, _, HU4.out.1, HU4.out.2.1, HU4.out.2.2⟩
     case measure => simp [intOf]; omega
    ·have hne1 : ¬ x = y := hsame
     have hne2 : ¬ y = x := fun e => hsame e.symm
     generalize d1[x]! = y1 at c1 HSW
     generalize d1[y]! = y2 at c2 HSW
     clear hs1d
     go_upto_region 10 with fail
     go_region
     have HU4 := hide (And.intro (HSW.out.1.below ((Below.refl _ _).drew)) HSW.out.2)
     clear HSW c1 c2 f1 f2
     generalize (World.setCell _ _ _).drew = w4 at HU4 ⊢
     go_wp2_with fail
     go_roundw
     case rel => exact ⟨x + 1, by simp, by omega, by omega, _, HU4.out.1, HU4.out.2.1, HU4.out.2.2⟩
     case measure => simp [intOf]; omega
  ·obtain rfl : x = s + 3 := by omega
   have hxsI : ¬ ((s + 3 : Nat) : Int) ≤ (s : Int) + 2 := by omega
   go_wp2_with fail
   go_end0
   exact ⟨rfl, d1, HPM.out, HX.out.us⟩
end Go.Proofs.YtnbhchdaobimmaaGreatDoor
/- Contracts: the whole sort of a row of 64-bit numbers. -/
namespace Go.Srt
open Go.RowKit Go.Sort
/-- What is left of the work on a..b at d is work on a2..b2 at d2. -/
def Todo (a b : Nat) (d : Array Int) (a2 b2 : Nat) (d2 : Array Int) : Prop :=
 ∀ R, PermIn a2 b2 d2 R → SortedIn ltInt a2 b2 R → PermIn a b d R ∧ SortedIn ltInt a b R
/-- Sorted from a to b, all else as it was. -/
def SortTo (T : TypeId) (W : World) (g a b : Nat) (d : Array Int) (w : World) : Prop := ∃ d', PermIn a b d d' ∧ SortedIn ltInt a b d' ∧ Us T W g d' w
theorem choose_mid {d : Array Int} {a b : Nat} (h : a + 13 ≤ b) : a < (choosePivot ltInt d a b).1 ∧ (choosePivot ltInt d a b).1 + 1 < b := by
 unfold choosePivot
 dsimp only
 obtain ⟨l, hl⟩ : ∃ l, l = b - a := ⟨_, rfl⟩
 obtain ⟨q, hq⟩ : ∃ q, q = l / 4 := ⟨_, rfl⟩
 rw [← hl, ← hq, if_pos (by omega)]
 split
 ·have h1 := medianAdjacent_mem ltInt d (a + q * 1) 0
  generalize medianAdjacent ltInt d (a + q * 1) 0 = r1 at *
  have h2 := medianAdjacent_mem ltInt d (a + q * 2) r1.2
  generalize medianAdjacent ltInt d (a + q * 2) r1.2 = r2 at *
  have h3 := medianAdjacent_mem ltInt d (a + q * 3) r2.2
  generalize medianAdjacent ltInt d (a + q * 3) r2.2 = r3 at *
  have h4 := median_mem ltInt d r1.1 r2.1 r3.1 r3.2
  omega
 ·have h4 := median_mem ltInt d (a + q * 1) (a + q * 2) (a + q * 3) 0
  omega
end Go.Srt
namespace Go.Proofs.YtnbhchdaobimmaaGreatDoor
open Go.RowKit Go.Sort Go.Srt Go.Mov
attribute [local go_sem] Oper.semAt_some
set_option maxHeartbeats 4000000 in
set_option maxRecDepth 100000 in
theorem pdq_round {W : World} {g c N : Nat} (hN : N < 256) (hc : N ≤ c) (a b k : Nat) (d : Array Int) (w : World)
  (IH : ∀ (a2 b2 k2 : Nat) (d2 : Array Int) (w2 : World), b2 - a2 < b - a → a2 ≤ b2 → b2 ≤ N → d2.size = N → k2 ≤ 1000 → Sort.Below ltInt a2 b2 d2 → Us 49 W g d2 w2 →
   Calls Tryz.prog 113 #[.slice (some ⟨g, 0, none⟩) N c, .int .i64 a2, .int .i64 b2, .int .i64 k2] w2 fun e w' => e = .returned (.tuple #[]) ∧ SortTo 49 W g a2 b2 d2 w')
  (hab : a ≤ b) (hb : b ≤ N) (hd : d.size = N) (hk : k ≤ 1000) (hB : Sort.Below ltInt a b d) (hU : Us 49 W g d w) :
  Calls Tryz.prog 113 #[.slice (some ⟨g, 0, none⟩) N c, .int .i64 a, .int .i64 b, .int .i64 k] w fun e w' => e = .returned (.tuple #[]) ∧ SortTo 49 W g a b d w' := by
 have HIH := hide IH
 have hNI : (N : Int) < 256 := by omega
 have hcI : (N : Int) ≤ c := by omega
 have HU0 : Hid (Us 49 W g d w ∧ d.size = N ∧ Sort.Below ltInt a b d ∧ Todo a b d a b d) := ⟨hU, hd, hB, fun R h1 h2 => ⟨h1, h2⟩⟩
 clear IH hU hd hB
 go_enter Tryz.func113, Tryz.ntmps113
 go_wp2_with fail
 go_loopw [1, 2, 3, 8, 9] (fun v1 v2 v3 v8 v9 wr => ∃ (a1 b1 k1 : Nat) (wb wp : Bool), v1 = .int .i64 a1 ∧ v2 = .int .i64 b1 ∧ v3 = .int .i64 k1 ∧ v8 = .bool wb ∧ v9 = .bool wp ∧ a ≤ a1 ∧ a1 ≤ b1 ∧ b1 ≤ b ∧ k1 ≤ 1000 ∧ Hid (∃ d', Us 49 W g d' wr ∧ d'.size = N ∧ Sort.Below ltInt a1 b1 d' ∧ Todo a b d a1 b1 d')) (fun v1 v2 _ _ _ _ => (intOf v2 - intOf v1).toNat)
 case atStart => exact ⟨a, b, k, true, true, rfl, rfl, rfl, rfl, rfl, Nat.le_refl _, hab, Nat.le_refl _, hk, d, HU0.out⟩
 case round =>
  obtain ⟨a1, b1, k1, wb, wp, rfl, rfl, rfl, rfl, rfl, ha1, hab1, hb1, hk1, HI⟩ := hrel
  clear HU0
  obtain ⟨d1, hU, hs, hB, hR⟩ := HI.out
  have HU := hide hU
  have HS := hide hs
  have HB := hide hB
  have HR := hide hR
  clear HI hU hs hB hR
  obtain ⟨l, hl⟩ : ∃ l, l = b1 - a1 := ⟨_, rfl⟩
  have rl : (b1 : Int) - (a1 : Int) = (l : Int) := by omega
  have hbI : (b1 : Int) < 256 := by omega
  have haI : (a1 : Int) < 256 := by omega
  have ha0 : (0 : Int) ≤ a1 := by omega
  have hb0 : (0 : Int) ≤ b1 := by omega
  have hl0 : (0 : Int) ≤ l := by omega
  have hlI : (l : Int) < 256 := by omega
  have hal : a1 + l = b1 := by omega
  clear hl
  by_cases h12 : l ≤ 12
  ·have h12I : (l : Int) ≤ 12 := by omega
   have hI := insSort_any (c := c) a1 b1 d1 wr HU.out (by rw [HS.out]; omega) (by rw [HS.out]; omega) (by rw [HS.out]; exact hc) hab1
   rw [HS.out] at hI
   have HC := hide hI
   clear hI
   go_wp2_with (go_at_call 129; refine HC.out.mono ?_; rintro e w' ⟨rfl, k1⟩; have K1 := hide k1; clear k1 HC)
   refine bodyPost_ret (results_none rfl _ _ _) rfl ?_
   obtain ⟨p1, p2⟩ := insertionSort_holds (lt := ltInt) swo_ltInt d1 a1 b1 hab1 (by rw [HS.out]; omega)
   obtain ⟨q1, q2⟩ := HR.out _ p1 p2
   exact ⟨rfl, _, q1, q2, K1.out⟩
  ·have h12I : ¬ (l : Int) ≤ 12 := by omega
   by_cases hk0 : k1 = 0
   ·subst hk0
    have hI := heapSort_any (c := c) a1 b1 d1 wr HU.out (by omega) (by rw [HS.out]; omega) (by rw [HS.out]; omega) (by rw [HS.out]; exact hc)
    rw [HS.out] at hI
    have HC := hide hI
    clear hI
    go_wp2_with (go_at_call 130; refine HC.out.mono ?_; rintro e w' ⟨rfl, k1⟩; have K1 := hide k1; clear k1 HC)
    refine bodyPost_ret (results_none rfl _ _ _) rfl ?_
    obtain ⟨p1, p2⟩ := heapSort_holds (lt := ltInt) swo_ltInt d1 a1 b1 hab1 (by rw [HS.out]; omega)
    obtain ⟨q1, q2⟩ := HR.out _ p1 p2
    exact ⟨rfl, _, q1, q2, K1.out⟩
   ·have hk0I : ¬ (k1 : Int) = 0 := by omega
    have hkI : (k1 : Int) ≤ 1000 := by omega
    have hkI1 : (1 : Int) ≤ k1 := by omega
    have hkm : (k1 : Int) - 1 = ((k1 - 1 : Nat) : Int) := by omega
    go_upto_if 35 with fail
    go_cut [3] (fun v wx => ∃ k2 : Nat, v = .int .i64 k2 ∧ k2 ≤ 1000 ∧ Hid (∃ d2, PermIn a1 b1 d1 d2 ∧ Us 49 W g d2 wx))
    case first =>
     cases wb with
     | true =>
      go_wp2_with fail
      go_meet
      exact ⟨k1, rfl, hk1, d1, permIn_refl _ _ _, HU.out⟩
     | false =>
      have hI := break_any (c := c) a1 b1 d1 wr HU.out (by omega) (by rw [HS.out]; omega) (by rw [HS.out]; omega) (by rw [HS.out]; exact hc)
      rw [HS.out] at hI
      have HC := hide hI
      clear hI
      go_wp2_with (go_at_call 131; refine HC.out.mono ?_; rintro e w' ⟨rfl, k1⟩; have K1 := hide k1; clear k1 HC)
      go_meet
      exact ⟨k1 - 1, rfl, by omega, K1.out⟩
    case rest =>
     obtain ⟨k2, rfl, hk2, HD⟩ := hcut
     obtain ⟨d2, hp2, hU2⟩ := HD.out
     have hs2 : d2.size = N := hp2.1.trans HS.out
     have HU2 := hide hU2
     have HP2 := hide hp2
     have HS2 := hide hs2
     clear HD HU hp2 hU2 hs2 hkm hk0I
     have hI := choose_any (cp := c) a1 b1 d2 wc HU2.out (by omega) (by rw [HS2.out]; omega) (by rw [HS2.out]; omega) (by rw [HS2.out]; exact hc)
     have hpm := choose_mid (d := d2) (a := a1) (b := b1) (by omega)
     rw [HS2.out] at hI
     generalize choosePivot ltInt d2 a1 b1 = ch at hI hpm
     obtain ⟨p, hh⟩ := ch
     dsimp only at hI hpm
     have HC := hide hI
     clear hI HU2
     go_upto_if 50 with (go_at_call 132; refine HC.out.mono ?_; rintro e w3 ⟨rfl, k1⟩; have HU2 := hide k1; clear k1 HC)
     go_cut [11, 12] (fun v v2 wx => ∃ (p2 : Nat) (h2 : Int), v = .int .i64 p2 ∧ v2 = .int .i64 h2 ∧ a1 < p2 ∧ p2 < b1 ∧ Hid (∃ d3, PermIn a1 b1 d1 d3 ∧ Us 49 W g d3 wx))
     case first =>
      have hp0 : (0 : Int) ≤ p := by omega
      have hpI : (p : Int) < 256 := by omega
      cases hh with
      | unknown =>
       have hz : (hintN .unknown == 2) = false := rfl
       go_wp2_with fail
       go_meet
       exact ⟨p, _, rfl, rfl, by omega, by omega, d2, HP2.out, HU2.out⟩
      | increasing =>
       have hz : (hintN .increasing == 2) = false := rfl
       go_wp2_with fail
       go_meet
       exact ⟨p, _, rfl, rfl, by omega, by omega, d2, HP2.out, HU2.out⟩
      | decreasing =>
       have hz : (hintN .decreasing == 2) = true := rfl
       have hI := reverse_any (c := c) a1 b1 d2 w3 HU2.out (by omega) (by rw [HS2.out]; omega) (by rw [HS2.out]; omega) (by rw [HS2.out]; exact hc)
       rw [HS2.out] at hI
       have HC := hide hI
       have HP3 := hide (permIn_trans _ _ _ _ _ HP2.out (reverseRange_holds d2 a1 b1 hab1 (by rw [HS2.out]; omega)))
       clear hI
       obtain ⟨p2, hp2⟩ : ∃ p2, p2 = (b1 - 1) - (p - a1) := ⟨_, rfl⟩
       have rp : (b1 : Int) - 1 - ((p : Int) - a1) = (p2 : Int) := by omega
       have hpp : a1 < p2 ∧ p2 < b1 := by omega
       clear hp2
       go_wp2_with (go_at_call 133; refine HC.out.mono ?_; rintro e w' ⟨rfl, k1⟩; have K1 := hide k1; clear k1 HC)
       go_meet
       exact ⟨p2, 1, rfl, rfl, hpp.1, hpp.2, _, HP3.out, K1.out⟩
     case rest =>
      rename_i wc0 _
      obtain ⟨p2, h2, rfl, rfl, hp2a, hp2b, HD⟩ := hcut
      obtain ⟨d3, hp3, hU3⟩ := HD.out
      have hs3 : d3.size = N := hp3.1.trans HS.out
      have HU3 := hide hU3
      have HP3 := hide hp3
      have HS3 := hide hs3
      clear HD HU2 HP2 HS2 hp3 hU3 hs3
      obtain ⟨W0, hW0⟩ : ∃ W0, W0 = wc := ⟨_, rfl⟩
      rw [← hW0] at HU3
      have HW0 := hide hW0.symm
      clear hW0
      go_upto_region 15 with fail
      go_cut [68] (fun v wx => (∃ t : Bool, v = .bool t) ∧ Hid (wx = W0))
      case first =>
       cases wb with
       | false =>
        go_wp2_with fail
        go_meet
        exact ⟨⟨_, rfl⟩, HW0.out⟩
       | true =>
        cases wp with
        | false =>
         go_wp2_with fail
         go_meet
         exact ⟨⟨_, rfl⟩, HW0.out⟩
        | true =>
         go_wp2_with fail
         go_meet
         exact ⟨⟨_, rfl⟩, HW0.out⟩
      case rest =>
       obtain ⟨⟨t, rfl⟩, hwc⟩ := hcut
       clear HW0
       obtain rfl : wc = W0 := hwc.out
       clear hwc
       go_upto_if 68 with fail
       go_cut [11] (fun v wx => v = .int .i64 p2 ∧ Hid (∃ d4, PermIn a1 b1 d1 d4 ∧ Us 49 W g d4 wx))
       case first =>
        cases t with
        | false =>
         go_wp2_with fail
         go_meet
         exact ⟨rfl, d3, HP3.out, HU3.out⟩
        | true =>
         have hI := partial_any (c := c) a1 b1 d3 wc HU3.out (by omega) (by rw [HS3.out]; omega) (by rw [HS3.out]; omega) (by rw [HS3.out]; exact hc)
         obtain ⟨p1, p2'⟩ := partialInsertionSort_holds (lt := ltInt) swo_ltInt d3 a1 b1 (by omega) (by rw [HS3.out]; omega) (HB.out.perm (by rw [HS.out]; omega) HP3.out)
         rw [HS3.out] at hI
         generalize partialInsertionSort ltInt d3 a1 b1 = Q at hI p1 p2'
         obtain ⟨d4, r⟩ := Q
         dsimp only at hI p1 p2'
         have HC := hide hI
         have HQ := hide (And.intro (permIn_trans _ _ _ _ _ HP3.out p1) p2')
         clear hI p1 p2'
         cases r with
         | true =>
          go_wp2_with (go_at_call 134; refine HC.out.mono ?_; rintro e w' ⟨rfl, k1⟩; have K1 := hide k1; clear k1 HC)
          refine bodyPost_ret (results_none rfl _ _ _) rfl ?_
          obtain ⟨q1, q2⟩ := HR.out _ HQ.out.1 (HQ.out.2 (by trivial))
          exact ⟨rfl, _, q1, q2, K1.out⟩
         | false =>
          go_wp2_with (go_at_call 134; refine HC.out.mono ?_; rintro e w' ⟨rfl, k1⟩; have K1 := hide k1; clear k1 HC)
          go_meet
          exact ⟨rfl, d4, HQ.out.1, K1.out⟩
       case rest =>
        rename_i wc1 _ _
        obtain ⟨rfl, HD⟩ := hcut
        obtain ⟨d4, hp4, hU4⟩ := HD.out
        have hs4 : d4.size = N := hp4.1.trans HS.out
        have HU4 := hide hU4
        have HP4 := hide hp4
        have HS4 := hide hs4
        clear HD HU3 HP3 HS3 hp4 hU4 hs4
        have hp20 : (0 : Int) ≤ p2 := by omega
        have hp2I : (p2 : Int) < N := by omega
        go_upto_region 17 with fail
        go_cut [87] (fun v wx => (∃ t : Bool, v = .bool t ∧ Hid (t = true → 0 < a1 ∧ ltInt d4[a1 - 1]! d4[p2]! = false)) ∧ Hid (Us 49 W g d4 wx))
        case first =>
         by_cases hz : 0 < a1
         ·have hzI : (0 : Int) < a1 := by omega
          have ram : (a1 : Int) - 1 = ((a1 - 1 : Nat) : Int) := by omega
          have c1 := HU4.out.cell (i := a1 - 1) (by rw [HS4.out]; omega)
          have c2 := HU4.out.cell (i := p2) (by rw [HS4.out]; omega)
          have HLl := hide (fun v => less_any d4[a1 - 1]! d4[p2]! v)
          obtain ⟨l, hl⟩ : ∃ l, l = ltInt d4[a1 - 1]! d4[p2]! := ⟨_, rfl⟩
          rw [← hl] at HLl
          have HLT := hide hl
          generalize d4[a1 - 1]! = y1 at c1 HLl
          generalize d4[p2]! = y2 at c2 HLl
          have r1 := cell_regrown c1
          have r2 := cell_regrown c2
          clear hl
          refine QuietCalls.region (by kernel_rfl) (by kernel_rfl) ?_
          iterate 12 (first | go_big_quiet_step (fail) | quiet_step (fail))
          refine QuietCalls.call rfl 135 #[.int .u64 y1, .int .u64 y2] (.bool l) (fun v _ => (HLl.out v).mono fun e w' hh => ⟨hh.1, hh.2 ▸ Below.refl _ _⟩) (fun v => by go_simp) ?_; simp only [Act.put, List.setIfInBounds_toArray, List.set_cons_succ, List.set_cons_zero]
          iterate 2 (first | go_big_quiet_step (fail) | quiet_step (fail))
          refine wpQuiet_nil ?_
          intro w5 k5
          have HU5 := hide (HU4.out.below k5)
          clear k5 c1 c2 r1 r2 HLl
          cases l with
          | true =>
           go_wp2_with fail
           go_meet
           exact ⟨⟨_, rfl, by intro h; simp at h⟩, HU5.out⟩
          | false =>
           go_wp2_with fail
           go_meet
           exact ⟨⟨_, rfl, fun _ => ⟨hz, HLT.out.symm⟩⟩, HU5.out⟩
         ·have hzI : ¬ (0 : Int) < a1 := by omega
          refine QuietCalls.region (by kernel_rfl) (by kernel_rfl) ?_
          iterate 15 (first | go_big_quiet_step (fail) | quiet_step (fail))
          refine wpQuiet_nil ?_
          intro w5 k5
          have HU5 := hide (HU4.out.below k5)
          clear k5
          go_wp2_with fail
          go_meet
          exact ⟨⟨_, rfl, by intro h; simp at h⟩, HU5.out⟩
        case rest =>
         rename_i wc2
         obtain ⟨⟨t, rfl, HT⟩, HU5⟩ := hcut
         clear HU4
         have hB4 := HB.out.perm (by rw [HS.out]; omega) HP4.out
         cases t with
         | true =>
          obtain ⟨hz, hnl⟩ := HT.out rfl
          have hI := partEq_any (c := c) a1 b1 p2 d4 wc HU5.out (by omega) (by rw [HS4.out]; omega) hp2a hp2b (by rw [HS4.out]; omega) (by rw [HS4.out]; exact hc)
          rw [HS4.out] at hI
          obtain ⟨mid, d5, hm⟩ : ∃ mid d5, partitionEqual ltInt d4 a1 b1 p2 = (mid, d5) := ⟨_, _, rfl⟩
          obtain ⟨h1, h2, h3, h4, h5⟩ := round_eq swo_ltInt (partitionEqual_holds ltInt) hz (by omega) hp2b (by rw [HS4.out]; omega) hB4 hnl hm
          rw [hm] at hI
          dsimp only at hI
          have HC := hide hI
          have HF := hide (And.intro (h3.trans HS4.out) (And.intro h4 h5))
          clear hI hm h3 h4 h5 hnl hB4 HT
          go_wp2_with (go_at_call 136; refine HC.out.mono ?_; rintro e w' ⟨rfl, k1⟩; have K1 := hide k1; clear k1 HC)
          go_roundw
          case rel => exact ⟨mid, b1, k2, wb, wp, rfl, rfl, rfl, rfl, rfl, by omega, h2, hb1, hk2, d5, K1.out, HF.out.1, HF.out.2.1, fun R hR hs => HR.out R (permIn_trans _ _ _ _ _ HP4.out (HF.out.2.2 R hR hs).1) (HF.out.2.2 R hR hs).2⟩
          case measure => simp [intOf]; omega
         | false =>
          have hI := part_any (c := c) a1 b1 p2 d4 wc HU5.out (by omega) (by rw [HS4.out]; omega) hp2a hp2b (by rw [HS4.out]; omega) (by rw [HS4.out]; exact hc)
          rw [HS4.out] at hI
          obtain ⟨mid, ap, d5, hm⟩ : ∃ mid ap d5, partition ltInt d4 a1 b1 p2 = (mid, ap, d5) := ⟨_, _, _, rfl⟩
          obtain ⟨h1, h2, h3, hBl, hBr, hRl, hRr⟩ := round_part swo_ltInt (partition_holds ltInt) (by omega) hp2b (by rw [HS4.out]; omega) hB4 hm
          rw [hm] at hI
          dsimp only at hI
          have HC := hide hI
          have hs5 : d5.size = N := h3.trans HS4.out
          clear hI hm h3 hB4 HT
          obtain ⟨x, hx⟩ : ∃ x, x = mid - a1 := ⟨_, rfl⟩
          obtain ⟨y, hy⟩ : ∃ y, y = b1 - mid := ⟨_, rfl⟩
          have rx : (mid : Int) - (a1 : Int) = (x : Int) := by omega
          have ry : (b1 : Int) - (mid : Int) = (y : Int) := by omega
          obtain ⟨q, hq⟩ : ∃ q, q = l / 8 := ⟨_, rfl⟩
          have rq : (l : Int).tdiv 8 = (q : Int) := by rw [Int.tdiv_eq_ediv_of_nonneg (by omega)]; omega
          have hmI : (mid : Int) < 256 := by omega
          have hm0 : (0 : Int) ≤ mid := by omega
          clear hx hy hq
          go_upto_if 113 with (go_at_call 137; refine HC.out.mono ?_; rintro e w6 ⟨rfl, k1⟩; have HU6 := hide k1; clear k1 HC)
          by_cases hlr : x < y
          ·have hlrI : (x : Int) < y := by omega
           have hI := HIH.out a1 mid k2 d5 w6 (by omega) (by omega) (by omega) hs5 hk2 hBl HU6.out
           have HC := hide hI
           have HREC := hide hRl
           clear hI hBl hBr hRl hRr
           go_wp2_with (go_at_call 113; refine HC.out.mono ?_; rintro e w' ⟨rfl, k1⟩; have K1 := hide k1; clear k1 HC)
           obtain ⟨L, l1, l2, l3⟩ := K1.out
           obtain ⟨m1, m2⟩ := HREC.out L l1 l2
           have HF := hide (And.intro l3 (And.intro (l1.1.trans hs5) (And.intro m1 m2)))
           clear K1 l1 l2 l3 m1 m2
           go_roundw
           case rel => exact ⟨mid + 1, b1, k2, _, ap, by go_num, by first | rfl | go_num, rfl, rfl, rfl, by omega, by omega, by omega, hk2, L, HF.out.1, HF.out.2.1, HF.out.2.2.1, fun R hR hs => HR.out R (permIn_trans _ _ _ _ _ HP4.out (HF.out.2.2.2 R hR hs).1) (HF.out.2.2.2 R hR hs).2⟩
           case measure => simp [intOf]; omega
          ·have hlrI : ¬ (x : Int) < y := by omega
           have hI := HIH.out (mid + 1) b1 k2 d5 w6 (by omega) (by omega) (by omega) hs5 hk2 hBr HU6.out
           have HC := hide hI
           have HREC := hide hRr
           clear hI hBl hBr hRl hRr
           have hm1 : (((mid + 1 : Nat)) : Int) = (mid : Int) + 1 := by omega
           rw [hm1] at HC
           clear hm1
           go_wp2_with (go_at_call 113; refine HC.out.mono ?_; rintro e w' ⟨rfl, k1⟩; have K1 := hide k1; clear k1 HC)
           obtain ⟨L, l1, l2, l3⟩ := K1.out
           obtain ⟨m1, m2⟩ := HREC.out L l1 l2
           have HF := hide (And.intro l3 (And.intro (l1.1.trans hs5) (And.intro m1 m2)))
           clear K1 l1 l2 l3 m1 m2
           go_roundw
           case rel => exact ⟨a1, mid, k2, _, ap, by go_num, by first | rfl | go_num, rfl, rfl, rfl, by omega, by omega, by omega, hk2, L, HF.out.1, HF.out.2.1, HF.out.2.2.1, fun R hR hs => HR.out R (permIn_trans _ _ _ _ _ HP4.out (HF.out.2.2.2 R hR hs).1) (HF.out.2.2.2 R hR hs).2⟩
           case measure => simp [intOf]; omega
set_option maxRecDepth 100000 in
theorem pdq_any {W : World} {g c N : Nat} (hN : N < 256) (hc : N ≤ c) : ∀ (n a b k : Nat) (d : Array Int) (w : World), b - a ≤ n → a ≤ b → b ≤ N → d.size = N → k ≤ 1000 → Sort.Below ltInt a b d → Us 49 W g d w →
  Calls Tryz.prog 113 #[.slice (some ⟨g, 0, none⟩) N c, .int .i64 a, .int .i64 b, .int .i64 k] w fun e w' => e = .returned (.tuple #[]) ∧ SortTo 49 W g a b d w' := by
 intro n
 induction n with
 | zero => exact fun a b k d w hn hab hb hd hk hB hU => pdq_round hN hc a b k d w (fun a2 b2 _ _ _ h => absurd h (by omega)) hab hb hd hk hB hU
 | succ n ih => exact fun a b k d w hn hab hb hd hk hB hU => pdq_round hN hc a b k d w (fun a2 b2 k2 d2 w2 h => ih a2 b2 k2 d2 w2 (by omega)) hab hb hd hk hB hU
end Go.Proofs.YtnbhchdaobimmaaGreatDoor
