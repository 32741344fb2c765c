/- Several texts in one: WalStruckWalk. -/
import Derived.Test.YtoineobjmllicaaGreatDoorStruckOne
import Derived.Test.YtoineobjmllicaaGreatDoorReadsOne
import Derived.Deep.CutBlock
/- The walk of WalStruck. -/
namespace Go.Wal
open Go.RowKit Go.Dk
def FallsAt (w : World) (v : Value) (L : List Fall) : Prop :=
  ∃ a c, v = .slice a L.length c ∧ L.length ≤ c ∧ ∀ j f, L[j]? = some f → ∃ b off, a = some ⟨b, off, none⟩ ∧ w.cell? ⟨b, off + j * 3, none⟩ = some (.int .i64 f.on) ∧ w.cell? ⟨b, off + j * 3 + 1, none⟩ = some (.int .i64 f.keep) ∧ w.cell? ⟨b, off + j * 3 + 2, none⟩ = some (.int .i64 f.torn)
end Go.Wal
namespace Go.Proofs.YtoineobjmllicaaGreatDoor
open Go.RowKit Go.Dk Go.Wal
/-- What the first loop keeps. -/
def Wl (w : World) (K i : Nat) (W : World) : Prop := ∃ (a : A) (R : Nat → Option Bs), Dw w w.heap.size K a W ∧ Laid a R i (fun _ => False)
set_option maxRecDepth 100000 in
set_option maxHeartbeats 8000000 in
theorem walStruck_any (v : Value) (L : List Sy) (fv : Value) (Q : List Fall) (w : World) (hL : SegsAt w v L) (hs : ∀ y ∈ L, y.ls.length ≤ maxLen ∧ (∀ l ∈ y.ls, l.length ≤ maxLen) ∧ y.rest.length ≤ maxLen) (_hn : L.length ≤ maxLen) (hQ : FallsAt w fv Q) (_hq : Q.length ≤ maxLen) (hv : Vars w) :
    Calls Tryz.prog 6 #[v, fv] w fun e w' => e = .returned (.bool true) ∧ Below w.heap.size w w' := by
  obtain ⟨va, vc, rfl, hvc, hcells⟩ := hL
  obtain ⟨fa, fc, rfl, hfc, hfcells⟩ := hQ
  have HV := hide hv
  have HC := hide hcells
  have HFC := hide hfcells
  have HS := hide hs
  clear hv hcells hs hfcells
  have HN := hide (playNew w)
  go_enter Tryz.func6, Tryz.ntmps6
  go_wp2_with (go_at_call 9; refine HN.out.mono ?_; rintro e w1 ⟨rfl, k1, k2⟩; have K1 : Hid (Dw w w.heap.size 0 A0 w1) := ⟨k1, k2⟩; clear k1 k2)
  clear HN
  go_loopw [6] (fun vi wr => ∃ (i K : Nat), i ≤ L.length ∧ (i : Int) ≤ 6 ∧ K ≤ i ∧ vi = .int .i64 i ∧ Hid (Wl w K i wr)) (fun vi _ => 6 - (intOf vi).toNat)
  case atStart =>
    refine ⟨0, 0, Nat.zero_le _, by omega, Nat.le_refl _, rfl, ⟨A0, fun _ => none, K1.out, ?_⟩⟩
    exact ⟨⟨by simp [A0, Rises], rfl, rfl⟩, fun n _ _ => rfl, fun k f h => by simp [A0, seek] at h, by decide, fun f h => by simp [A0] at h⟩
  case round =>
    clear K1
    obtain ⟨i, K, hi, hi6, hK, rfl, HF⟩ := hrel
    by_cases hlt : i < L.length ∧ (i : Int) < 6
    · obtain ⟨h1, h2⟩ := hlt
      have h1' : (i : Int) < L.length := by omega
      obtain ⟨a, R, hD, hLd⟩ := HF.out
      obtain ⟨y, hy⟩ : ∃ y, L[i]? = some y := ⟨_, List.getElem?_eq_getElem h1⟩
      obtain ⟨vb, voff, vj, rfl, hc0, hc1, hc2, hc3, hT⟩ := HC.out i y hy
      have q0 : wr.cell? ⟨vb, voff + i * 4, none⟩ = some (.int .i64 y.head) := (hD.below.cell (p := ⟨vb, voff + i * 4, none⟩) (cell_lt hc0)).trans hc0
      have hss := HS.out y (List.mem_of_getElem? hy)
      have hx2 : ∀ r ∈ cut7 y.ls, r.length ≤ 200 := fun r hr => cut7_few hr
      have hxl := cut7_length y.ls
      obtain ⟨ja, jn, jc, hvj⟩ : ∃ a n c, vj = .slice a n c := by obtain ⟨a, c, h, _⟩ := hT; exact ⟨a, _, c, h⟩
      subst hvj
      have HCUT : Hid (∀ W, Below w.heap.size w W → _) := fun W hW => cut7s_any (.slice ja jn jc) y.ls W (hT.below hW) hss.2.1 hss.1
      have HFEW : Hid (∀ W, _) := fun W => few7_any y.rest W hss.2.2
      have hfl7 := few7_length y.rest
      generalize cut7 y.ls = x at *
      generalize few7 y.rest = rs0 at *
      have HCC := hide (And.intro hc0 (And.intro hc1 hc2))
      have HD := hide hD
      have HLD := hide hLd
      have HX2 := hide hx2
      clear hD hLd hc0 hc1 hc2 hc3 hT hss hy hx2
      generalize y.head = h at q0
      go_upto_if 34 with fail
      go_cut [7] (fun v7 wx => ∃ (hb : Bool) (B : ByteArray), v7 = .string B ∧ Hid (B = ⟨(if hb = true then [66] else [71] : Bs).toArray⟩) ∧ wx = wr)
      case first =>
        by_cases hh2 : 2 < h
        · go_wp2
          go_meet
          exact ⟨false, _, rfl, hide rfl, rfl⟩
        · go_wp2
          go_meet
          exact ⟨true, _, rfl, hide rfl, rfl⟩
      case rest =>
        obtain ⟨hb, B, rfl, HB7, rfl⟩ := hcut
        clear q0
        obtain ⟨T8, HT8⟩ : ∃ T : ByteArray, Hid (T = ⟨(hd hb).toArray⟩) := ⟨_, hide rfl⟩
        have HHD : Hid (∀ W, Calls Tryz.prog 14 #[.string B] W fun e W' => e = .returned (.string T8) ∧ Below W.heap.size W W') := fun W => by rw [HB7.out, HT8.out]; exact handFrame _ W (by cases hb <;> decide)
        go_wp2_with (go_at_call 14; refine (HHD.out _).mono ?_; rintro e w4 ⟨rfl, k4⟩; have D4 := hide (HD.out.under k4); clear k4)
        clear HHD HB7 HD
        go_loopw [8, 9] (fun vt vk wk => ∃ (j : Nat) (Tj : ByteArray), j ≤ x.length ∧ Tj.size ≤ 17 + 217 * j ∧ vk = .int .i64 j ∧ vt = .string Tj ∧ Hid (Tj = ⟨(hd hb ++ frs (x.take j)).toArray⟩) ∧ Hid (Below w4.heap.size w4 wk)) (fun _ vk _ => x.length - (intOf vk).toNat)
        case atStart => exact ⟨0, T8, Nat.zero_le _, by rw [HT8.out, ba_size, hd_length]; omega, rfl, rfl, by show _ = _; rw [HT8.out]; simp [frs], Below.refl _ _⟩
        case round =>
          obtain ⟨j, Tj, hj, hTz, rfl, rfl, HTj, HBj⟩ := hrel
          have DJ := hide (D4.out.under HBj.out)
          have q1 : wr.cell? ⟨vb, voff + i * 4 + 1, none⟩ = some (.slice ja jn jc) := (DJ.out.below.cell (p := ⟨vb, voff + i * 4 + 1, none⟩) (cell_lt HCC.out.2.1)).trans HCC.out.2.1
          have HCU := hide (HCUT.out wr DJ.out.below)
          by_cases hjl : j < x.length
          · have hjl' : (j : Int) < x.length := by omega
            go_upto_region 12 with (go_at_call 12; refine HCU.out.mono ?_; rintro e w6 ⟨xg, xc, rfl, hown, k6⟩; have B6 := hide (HBj.out.trans (k6.mono HBj.out.size)); clear k6 hown)
            have D6 := hide (D4.out.under B6.out)
            have q1' : w6.cell? ⟨vb, voff + i * 4 + 1, none⟩ = some (.slice ja jn jc) := (D6.out.below.cell (p := ⟨vb, voff + i * 4 + 1, none⟩) (cell_lt HCC.out.2.1)).trans HCC.out.2.1
            have HCU2 := hide (HCUT.out w6 D6.out.below)
            obtain ⟨t, ht⟩ : ∃ t, x[j]? = some t := ⟨_, List.getElem?_eq_getElem hjl⟩
            have htl := HX2.out t (List.mem_of_getElem? ht)
            obtain ⟨G, HG⟩ : ∃ G : ByteArray, Hid (G = ⟨(fr (114 :: t)).toArray⟩) := ⟨_, hide rfl⟩
            have HFR : Hid (∀ W, Calls Tryz.prog 14 #[.string ((⟨#[114]⟩ : ByteArray) ++ ⟨t.toArray⟩)] W fun e W' => e = .returned (.string G) ∧ Below W.heap.size W W') := fun W => by
              rw [HG.out, show (⟨#[114]⟩ : ByteArray) ++ ⟨t.toArray⟩ = ⟨(114 :: t).toArray⟩ from ba_append [114] t]
              exact handFrame (114 :: t) W (by simp; omega)
            have hGz : G.size = 17 + t.length := by rw [HG.out, ba_size, fr_length]; simp; omega
            have hTG : (Tj ++ G).size = Tj.size + G.size := ByteArray.size_append ..
            have HTS : Hid (Tj ++ G = ⟨(hd hb ++ frs (x.take (j + 1))).toArray⟩) := by show _ = _; rw [HTj.out, HG.out, ba_append, frs_snoc x j t ht, List.append_assoc]
            have HQT : Hid (∀ (U : World) (g c : Nat), U.ownsRow w6.heap.size 9 1 (.slice (some ⟨g, 0, none⟩) x.length c) x.length (tv x) → U.cell? ⟨g, j, none⟩ = some (.string ⟨t.toArray⟩)) := fun U g c ho => by
              have := cells_of_own ho j (.string ⟨t.toArray⟩) (by unfold tv; rw [List.getElem?_map, ht]; rfl)
              rw [Go.WideShapes.add_plain, Nat.zero_add] at this
              exact this
            have hz : (⟨t.toArray⟩ : ByteArray).size = t.length := ba_size t
            clear ht q1 HCU
            generalize (⟨t.toArray⟩ : ByteArray) = X at *
            go_wp2_with (first
              | (go_at_call 12; refine HCU2.out.mono ?_; rintro e w7 ⟨yg, yc, rfl, hown, k7⟩; have qt := HQT.out _ _ _ hown; have B7 := hide (B6.out.trans (k7.mono B6.out.size)); clear k7 hown)
              | (go_at_call 14; refine (HFR.out _).mono ?_; rintro e w8 ⟨rfl, k8⟩; have B8 := hide (B7.out.trans (k8.mono B7.out.size)); clear k8))
            go_roundw
            case rel => exact ⟨j + 1, _, by omega, by omega, by go_num, rfl, HTS, B8⟩
            case measure => simp [intOf]; omega
          · have hjl' : ¬ ((j : Int) < x.length) := by omega
            have hje : j = x.length := by omega
            have HTE : Hid (Tj = ⟨(hd hb ++ frs x).toArray⟩) := by show _ = _; rw [HTj.out, hje, List.take_length]
            go_upto_region 13 with (go_at_call 12; refine HCU.out.mono ?_; rintro e w6 ⟨xg, xc, rfl, hown, k6⟩; have B6 := hide (HBj.out.trans (k6.mono HBj.out.size)); clear k6 hown)
            have D6 := hide (D4.out.under B6.out)
            have q2 : w6.cell? ⟨vb, voff + i * 4 + 2, none⟩ = some (.string ⟨y.rest.toArray⟩) := (D6.out.below.cell (p := ⟨vb, voff + i * 4 + 2, none⟩) (cell_lt HCC.out.2.2)).trans HCC.out.2.2
            obtain ⟨RS, HRS⟩ : ∃ RS : ByteArray, Hid (RS = ⟨rs0.toArray⟩) := ⟨_, hide rfl⟩
            have HF2 : Hid (∀ W, Below w6.heap.size w6 W → Calls Tryz.prog 29 #[.string ⟨y.rest.toArray⟩] W fun e w' => e = .returned (.string RS) ∧ Below W.heap.size W w') := fun W _ => by
              rw [HRS.out]
              refine (HFEW.out W).mono ?_
              rintro e w' ⟨he, rfl⟩
              exact ⟨he, Below.refl _ _⟩
            have hfrs := frs_len x HX2.out
            obtain ⟨a2, hput, hL2⟩ := HLD.out.seg (hd hb ++ frs x ++ rs0) (by rw [List.length_append, List.length_append, hd_length]; omega) (by omega)
            obtain ⟨DD, HDD⟩ : ∃ DD : ByteArray, Hid (DD = ⟨(Lib.decDigits (i + 1)).toArray⟩) := ⟨_, hide rfl⟩
            have hDz : DD.size ≤ 20 := by rw [HDD.out, ba_size]; exact dec_short _ (by omega)
            have hRz : RS.size ≤ 200 := by rw [HRS.out, ba_size]; exact hfl7
            have HIT : Hid (∀ W, Below w6.heap.size w6 W → Calls Tryz.prog 32 #[.int .i64 ((i : Int) + 1)] W fun e W' => e = .returned (.string DD) ∧ Below W.heap.size W W') := fun W hW => by
              have := handItoa (i + 1) W (Vars.below HV.out (D6.out.under hW).below) (by omega)
              rw [show ((i + 1 : Nat) : Int) = (i : Int) + 1 by omega, ← HDD.out] at this
              exact this
            have HWR : Hid (∀ W, Below w6.heap.size w6 W → Calls Tryz.prog 31 #[.pointer (some ⟨w.heap.size, 0, none⟩), .string ((⟨#[108, 111, 103, 46]⟩ : ByteArray) ++ DD), .string (Tj ++ RS)] W fun e W' => e = .returned (.int .i64 0) ∧ Dw w w.heap.size (K + 1) a2 W') := fun W hW => by
              have := handWrite w w.heap.size K a W (D6.out.under hW) (seg (i + 1)) (hd hb ++ frs x ++ rs0) (by omega) (by have := seg_length (i + 1) (by omega); omega) (by rw [List.length_append, List.length_append, hd_length]; omega)
              rw [hput] at this
              rw [HDD.out, HTE.out, HRS.out, show (⟨#[108, 111, 103, 46]⟩ : ByteArray) ++ ⟨(Lib.decDigits (i + 1)).toArray⟩ = ⟨(seg (i + 1)).toArray⟩ from ba_append logB _, ba_append]
              exact this.mono fun e W' ⟨h1, h2, _⟩ => ⟨h1, h2⟩
            have HL2 := hide hL2
            have hwr : IntKind.i64.wrap ((i : Int) + 1) = (i : Int) + 1 := Sha.wrap_i64 _ (by omega) (by omega)
            have r2 := cell_regrown q2
            clear hput hL2 q2 q1 HCU HBj B6 HTj HTE HRS HDD hfrs DJ HFEW HCUT
            refine QuietCalls.tail 13 (by kernel_rfl) (by kernel_rfl) ?_
            simp only [List.take_succ_cons, List.take_zero, List.drop_succ_cons, List.drop_zero]
            iterate 3 first | go_big_quiet_step (fail) | quiet_step (fail)
            refine QuietCalls.call1 rfl rfl Tryz.call32 (fun w' hb => HIT.out w' (by exact hb)) rfl ?_; simp only [Act.put, List.setIfInBounds_toArray, List.set_cons_succ, List.set_cons_zero]
            iterate 7 first | go_big_quiet_step (fail) | quiet_step (fail)
            refine QuietCalls.call1 rfl rfl Tryz.call29 (fun w' hb => HF2.out w' (by exact hb)) rfl ?_; simp only [Act.put, List.setIfInBounds_toArray, List.set_cons_succ, List.set_cons_zero]
            iterate 1 first | go_big_quiet_step (fail) | quiet_step (fail)
            refine wpQuiet_nil ?_
            intro w9 hb9
            have HW9 := hide (HWR.out w9 hb9)
            clear hb9 r2 HIT HF2 HWR
            go_wp2_with (go_at_call 31; refine HW9.out.mono ?_; rintro e w10 ⟨rfl, k10⟩; have D10 := hide k10; clear k10)
            go_roundw
            case rel => exact ⟨i + 1, K + 1, by omega, by omega, by omega, by go_num, ⟨a2, _, D10.out, HL2.out⟩⟩
            case measure => simp [intOf]; omega
    · obtain ⟨a, R, hD, hLd⟩ := HF.out
      have hex : ¬ ((i : Int) < L.length) ∨ ((i : Int) < L.length ∧ ¬ ((i : Int) < 6)) := by omega
      obtain ⟨hsy, l, hJ, hrec, hsg⟩ := hLd.js (by omega)
      have HSY : Hid (∀ W, Dw w w.heap.size K a W → Calls Tryz.prog 33 #[.pointer (some ⟨w.heap.size, 0, none⟩)] W fun e W' => e = .returned (.int .i64 0) ∧ Dw w w.heap.size K a.synced W') := fun W hW => by
        have := handSync w w.heap.size K a W hW
        rw [hsy] at this
        exact this.mono fun e W' ⟨h1, h2, _⟩ => ⟨h1, h2⟩
      have HD := hide hD
      have HJ := hide (And.intro hJ (And.intro hrec hsg))
      generalize a.synced = a3 at *
      clear hD hLd hlt HF hsy hJ hrec hsg
      obtain ⟨a4, tn, ho3, -⟩ := HJ.out.1.calm.openIs 100
      rw [HJ.out.1.gath] at ho3
      have HO3 := hide ho3
      clear ho3
      rcases hex with e1 | ⟨e1, e2⟩
      all_goals
        go_upto_region 17 with (go_at_call 33; refine (HSY.out _ HD.out).mono ?_; rintro e w2 ⟨rfl, k2⟩; have D2 := hide k2; clear k2)
        have HCL := hide (strClone D2.out HJ.out.1.firm HJ.out.1.fall (by omega))
        go_wp2_with (first
          | (go_at_call 34; refine HCL.out.mono ?_; rintro e w3 ⟨c1, rfl, k3, k4⟩; have E3 := hide k3; have D3 := hide k4; have hcn := k3.count; clear k3 k4)
          | (go_at_call 10; refine (handOpen w2 (Vars.below HV.out D2.out.below) c1 (2 * K) 100 a3 w3 E3.out (by decide) HJ.out.1.down HJ.out.1.sm HJ.out.1.few (by rw [HJ.out.1.gath]; exact HJ.out.2.1) (by omega) a4 l tn HO3.out HJ.out.1.gath).mono ?_; rintro e w4 ⟨b1, rv, rfl, k4, -⟩; have HW : Hid (Wf w K w2.heap.size b1 c1 l rv w4) := ⟨a3, HJ.out.1, D2.out.under k4.below, k4.log⟩; clear k4))
        clear E3 D3 HCL D2 HSY HD hcn
        go_loopw [13] (fun vi wr => ∃ (i K : Nat), i ≤ Q.length ∧ (i : Int) ≤ 6 ∧ K + 1 ≤ 8 * 2 ^ i ∧ vi = .int .i64 i ∧ Hid (Wf w K w2.heap.size b1 c1 l rv wr)) (fun vi _ => 6 - (intOf vi).toNat)
        case atStart => exact ⟨0, K, Nat.zero_le _, by omega, by omega, rfl, HW⟩
        case round =>
          clear HW
          obtain ⟨n, K2, hn, hn6, hK2, rfl, HG⟩ := hrel
          by_cases hlt : n < Q.length ∧ (n : Int) < 6
          · obtain ⟨h1, h2⟩ := hlt
            have h1' : (n : Int) < Q.length := (by omega)
            obtain ⟨aa, hJa, hDa, hLa⟩ := HG.out
            have hpw : 2 ^ n ≤ 2 ^ 6 := Nat.pow_le_pow_right (by decide) (by omega)
            have hcn := hDa.count
            obtain ⟨f, hf⟩ : ∃ f, Q[n]? = some f := ⟨_, List.getElem?_eq_getElem h1⟩
            obtain ⟨vb, voff, rfl, hc0, hc1, hc2⟩ := HFC.out n f hf
            have q0 : wr.cell? ⟨vb, voff + n * 3, none⟩ = some (.int .i64 f.on) := (hDa.below.cell (p := ⟨vb, voff + n * 3, none⟩) (cell_lt hc0)).trans hc0
            have q1 : wr.cell? ⟨vb, voff + n * 3 + 1, none⟩ = some (.int .i64 f.keep) := (hDa.below.cell (p := ⟨vb, voff + n * 3 + 1, none⟩) (cell_lt hc1)).trans hc1
            have q2 : wr.cell? ⟨vb, voff + n * 3 + 2, none⟩ = some (.int .i64 f.torn) := (hDa.below.cell (p := ⟨vb, voff + n * 3 + 2, none⟩) (cell_lt hc2)).trans hc2
            have HA := hide (And.intro hJa (And.intro hDa hLa))
            clear hJa hDa hLa hc0 hc1 hc2 hf HG
            generalize f.keep = kp at q1
            generalize f.torn = tr at q2
            generalize f.on = on at q0
            go_upto_if 102 with fail
            go_cut [] (fun wx => ∃ o2 : Int, Hid (Rn w K2 wr.heap.size aa ⟨o2, kp, tr⟩ w2.heap.size b1 c1 l rv wx))
            case first =>
              by_cases hon : on < 0
              · go_wp2
                go_meet
                exact ⟨0, Rn.new HA.out.2.1 rfl HA.out.2.2 ((Below.refl _ _).alloc (Nat.le_refl _) _) (heap_alloc_new _ _)⟩
              · go_wp2
                go_meet
                exact ⟨on, Rn.new HA.out.2.1 rfl HA.out.2.2 ((Below.refl _ _).alloc (Nat.le_refl _) _) (heap_alloc_new _ _)⟩
            case rest =>
              obtain ⟨o2, HR1⟩ := hcut
              have hgw : w.heap.size ≤ wr.heap.size := HA.out.2.1.below.size
              have HJA := hide HA.out.1
              clear HA q0 q1 q2
              generalize wr.heap.size = g at *
              have z0 : wc.cell? ⟨g, 0, none⟩ = some (.int .i64 o2) := (by rw [cell_of_row _ _ _ _ _ _ HR1.out.row]; rfl)
              have HCH : Hid (∀ U, Below wc.heap.size wc U → Calls Tryz.prog 25 #[.pointer (some ⟨w.heap.size, 0, none⟩)] U fun e W' => e = .returned (.int .i64 aa.changes) ∧ Below U.heap.size U W') := fun U hU => rnChanges (HR1.out.under hU)
              have r0 := cell_regrown z0
              go_upto_region 24 with fail
              refine QuietCalls.tail 7 (by kernel_rfl) (by kernel_rfl) ?_
              simp only [List.take_succ_cons, List.take_zero, List.drop_succ_cons, List.drop_zero]
              iterate 1 first | go_big_quiet_step (fail) | quiet_step (fail)
              refine QuietCalls.call1 rfl rfl Tryz.call25 (fun w' hb => HCH.out w' (by exact hb)) rfl ?_; simp only [Act.put, List.setIfInBounds_toArray, List.set_cons_succ, List.set_cons_zero]
              iterate 5 first | go_big_quiet_step (fail) | quiet_step (fail)
              refine wpQuiet_nil ?_
              intro w7 hb7
              have R7 := hide (HR1.out.under hb7)
              clear hb7 r0 z0 HCH HR1
              have z7 : w7.cell? ⟨g, 0, none⟩ = some (.int .i64 o2) := (by rw [cell_of_row _ _ _ _ _ _ R7.out.row]; rfl)
              have f7 : w7.frozen? ⟨g, 0, none⟩ = false := frozen_of_row _ _ _ _ _ R7.out.row
              go_upto_region 25 with fail
              have R8 := hide (R7.out.set hgw (wrap64 (aa.changes + o2.tmod 4)))
              clear R7 z7 f7
              generalize wrap64 (aa.changes + o2.tmod 4) = N at *
              obtain ⟨w8, hw8⟩ : ∃ w8, w8 = w7.setCell ⟨g, 0, none⟩ (.int .i64 N) := ⟨_, rfl⟩
              rw [← hw8] at R8 ⊢
              clear hw8
              have z0 : w8.cell? ⟨g, 0, none⟩ = some (.int .i64 N) := (by rw [cell_of_row _ _ _ _ _ _ R8.out.row]; rfl)
              have z1 : w8.cell? ⟨g, 1, none⟩ = some (.int .i64 kp) := (by rw [cell_of_row _ _ _ _ _ _ R8.out.row]; rfl)
              have z2 : w8.cell? ⟨g, 2, none⟩ = some (.int .i64 tr) := (by rw [cell_of_row _ _ _ _ _ _ R8.out.row]; rfl)
              have HPL := hide (rnPlan (R8.out.under ((Below.refl _ w8).alloc (Nat.le_refl _) (.cells #[.int .i64 N, .int .i64 kp, .int .i64 tr] 34))) w8.heap.size 1 (heap_alloc_new _ _))
              obtain ⟨a2, oo, tt, ee, ho2, hj2⟩ := HJA.out.struck ⟨N, kp, tr⟩ kp tr
              have HOPN : Hid (∀ W, Rn w K2 g { aa with fall := some ⟨N, kp, tr⟩ } ⟨N, kp, tr⟩ w2.heap.size b1 c1 l rv W → Calls Tryz.prog 10 #[.pointer (some ⟨w.heap.size, 0, none⟩), .int .i64 100] W fun e W' => (∃ v n m, e = .returned (.tuple #[v, .int .i64 n, .int .i64 m])) ∧ Rn w (K2 + aa.files.length + 1) g a2 ⟨N, kp, tr⟩ w2.heap.size b1 c1 l rv W') := fun W hW => (by
                have := rnOpen hW HV.out HJA.out.down HJA.out.sm HJA.out.few (by show (gatherOf aa.files 100).recs.length ≤ _; rw [HJA.out.gath]; exact HJ.out.2.1) (by show K2 + aa.files.length ≤ _; omega)
                rw [ho2] at this
                exact this)
              have HJ2 := hide hj2
              clear ho2 hj2
              go_upto_region 26 with (go_at_call 26; refine HPL.out.mono ?_; rintro e w10 ⟨rfl, k10⟩; have R10 := hide k10; clear k10)
              clear z0 z1 z2 HPL R8
              have HO10 := hide (HOPN.out w10 R10.out)
              clear HOPN
              go_upto_region 27 with (go_at_call 10; refine HO10.out.mono ?_; rintro e w11 ⟨⟨ov, oon, oom, rfl⟩, k11⟩; have R11 := hide k11; clear k11)
              have HO11 := hide (rnPlanNil R11.out)
              clear HO10 R10
              go_upto_region 28 with (go_at_call 26; refine HO11.out.mono ?_; rintro e w12 ⟨rfl, k12⟩; have R12 := hide k12; clear k12)
              clear HO11 R11
              have y1 : w12.cell? ⟨g, 1, none⟩ = some (.int .i64 kp) := (by rw [cell_of_row _ _ _ _ _ _ R12.out.row]; rfl)
              have y2 : w12.cell? ⟨g, 2, none⟩ = some (.int .i64 tr) := (by rw [cell_of_row _ _ _ _ _ _ R12.out.row]; rfl)
              have HO12 := hide (rnCrash R12.out kp tr)
              go_upto_region 29 with (go_at_call 16; refine HO12.out.mono ?_; rintro e w13 ⟨rfl, k13⟩; have R13 := hide k13; clear k13)
              have HO13 := hide (rnUp R13.out)
              clear HO12 R12 y1 y2 R13
              generalize { ({ a2 with fall := none } : A).crash kp tr with down := false } = a4' at *
              go_wp2_with (go_at_call 17; refine HO13.out.mono ?_; rintro e w14 ⟨⟨bb, rfl⟩, k14⟩; have R14 := hide k14; clear k14)
              clear HO13
              have hps : 2 ^ (n + 1) = 2 * 2 ^ n := (by rw [Nat.pow_succ]; omega)
              go_roundw
              case rel => exact ⟨n + 1, K2 + aa.files.length + 1, by omega, by omega, by omega, by go_num, ⟨_, HJ2.out, R14.out.back, R14.out.log⟩⟩
              case measure => simp [intOf]; omega
          · have hex2 : ¬ ((n : Int) < Q.length) ∨ ((n : Int) < Q.length ∧ ¬ ((n : Int) < 6)) := (by omega)
            obtain ⟨aa, hJa, hDa, hLa⟩ := HG.out
            have hpw : 2 ^ n ≤ 2 ^ 6 := Nat.pow_le_pow_right (by decide) (by omega)
            have hcn := hDa.count
            have HOE := hide (strLast hJa hDa hLa HV.out HJ.out.2.1 (by omega))
            clear hJa hDa hLa HG hlt
            rcases hex2 with g1 | ⟨g1, g2⟩
            all_goals
              go_upto_region 31 with (go_at_call 10; refine HOE.out.mono ?_; rintro e w5 ⟨b2, rv2, tm, rfl, k1, k2, k3⟩; have P5 := hide (And.intro k1 (And.intro k2 k3)); clear k1 k2 k3)
              have HAW := hide (walAwake_any w5 (Vars.below HV.out P5.out.2.2))
              clear HOE
              go_wp2_with (first
                | (go_at_call 11; refine HAW.out.mono ?_; rintro e w6 ⟨rfl, k6⟩; have P6 := hide (And.intro (P5.out.1.below k6) (And.intro (P5.out.2.1.below k6) (P5.out.2.2.trans (k6.mono P5.out.2.2.size)))); clear k6; have HA1 := hide (allRecs_any _ _ _ l rv w6 P6.out.2.1 HJ.out.2.1))
                | (go_at_call 20; refine HA1.out.mono ?_; rintro e w7 ⟨v7, rfl, o7, k7⟩; have P7 := hide (And.intro (P6.out.1.below k7) (And.intro (P6.out.2.1.below k7) (P6.out.2.2.trans (k7.mono P6.out.2.2.size)))); have T7 := hide (Texts.of_own o7); clear o7 k7 HA1; have HA2 := hide (allRecs_any _ _ _ l rv2 w7 P7.out.1 HJ.out.2.1))
                | (go_at_call 20; refine HA2.out.mono ?_; rintro e w8 ⟨v8, rfl, o8, k8⟩; have P8 := hide (And.intro (P7.out.1.below k8) (And.intro (P7.out.2.1.below k8) (P7.out.2.2.trans (k8.mono P7.out.2.2.size)))); have HSM := hide (same_any v7 v8 l.recs l.recs w8 (T7.out.below k8) (Texts.of_own o8) HJ.out.2.1); rw [decide_eq_true rfl] at HSM; clear o8 k8)
                | (go_at_call 19; refine HSM.out.mono ?_; rintro e w9 ⟨rfl, k9⟩; have P9 := hide (And.intro (P8.out.1.below k9) (And.intro (P8.out.2.1.below k9) (P8.out.2.2.trans (k9.mono P8.out.2.2.size)))); clear k9; have HS1 := hide (segsAny P9.out.2.1 HJ.out.2.2))
                | (go_at_call 23; refine HS1.out.mono ?_; rintro e w10 ⟨v10, rfl, n10, k10⟩; have P10 := hide (And.intro (P9.out.1.below k10) (P9.out.2.2.trans (k10.mono P9.out.2.2.size))); have N10 := hide n10; clear n10 k10 HS1; have HS2 := hide (segsAny P10.out.1 HJ.out.2.2))
                | (go_at_call 23; refine HS2.out.mono ?_; rintro e w11 ⟨v11, rfl, n11, k11⟩; have P11 := hide (P10.out.2.trans (k11.mono P10.out.2.size)); have HNB := hide (numbers_any v10 v11 (segsOf l) (segsOf l) w11 (N10.out.below k11) n11 (segs_len HJ.out.2.2)); rw [decide_eq_true rfl] at HNB; clear n11 k11)
                | (go_at_call 22; refine HNB.out.mono ?_; rintro e w12 ⟨rfl, k12⟩; have P12 := hide (P11.out.trans (k12.mono P11.out.size)); clear k12))
              go_ret
              exact ⟨rfl, P12.out⟩
end Go.Proofs.YtoineobjmllicaaGreatDoor
