/- The walk of WalPlays. -/
import Derived.Test.YtoineobjmllicaaGreatDoorWalFullWalk
import Derived.Test.YtoineobjmllicaaGreatDoorWlFive
import Derived.Test.YtoineobjmllicaaGreatDoorRegAll
import Derived.Deep.CutBlock
namespace Go.Wal
open Go.RowKit Go.Dk
/-- Something that is done. -/
structure Ay where
  kind : Int
  ls : List Bs
  keep : Int
  torn : Int
def ActsAt (w : World) (v : Value) (L : List Ay) : Prop :=
  ∃ a c, v = .slice a L.length c ∧ L.length ≤ c ∧ ∀ j y, L[j]? = some y → ∃ b off vj, a = some ⟨b, off, none⟩ ∧ w.cell? ⟨b, off + j * 5, none⟩ = some (.int .i64 y.kind) ∧ w.cell? ⟨b, off + j * 5 + 1, none⟩ = some vj ∧ w.cell? ⟨b, off + j * 5 + 3, none⟩ = some (.int .i64 y.keep) ∧ w.cell? ⟨b, off + j * 5 + 4, none⟩ = some (.int .i64 y.torn) ∧ Texts w vj y.ls
theorem iv_one {n : Nat} {u : Int} (h : (n : Int) = u) : iv [n] = [.int .i64 u] := by unfold iv; rw [← h]; rfl
theorem seg_cell {w W : World} {sb cnt sc first len q : Nat} (h : Sr w (.slice (some ⟨sb, 0, none⟩) cnt sc) (List.range' first len) W) (hq : q < len) : W.cell? ⟨sb, q, none⟩ = some (.int .i64 ((first + q : Nat) : Int)) := by
  obtain ⟨b, off, h1, _, h2⟩ := ints_at (Ints.of_own h) (j := q) (x := first + q) (by rw [List.getElem?_range' hq]; simp)
  cases h1
  rwa [Nat.zero_add] at h2
theorem logOf_size_ne {most first : Nat} {cs : List (List Bs)} (h : cs ≠ []) : (logOf most first cs).size = 17 + (frs (cs.getLastD [])).length := by rw [logOf_ne h]
end Go.Wal
namespace Go.Proofs.YtoineobjmllicaaGreatDoor
open Go.RowKit Go.Dk Go.Wal
/-- What WalPlays keeps between two rounds. -/
structure Pl (w : World) (n b K N R : Nat) (m : List Bs) (mv sv : Value) (cnt long : Nat) (wr : World) : Prop where
  all : ∃ (first : Nat) (cs : List (List Bs)) (a : A) (rv : Value), Pw Tryz.prog TLog w w.heap.size K b a (logOf n first cs) rv wr ∧ Ok a first cs ∧ Mr w rv mv m wr ∧ Sr w sv (List.range' first cs.length) wr ∧ cs.flatten = m ∧ cs.length = cnt ∧ (cs = [] → first = 1) ∧ first + cs.length ≤ N ∧ m.length ≤ R ∧ ¬ 0 ≤ a.room ∧ long = (logOf n first cs).size
set_option maxRecDepth 100000 in
set_option maxHeartbeats 8000000 in
theorem walPlays_any (most : Int) (v : Value) (L : List Ay) (w : World) (hL : ActsAt w v L) (hs : ∀ y ∈ L, y.ls.length ≤ maxLen ∧ ∀ l ∈ y.ls, l.length ≤ maxLen) (_hn : L.length ≤ maxLen) (hv : Vars w) :
    Calls Tryz.prog 3 #[.int .i64 most, v] w fun e w' => e = .returned (.bool true) ∧ Below w.heap.size w w' := by
  obtain ⟨va, vc, rfl, hvc, hcells⟩ := hL
  obtain ⟨i9, hi9, hz0, hz1, hz2⟩ := info_parts info_str
  obtain ⟨i3, hi3, hy0, hy1, hy2⟩ := info_parts info_int
  obtain ⟨n0, hn0, hand⟩ := and_some most 255 (by decide)
  have hand2 : bits .and .i64 most 255 = (n0 : Int) := hand
  clear hand
  obtain ⟨n, hn⟩ : ∃ n, n = n0 + 1 := ⟨_, rfl⟩
  have hnI : (n0 : Int) + 1 = (n : Int) := by omega
  have hn1 : 1 ≤ n := by omega
  have hn2 : n ≤ 256 := by omega
  clear hn
  have HV := hide hv
  have HC := hide hcells
  have HS := hide hs
  clear hv hcells hs
  have HN := hide (playNew w)
  have HO1 : Hid (∀ W, (∃ S : WD, S.a = A0 ∧ DiskAt Tryz.prog (fun _ => True) w.heap.size 0 w.heap.size W S) → Below w.heap.size w W → _) := fun W h1 h2 => playOpen w HV.out w.heap.size 0 n 1 [] A0 W h1 h2 ok0 hn1 (by decide) (by decide)
  have HAW : Hid (∀ W, Below w.heap.size w W → Calls Tryz.prog 11 #[] W fun e w' => e = .returned (.bool true) ∧ Below W.heap.size W w') := fun W h => walAwake_any W (Vars.below HV.out h)
  go_enter Tryz.func3, Tryz.ntmps3
  go_wp2_with (first
    | (go_at_call 9; refine HN.out.mono ?_; rintro e w1 ⟨rfl, k1, k2⟩; have K1 := hide (And.intro k1 k2); clear k1 k2)
    | (go_at_call 10; refine (HO1.out w1 K1.out.1 K1.out.2).mono ?_; rintro e w2 ⟨b, rv, rfl, k1, _⟩; have K2 := hide k1; clear k1)
    | (go_at_call 11; refine (HAW.out w2 K2.out.below).mono ?_; rintro e w3 ⟨rfl, k1⟩; have K3 := hide (K2.out.under k1); clear k1))
  clear HO1 HN K1 K2
  go_loopw [7, 8, 9, 10, 11, 12, 13] (fun v7 v8 v9 vm vs vl vi wr => ∃ (i b K mg mc sb sc cnt long : Nat) (m : List Bs), i ≤ L.length ∧ (i : Int) ≤ 40 ∧ K ≤ 2 + 50 * i ∧ vi = .int .i64 i ∧ v7 = .pointer (some ⟨b, 0, none⟩) ∧ v8 = .int .i64 0 ∧ v9 = .int .i64 0 ∧ vm = .slice (some ⟨mg, 0, none⟩) m.length mc ∧ vs = .slice (some ⟨sb, 0, none⟩) cnt sc ∧ vl = .int .i64 long ∧ Hid (Pl w n b K (2 + i) (6 * i) m (.slice (some ⟨mg, 0, none⟩) m.length mc) (.slice (some ⟨sb, 0, none⟩) cnt sc) cnt long wr)) (fun _ _ _ _ _ _ vi _ => 40 - (intOf vi).toNat)
  case atStart =>
    have hb1 : Below w3.heap.size w3 (w3.alloc (.cells #[] 9)) := (Below.refl _ _).alloc (Nat.le_refl _) _
    have hb2 : Below (w3.alloc (.cells #[] 9)).heap.size (w3.alloc (.cells #[] 9)) ((w3.alloc (.cells #[] 9)).alloc (.cells #[] 3)) := (Below.refl _ _).alloc (Nat.le_refl _) _
    have P1 := K3.out.under hb1
    refine ⟨0, b, _, w3.heap.size, 0, w3.heap.size + 1, 0, 0, 0, [], Nat.zero_le _, by omega, ?_, rfl, rfl, rfl, rfl, rfl, rfl, rfl, ⟨1, [], A0, rv, P1.under hb2, ok0, (Mr.fresh (m := []) K3.out.log (World.ownsRow_made w3 #[] 0 (Nat.le_refl _) (Nat.zero_le _) rfl) K3.out.below.size).under hb2, ?_, rfl, rfl, fun _ => rfl, by decide, by decide, by decide, rfl⟩⟩
    · decide
    · have := World.ownsRow_made (base := w.heap.size) (e := 3) (size := 1) (w3.alloc (.cells #[] 9)) #[] 0 P1.below.size (Nat.zero_le _) rfl
      rw [World.size_alloc] at this
      exact this
  case round =>
    clear K3
    obtain ⟨i, b, K, mg, mc, sb, sc, cnt, long, m, hi, hi40, hK, rfl, rfl, rfl, rfl, rfl, rfl, rfl, HF⟩ := hrel
    by_cases hlt : i < L.length ∧ (i : Int) < 40
    · obtain ⟨h1, h2⟩ := hlt
      have h1' : (i : Int) < L.length := by omega
      obtain ⟨first, cs, a, rv, hP, hO, hM, hR, hfl, hcnt, hone, hfw, hml, hroom, hlong⟩ := HF.out.all
      obtain ⟨y, hy⟩ : ∃ y, L[i]? = some y := ⟨_, List.getElem?_eq_getElem h1⟩
      obtain ⟨vb, voff, vj, rfl, hc0, hc1, hc3, hc4, hT⟩ := HC.out i y hy
      have q0 : wr.cell? ⟨vb, voff + i * 5, none⟩ = some (.int .i64 y.kind) := (hP.below.cell (p := ⟨vb, voff + i * 5, none⟩) (cell_lt hc0)).trans hc0
      have q1 : wr.cell? ⟨vb, voff + i * 5 + 1, none⟩ = some vj := (hP.below.cell (p := ⟨vb, voff + i * 5 + 1, none⟩) (cell_lt hc1)).trans hc1
      have hss := HS.out y (List.mem_of_getElem? hy)
      have HCUT := hide (cut7s_any vj y.ls wr (hT.below hP.below) hss.2 hss.1)
      have hx2 : ∀ r ∈ cut7 y.ls, r.length ≤ 200 := fun r hr => cut7_few hr
      have hxl := cut7_length y.ls
      obtain ⟨ja, jn, jc, hvj⟩ : ∃ a n c, vj = .slice a n c := by obtain ⟨a, c, h, _⟩ := hT; exact ⟨a, _, c, h⟩
      subst hvj
      generalize cut7 y.ls = x at *
      have HCC := hide (And.intro hc0 (And.intro hc3 hc4))
      have HP := hide hP
      have HM := hide hM
      have HR := hide hR
      have HO := hide hO
      have HX2 := hide hx2
      have HFL := hide hfl
      have HLG := hide hlong
      have HON := hide hone
      clear hP hM hO hR hc0 hc1 hc3 hc4 hT hss hy hx2 hfl hlong hone
      go_upto_block 2 with (go_at_call 12; refine HCUT.out.mono ?_; rintro e w4 ⟨xg, xc, rfl, hown, k1⟩; have P4 := hide (HP.out.under k1); have M4 := hide (HM.out.under k1); have R4 := hide (HR.out.under k1); have X4 := hide (Mr.fresh HP.out.log hown HP.out.below.size); have r0 := (k1.cell (p := ⟨vb, voff + i * 5, none⟩) (cell_lt q0)).trans q0; clear k1 hown)
      have HKT := hide (And.intro HCC.out.2.1 HCC.out.2.2)
      clear HCC q0 q1 HCUT HP HM HR
      generalize y.kind = kd at *
      generalize y.keep = kp at *
      generalize y.torn = tn at *
      go_cut [7, 8, 9, 10, 11, 12] (fun v7 v8 v9 vm vs vl w5 => ∃ (b K mg mc sb sc cnt long : Nat) (m : List Bs), K ≤ 2 + 50 * (i + 1) ∧ v7 = .pointer (some ⟨b, 0, none⟩) ∧ v8 = .int .i64 0 ∧ v9 = .int .i64 0 ∧ vm = .slice (some ⟨mg, 0, none⟩) m.length mc ∧ vs = .slice (some ⟨sb, 0, none⟩) cnt sc ∧ vl = .int .i64 long ∧ Hid (Pl w n b K (2 + (i + 1)) (6 * (i + 1)) m (.slice (some ⟨mg, 0, none⟩) m.length mc) (.slice (some ⟨sb, 0, none⟩) cnt sc) cnt long w5))
      case first =>
        by_cases hk4 : kd = 4
        · subst hk4
          have HRST := hide (playReset w HV.out w.heap.size K b n first cs a rv x xg xc w4 P4.out HO.out X4.out (Int.not_le.2 hroom) HX2.out hxl (by omega) HON.out (by omega))
          have HFB : Hid (∀ W, Calls Tryz.prog 14 #[.string ⟨#[66]⟩] W fun e w' => (∃ f : ByteArray, f.size = 17 ∧ e = .returned (.string f)) ∧ Below W.heap.size W w') := fun W => (rframe_any _ W (by decide)).mono fun _ _ ⟨he, hb⟩ => ⟨⟨_, by rw [Wire.frameB_size]; rfl, he⟩, hb⟩
          have hfrs := frs_len x HX2.out
          by_cases hc0 : cnt = 0
          · have hcs : cs = [] := List.length_eq_zero_iff.1 (by omega)
            have hf1 := HON.out hcs
            subst hc0
            have HVAL : Hid (((first + cs.length : Nat) : Int) = 1) := by show _ = _; rw [hcs]; simp; omega
            go_wp2_with (first
              | (go_at_call 13; refine HRST.out.mono ?_; rintro e w5 ⟨rv5, a5, rfl, p5, o5, r5, m5, s5⟩; have P5 := hide p5; have O5 := hide o5; have RM5 := hide r5; have X5 := hide (m5 _ _ X4.out); clear p5 o5 r5 m5 s5)
              | (go_at_call 14; refine (HFB.out _).mono ?_; rintro e w7 ⟨⟨f, hf, rfl⟩, k7⟩; have KA : Hid (Below w5.heap.size w5 (w5.alloc (.cells #[.int .i64 1] 3))) := (Below.refl _ _).alloc (Nat.le_refl _) _; have K7 := hide k7; have S7 : Hid (Sr w (.slice (some ⟨w5.heap.size, 0, none⟩) 1 1) [first + cs.length] w7) := (Sr.under (by show World.ownsRow _ _ _ _ _ _ _; rw [iv_one HVAL.out]; exact World.ownsRow_lit w5 #[.int .i64 1] 1 P5.out.below.size (by unfold maxLen; omega) rfl) k7); have P7 := hide ((P5.out.under KA.out).under k7); have X7 := hide ((X5.out.under KA.out).under k7); have HBY := hide (lawBytes_any _ x w7 X7.out.texts (fun l hl => by have := HX2.out l hl; omega) (by omega)); clear k7)
              | (go_at_call 15; refine HBY.out.mono ?_; rintro e w8 ⟨rfl, k8⟩; have P8 := hide (P7.out.under k8); have X8 := hide (X7.out.under k8); have S8 := hide (S7.out.under k8); clear k8))
            go_meet
            refine ⟨b, K + 3 + cs.length, xg, xc, w5.heap.size, 1, 1, 17 + (frs x).length, x, by omega, rfl, rfl, rfl, rfl, rfl, by first | rfl | go_num | (simp; done), ⟨first + cs.length, [x], a5, rv5, P8.out, O5.out, X8.out, S8.out, by simp, rfl, fun h => absurd h (by simp), by simp; omega, by omega, by rw [RM5.out]; exact Int.not_le.2 hroom, ?_⟩⟩
            rw [logOf_one, List.length_append, hd_length]
          · have hcI : (0 : Int) < cnt := by omega
            obtain ⟨q, hq⟩ : ∃ q, cnt = q + 1 := ⟨cnt - 1, by omega⟩
            have hqI : (cnt : Int) - 1 = (q : Int) := by omega
            have HVAL : Hid (((first + cs.length : Nat) : Int) = ((first + q : Nat) : Int) + 1) := by show _ = _; omega
            have hfq : first + q ≤ 900 := by omega
            go_wp2_with (first
              | (go_at_call 13; refine HRST.out.mono ?_; rintro e w5 ⟨rv5, a5, rfl, p5, o5, r5, m5, s5⟩; have P5 := hide p5; have O5 := hide o5; have RM5 := hide r5; have X5 := hide (m5 _ _ X4.out); have c5 := seg_cell (s5 _ _ R4.out) (q := q) (by omega); clear p5 o5 r5 m5 s5)
              | (go_at_call 14; refine (HFB.out _).mono ?_; rintro e w7 ⟨⟨f, hf, rfl⟩, k7⟩; have KA : Hid (Below w5.heap.size w5 (w5.alloc (.cells #[.int .i64 (((first + q : Nat) : Int) + 1)] 3))) := (Below.refl _ _).alloc (Nat.le_refl _) _; have K7 := hide k7; have S7 : Hid (Sr w (.slice (some ⟨w5.heap.size, 0, none⟩) 1 1) [first + cs.length] w7) := (Sr.under (by show World.ownsRow _ _ _ _ _ _ _; rw [iv_one HVAL.out]; exact World.ownsRow_lit w5 #[.int .i64 (((first + q : Nat) : Int) + 1)] 1 P5.out.below.size (by unfold maxLen; omega) rfl) k7); have P7 := hide ((P5.out.under KA.out).under k7); have X7 := hide ((X5.out.under KA.out).under k7); have HBY := hide (lawBytes_any _ x w7 X7.out.texts (fun l hl => by have := HX2.out l hl; omega) (by omega)); clear k7)
              | (go_at_call 15; refine HBY.out.mono ?_; rintro e w8 ⟨rfl, k8⟩; have P8 := hide (P7.out.under k8); have X8 := hide (X7.out.under k8); have S8 := hide (S7.out.under k8); clear k8))
            go_meet
            refine ⟨b, K + 3 + cs.length, xg, xc, w5.heap.size, 1, 1, 17 + (frs x).length, x, by omega, rfl, rfl, rfl, rfl, rfl, by first | rfl | go_num | (simp; done), ⟨first + cs.length, [x], a5, rv5, P8.out, O5.out, X8.out, S8.out, by simp, rfl, fun h => absurd h (by simp), by simp; omega, by omega, by rw [RM5.out]; exact Int.not_le.2 hroom, ?_⟩⟩
            rw [logOf_one, List.length_append, hd_length]
        · have hk4' : ((kd == 4) = false) := beq_eq_false_iff_ne.2 hk4
          by_cases hk5 : kd = 5
          · subst hk5
            have HOP := hide (playOpen w HV.out w.heap.size K n first cs a w4 P4.out.disk P4.out.below HO.out hn1 (by rw [HFL.out]; omega) (by omega))
            go_wp2_with (go_at_call 10; refine HOP.out.mono ?_; rintro e w5 ⟨b5, rv5, rfl, p5, m5, s5⟩; have P5 := hide p5; have M5 := hide (m5 _ _ _ M4.out); have S5 := hide (s5 _ _ R4.out); clear p5 m5 s5)
            go_meet
            exact ⟨b5, K + cs.length + 1, mg, mc, sb, sc, cnt, long, m, by omega, rfl, rfl, rfl, rfl, rfl, rfl, ⟨first, cs, a, rv5, P5.out, HO.out, M5.out, S5.out, HFL.out, hcnt, HON.out, by omega, by omega, Int.not_le.2 hroom, HLG.out⟩⟩
          · have hk5' : ((kd == 5) = false) := beq_eq_false_iff_ne.2 hk5
            by_cases hk6 : kd = 6
            · subst hk6
              have HCR := hide (playCrash w w.heap.size K b a (logOf n first cs) rv kp tn w4 P4.out)
              have HCA := hide (HO.out.crash kp tn)
              have r3 : w4.cell? ⟨vb, voff + i * 5 + 3, none⟩ = some (.int .i64 kp) := (P4.out.below.cell (p := ⟨vb, voff + i * 5 + 3, none⟩) (cell_lt HKT.out.1)).trans HKT.out.1
              have r4 : w4.cell? ⟨vb, voff + i * 5 + 4, none⟩ = some (.int .i64 tn) := (P4.out.below.cell (p := ⟨vb, voff + i * 5 + 4, none⟩) (cell_lt HKT.out.2)).trans HKT.out.2
              go_wp2_with fail
              go_region_with (go_at_call 16; refine (playCrash w w.heap.size K b a (logOf n first cs) rv kp tn _ (P4.out.under (by exact under_drewN w4 1))).mono ?_; rintro e w5 ⟨rfl, p5, m5, s5⟩)
              all_goals
                have P5 := hide p5
                have M5 := hide (m5 _ _ (M4.out.under (under_drewN w4 1)))
                have S5 := hide (s5 _ _ (R4.out.under (under_drewN w4 1)))
                clear p5 m5 s5
                go_wp2_with (first
                  | (go_at_call 17; refine (playUp _ _ _ _ _ _ _ _ P5.out).mono ?_; rintro e w6 ⟨⟨x6, rfl⟩, p6, m6, s6⟩; rw [HCA.out] at p6; have P6 := hide p6; have M6 := hide (m6 _ _ M5.out); have S6 := hide (s6 _ _ S5.out); have HOP := hide (playOpen w HV.out w.heap.size K n first cs a w6 P6.out.disk P6.out.below HO.out hn1 (by rw [HFL.out]; omega) (by omega)); clear p6 m6 s6)
                  | (go_at_call 10; refine HOP.out.mono ?_; rintro e w7 ⟨b7, rv7, rfl, p7, m7, s7⟩; have P7 := hide p7; have M7 := hide (m7 _ _ _ M6.out); have S7 := hide (s7 _ _ S6.out); clear p7 m7 s7))
                go_meet
                exact ⟨b7, K + cs.length + 1, mg, mc, sb, sc, cnt, long, m, by omega, rfl, rfl, rfl, rfl, rfl, rfl, ⟨first, cs, a, rv7, P7.out, HO.out, M7.out, S7.out, HFL.out, hcnt, HON.out, by omega, by omega, Int.not_le.2 hroom, HLG.out⟩⟩
            · have hk6' : ((kd == 6) = false) := beq_eq_false_iff_ne.2 hk6
              have HADD := hide (playAdd w HV.out w.heap.size K b n first cs a rv x xg xc w4 P4.out HO.out X4.out hn2 HX2.out hxl (by omega) (by rw [HFL.out]; omega) (by omega))
              have HFB : Hid (∀ c W, Calls Tryz.prog 14 #[.string ⟨#[c]⟩] W fun e w' => (∃ f : ByteArray, f.size = 17 ∧ e = .returned (.string f)) ∧ Below W.heap.size W w') := fun c W => (rframe_any _ W (by show 1 ≤ _; decide)).mono fun _ _ ⟨he, hb⟩ => ⟨⟨_, by rw [Wire.frameB_size]; rfl, he⟩, hb⟩
              have hfrs := frs_len x HX2.out
              by_cases hc0 : cnt = 0
              · have hcs : cs = [] := List.length_eq_zero_iff.1 (by omega)
                obtain ⟨cs', HCS⟩ : ∃ cs', Hid (cs' = [x]) := ⟨_, hide rfl⟩
                have HADS : Hid (addS n first cs x = (1, cs')) := by show _ = _; rw [HCS.out, hcs]; rfl
                subst hc0
                go_wp2_with (first
                  | (go_at_call 18; refine HADD.out.mono ?_; rintro e w5 ⟨rv5, hor, m5, s5⟩; obtain ⟨a5, rfl, p5, o5, r5, few5⟩ := hor.resolve_left (fun h => absurd h.2.1 (Int.not_le.2 hroom)); rw [HADS.out] at p5 o5 few5; have P5 := hide p5; have O5 := hide o5; have RM5 := hide r5; have FW5 := hide few5; have M5 := hide (m5 _ _ M4.out); have X5 := hide (m5 _ _ X4.out); have S5 := hide (s5 _ _ R4.out); clear hor m5 s5 p5 o5 r5 few5; have hb0 : Below w5.heap.size w5 (w5.alloc (.cells #[] 9)) := ((Below.refl _ _).alloc (Nat.le_refl _) _); have HB0 := hide hb0; have HOWN0 : Hid ((w5.alloc (.cells #[] 9)).ownsRow w5.heap.size 9 1 (.slice (some ⟨w5.heap.size, 0, none⟩) 0 0) 0 []) := World.ownsRow_made w5 #[] 0 (Nat.le_refl _) (Nat.zero_le _) rfl; have HCM := hide (cells_of_own (own_below M5.out.own hb0)); clear hb0)
                  | (at_builtin; refine wpList_append_own _ rfl _ _ 30 rfl w5.heap.size 9 i9 (.string ⟨#[]⟩) 1 16 under_strs hi9 hz0 hz1 hz2 rfl (by decide) _ _ _ rfl HOWN0.out ⟨mg, 0, none⟩ m.length mc (tv m) rfl ?a1 HCM.out (tv_one m) ?a3 ?a4 ?a5 ?_))
                case a1 => rw [tv_length, Nat.mul_one]
                case a3 => unfold maxLen; omega
                case a4 => omega
                case a5 => simp
                intro v1 w6 hown1 hgrow1 hne1
                obtain ⟨g1, c1, rfl⟩ := own_some hown1 (by first | exact hne1 | (intro e; have h := (hne1.1 e).1; cases h))
                have B6 := hide (HB0.out.grown hgrow1 HB0.out.size fun k e => ownsRow_ge HOWN0.out e)
                have OW1 := hide hown1
                have HCX := hide (cells_of_own (own_below X5.out.own B6.out))
                clear hown1 hgrow1 hne1 HB0 HOWN0 HCM
                go_upto_region 14 with (at_builtin; refine wpList_append_own _ rfl _ _ 30 rfl w5.heap.size 9 i9 (.string ⟨#[]⟩) 1 16 under_strs hi9 hz0 hz1 hz2 rfl (by decide) _ _ _ rfl OW1.out ⟨xg, 0, none⟩ x.length xc (tv x) rfl ?b1 HCX.out (tv_one x) ?b3 ?b4 ?b5 ?_)
                case b1 => rw [tv_length, Nat.mul_one]
                case b3 => unfold maxLen; omega
                case b4 => omega
                case b5 => exact B6.out.size
                intro v2 w7 hown2 hgrow2 hne2
                obtain ⟨g2, c2, rfl⟩ := own_some hown2 (by first | exact hne2 | (intro e; have h := (hne2.1 e).1; cases h))
                have B7 := hide (B6.out.grown hgrow2 B6.out.size fun k e => ownsRow_ge OW1.out e)
                have hlen : (m ++ x).length = m.length + x.length := List.length_append ..
                have HML : Hid ((m ++ x).length ≤ 6 * (i + 1)) := by show _ ≤ _; omega
                rw [← hlen] at hown2 ⊢
                rw [← tv_append] at hown2
                have M7 := hide (Mr.fresh P5.out.log hown2 P5.out.below.size)
                have P7 := hide (P5.out.under B7.out)
                have X7 := hide (X5.out.under B7.out)
                have S7 := hide (S5.out.under B7.out)
                have HFA : Hid (cs'.flatten = m ++ x) := by
                  have h := addS_flat n first cs x
                  rw [HADS.out, HFL.out] at h
                  exact h
                clear hlen hown2 hgrow2 hne2 HCX OW1 B6 B7 P5 M5 X5 S5
                generalize m ++ x = m' at *
                go_wp2_with (first
                  | (go_at_call 14; refine (HFB.out _ _).mono ?_; rintro e w8 ⟨⟨f, hf, rfl⟩, k8⟩; have KA : Hid (Below w7.heap.size w7 (w7.alloc (.cells #[.int .i64 1] 3))) := (Below.refl _ _).alloc (Nat.le_refl _) _; have S8 : Hid (Sr w (.slice (some ⟨w7.heap.size, 0, none⟩) 1 1) [1] w8) := (Sr.under (by show World.ownsRow _ _ _ _ _ _ _; exact World.ownsRow_lit w7 #[.int .i64 1] 1 P7.out.below.size (by unfold maxLen; omega) rfl) k8); have P8 := hide ((P7.out.under KA.out).under k8); have M8 := hide ((M7.out.under KA.out).under k8); have X8 := hide ((X7.out.under KA.out).under k8); have HBY := hide (lawBytes_any _ x w8 X8.out.texts (fun l hl => by have := HX2.out l hl; omega) (by omega)); clear k8)
                  | (go_at_call 15; refine HBY.out.mono ?_; rintro e w9 ⟨rfl, k9⟩; have P9 := hide (P8.out.under k9); have M9 := hide (M8.out.under k9); have S9 := hide (S8.out.under k9); clear k9))
                go_meet
                refine ⟨b, K + 1, g2, c2, w7.heap.size, 1, 1, 17 + (frs x).length, m', by omega, rfl, rfl, rfl, rfl, rfl, by first | rfl | go_num | (simp; done), ⟨1, cs', a5, rv5, P9.out, O5.out, M9.out, by rw [HCS.out]; exact S9.out, HFA.out, by rw [HCS.out]; rfl, fun h => absurd h (by rw [HCS.out]; simp), by rw [HCS.out]; simp, HML.out, by rw [RM5.out]; exact Int.not_le.2 hroom, ?_⟩⟩
                rw [HCS.out, logOf_one, List.length_append, hd_length]
              · have hcs : cs ≠ [] := fun e => hc0 (by rw [← hcnt, e]; rfl)
                have hlg : long = 17 + (frs (cs.getLastD [])).length := by rw [HLG.out, logOf_size_ne hcs]
                have hcI : ¬ ((cnt : Int) = 0) := by omega
                have hcB : ((cnt : Int) == 0) = false := beq_eq_false_iff_ne.2 hcI
                by_cases hbig : n ≤ long
                · have hbI : (n : Int) ≤ long := by omega
                  obtain ⟨cs', HCS⟩ : ∃ cs', Hid (cs' = cs ++ [x]) := ⟨_, hide rfl⟩
                  have HADS : Hid (addS n first cs x = (first, cs')) := by show _ = _; rw [HCS.out]; unfold addS; rw [if_neg hcs, if_pos (by omega)]
                  have HCL : Hid (cs'.length = cs.length + 1) := by show _ = _; rw [HCS.out]; simp
                  have HSZ : Hid ((logOf n first cs').size = 17 + (frs x).length) := by
                    show _ = _
                    rw [logOf_size_ne (by rw [HCS.out]; simp), HCS.out]
                    simp
                  clear hlg
                  go_wp2_with (first
                    | (go_at_call 18; refine HADD.out.mono ?_; rintro e w5 ⟨rv5, hor, m5, s5⟩; obtain ⟨a5, rfl, p5, o5, r5, few5⟩ := hor.resolve_left (fun h => absurd h.2.1 (Int.not_le.2 hroom)); rw [HADS.out] at p5 o5 few5; have P5 := hide p5; have O5 := hide o5; have RM5 := hide r5; have FW5 := hide few5; have M5 := hide (m5 _ _ M4.out); have X5 := hide (m5 _ _ X4.out); have S5 := hide (s5 _ _ R4.out); clear hor m5 s5 p5 o5 r5 few5; have hb0 : Below w5.heap.size w5 (w5.alloc (.cells #[] 9)) := ((Below.refl _ _).alloc (Nat.le_refl _) _); have HB0 := hide hb0; have HOWN0 : Hid ((w5.alloc (.cells #[] 9)).ownsRow w5.heap.size 9 1 (.slice (some ⟨w5.heap.size, 0, none⟩) 0 0) 0 []) := World.ownsRow_made w5 #[] 0 (Nat.le_refl _) (Nat.zero_le _) rfl; have HCM := hide (cells_of_own (own_below M5.out.own hb0)); clear hb0)
                    | (at_builtin; refine wpList_append_own _ rfl _ _ 30 rfl w5.heap.size 9 i9 (.string ⟨#[]⟩) 1 16 under_strs hi9 hz0 hz1 hz2 rfl (by decide) _ _ _ rfl HOWN0.out ⟨mg, 0, none⟩ m.length mc (tv m) rfl ?a1 HCM.out (tv_one m) ?a3 ?a4 ?a5 ?_))
                  case a1 => rw [tv_length, Nat.mul_one]
                  case a3 => unfold maxLen; omega
                  case a4 => omega
                  case a5 => simp
                  intro v1 w6 hown1 hgrow1 hne1
                  obtain ⟨g1, c1, rfl⟩ := own_some hown1 (by first | exact hne1 | (intro e; have h := (hne1.1 e).1; cases h))
                  have B6 := hide (HB0.out.grown hgrow1 HB0.out.size fun k e => ownsRow_ge HOWN0.out e)
                  have OW1 := hide hown1
                  have HCX := hide (cells_of_own (own_below X5.out.own B6.out))
                  clear hown1 hgrow1 hne1 HB0 HOWN0 HCM
                  go_upto_region 14 with (at_builtin; refine wpList_append_own _ rfl _ _ 30 rfl w5.heap.size 9 i9 (.string ⟨#[]⟩) 1 16 under_strs hi9 hz0 hz1 hz2 rfl (by decide) _ _ _ rfl OW1.out ⟨xg, 0, none⟩ x.length xc (tv x) rfl ?b1 HCX.out (tv_one x) ?b3 ?b4 ?b5 ?_)
                  case b1 => rw [tv_length, Nat.mul_one]
                  case b3 => unfold maxLen; omega
                  case b4 => omega
                  case b5 => exact B6.out.size
                  intro v2 w7 hown2 hgrow2 hne2
                  obtain ⟨g2, c2, rfl⟩ := own_some hown2 (by first | exact hne2 | (intro e; have h := (hne2.1 e).1; cases h))
                  have B7 := hide (B6.out.grown hgrow2 B6.out.size fun k e => ownsRow_ge OW1.out e)
                  have hlen : (m ++ x).length = m.length + x.length := List.length_append ..
                  have HML : Hid ((m ++ x).length ≤ 6 * (i + 1)) := by show _ ≤ _; omega
                  rw [← hlen] at hown2 ⊢
                  rw [← tv_append] at hown2
                  have M7 := hide (Mr.fresh P5.out.log hown2 P5.out.below.size)
                  have P7 := hide (P5.out.under B7.out)
                  have X7 := hide (X5.out.under B7.out)
                  have S7 := hide (S5.out.under B7.out)
                  have HFA : Hid (cs'.flatten = m ++ x) := by
                    have h := addS_flat n first cs x
                    rw [HADS.out, HFL.out] at h
                    exact h
                  clear hlen hown2 hgrow2 hne2 HCX OW1 B6 B7 P5 M5 X5 S5
                  generalize m ++ x = m' at *
                  obtain ⟨q, hq⟩ : ∃ q, cnt = q + 1 := ⟨cnt - 1, by omega⟩
                  have hqI : (cnt : Int) - 1 = (q : Int) := by omega
                  have hqc : q < cnt := by omega
                  have hc100 : cnt ≤ 1000 := by omega
                  have hfq : first + q ≤ 1000 := by omega
                  obtain ⟨F, HFG, hFz⟩ : ∃ F : ByteArray, Hid (∀ W, Calls Tryz.prog 14 #[.string ⟨#[71]⟩] W fun e w' => e = .returned (.string F) ∧ Below W.heap.size W w') ∧ F.size = 17 := ⟨_, fun W => rframe_any _ W (by show 1 ≤ _; decide), by rw [Wire.frameB_size]; rfl⟩
                  obtain ⟨U, HU⟩ : ∃ U, Hid (U = iv (List.range' first cnt)) := ⟨_, hide rfl⟩
                  have HOS : Hid (w7.ownsRow w.heap.size 3 1 (.slice (some ⟨sb, 0, none⟩) cnt sc) cnt U) := by
                    have h := S7.out
                    unfold Sr at h
                    rw [List.length_range', hcnt] at h
                    rw [HU.out]
                    exact h
                  have HUL : Hid (U.length = cnt) := by show _ = _; rw [HU.out]; unfold iv; rw [List.length_map, List.length_range']
                  have HU1 : Hid (∀ u ∈ U, u.oneCell' = true) := by rw [HU.out]; intro u hu; unfold iv at hu; obtain ⟨z, _, rfl⟩ := List.mem_map.1 hu; rfl
                  have HCE : Hid (∀ W, Below w7.heap.size w7 W → W.cell? ⟨sb, q, none⟩ = some (.int .i64 ((first + q : Nat) : Int))) := fun W hW => by
                    have h := seg_cell (Sr.under S7.out hW) (q := q) (by omega)
                    exact h
                  obtain ⟨z, hz⟩ : ∃ z : Int, z = ((first + q : Nat) : Int) := ⟨_, rfl⟩
                  have hz3 : z ≤ 1000 := by omega
                  have hz4 : 0 ≤ z := by omega
                  have HZ : Hid (z + 1 = ((first + cnt : Nat) : Int)) := by show _ = _; omega
                  rw [← hz] at HCE
                  have HQ := hide hq
                  clear hz hq
                  go_upto_region 17 with fail
                  go_cut [11, 12] from 73 to 86 (fun v11 v12 wx => ∃ sb' sc' : Nat, v11 = .slice (some ⟨sb', 0, none⟩) (cnt + 1) sc' ∧ v12 = .int .i64 17 ∧ Hid (wx.ownsRow w7.heap.size 3 1 (.slice (some ⟨sb', 0, none⟩) (cnt + 1) sc') (cnt + 1) (U ++ [.int .i64 (z + 1)]) ∧ Below w7.heap.size w7 wx))
                  case first =>
                    rename_i J K' hJ hK'
                    refine RegionOwn.regionK 15 197 3 1 (fun i => match i with
                      | 0 => RegionOwn.row 0 [] 2
                      | 1 => RegionOwn.val (.slice (some ⟨sb, 0, none⟩) cnt sc)
                      | 2 => RegionOwn.row cnt U 11
                      | 3 => RegionOwn.val (.slice (some ⟨sb, 0, none⟩) cnt sc)
                      | 4 => RegionOwn.val (.slice (some ⟨sb, 0, none⟩) cnt sc)
                      | 5 => RegionOwn.val (.int .i64 (cnt : Int))
                      | 6 => RegionOwn.val (.int .i64 (q : Int))
                      | 7 => RegionOwn.val (.pointer (some ⟨sb, q, none⟩))
                      | 8 => RegionOwn.val (.int .i64 z)
                      | 9 => RegionOwn.val (.int .i64 (z + 1))
                      | 10 => RegionOwn.row 1 [.int .i64 (z + 1)] 11
                      | 11 => RegionOwn.row (cnt + 1) (U ++ [.int .i64 (z + 1)]) 14
                      | 12 => RegionOwn.val (.string F)
                      | 13 => RegionOwn.val (.int .i64 17)
                      | 14 => RegionOwn.row (cnt + 1) (U ++ [.int .i64 (z + 1)]) 15
                      | _ => RegionOwn.val undef) (fun i => match i with | 0 => some 2 | 2 => some 11 | 10 => some 11 | 11 => some 14 | 14 => some 15 | _ => none) ?_ (by kernel_rfl) rfl (by kernel_rfl) ?_ ?_ ?_
                    · intro i hi
                      match i, hi with
                      | 0, _ | 1, _ | 2, _ | 3, _ | 4, _ | 5, _ | 6, _ | 7, _ | 8, _ | 9, _ | 10, _ | 11, _ | 12, _ | 13, _ | 14, _ => rfl
                      | i + 15, h => exact absurd h (by omega)
                    · intro i p hi h
                      match i, hi, h with
                      | 0, _, h | 1, _, h | 2, _, h | 3, _, h | 4, _, h | 5, _, h | 6, _, h | 7, _, h | 8, _, h | 9, _, h | 10, _, h | 11, _, h | 12, _, h | 13, _, h | 14, _, h => cases h
                      | i + 15, h, _ => exact absurd h (by omega)
                    · intro i hi y x' hfr hbx hD hO K2 hK2
                      have hsz := hbx.size
                      match i, hi with
                      | 0, _ =>
                        refine RegionOwn.made (ob := .cells #[] 3) (v := .slice (some ⟨x'.heap.size, 0, none⟩) 0 0) rfl rfl hK2 (World.ownsRow_made x' #[] 0 hsz (Nat.zero_le _) rfl) (fun g h => by simp [Value.ownBlock] at h; omega) ?_
                        clear hK2 hD hfr hO
                        go_simp
                      | 1, _ | 3, _ | 4, _ =>
                        refine RegionOwn.quiet rfl rfl hK2 rfl rfl ?_
                        have e11 : RegionOwn.T y 11 = .slice (some ⟨sb, 0, none⟩) cnt sc := hO 14 11 (by decide) rfl (by kernel_rfl)
                        clear hK2 hD hfr hO
                        unfold RegionOwn.T at e11
                        go_simp
                      | 2, _ =>
                        have q0 : x'.ownsRow w7.heap.size 3 1 (RegionOwn.T y 73) 0 [] := hD 0 73 (by decide) rfl (by kernel_rfl) (.inr rfl)
                        have q1 : RegionOwn.T y 74 = .slice (some ⟨sb, 0, none⟩) cnt sc := hD 1 74 (by decide) rfl (by kernel_rfl) (.inl rfl)
                        refine RegionOwn.appended (j := 0) (k := cnt) (ys := U) rfl rfl hK2 rfl i3 _ 1 8 under_ints hi3 hy0 hy1 hy2 rfl (by decide) (by decide) rfl rfl q0 hsz (by rw [q1]; exact .of_own (own_below HOS.out hbx)) HU1.out (by simp only [maxLen]; omega) (by omega) fun v z' hz' => ?_
                        rw [Nat.zero_add] at hz'
                        exact hz'
                      | 5, _ =>
                        refine RegionOwn.quiet rfl rfl hK2 rfl rfl ?_
                        have q1 : RegionOwn.T y 77 = .slice (some ⟨sb, 0, none⟩) cnt sc := hD 4 77 (by decide) rfl (by kernel_rfl) (.inl rfl)
                        clear hK2 hD hfr hO
                        unfold RegionOwn.T at q1
                        go_simp
                      | 6, _ =>
                        refine RegionOwn.quiet rfl rfl hK2 rfl rfl ?_
                        have q1 : RegionOwn.T y 78 = .int .i64 (cnt : Int) := hD 5 78 (by decide) rfl (by kernel_rfl) (.inl rfl)
                        have hwr : IntKind.i64.wrap (q : Int) = (q : Int) := Sha.wrap_i64 _ (by omega) (by omega)
                        clear hK2 hD hfr hO
                        unfold RegionOwn.T at q1
                        go_simp
                      | 7, _ =>
                        refine RegionOwn.quiet rfl rfl hK2 rfl rfl ?_
                        have q1 : RegionOwn.T y 76 = .slice (some ⟨sb, 0, none⟩) cnt sc := hD 3 76 (by decide) rfl (by kernel_rfl) (.inl rfl)
                        have q2 : RegionOwn.T y 79 = .int .i64 (q : Int) := hD 6 79 (by decide) rfl (by kernel_rfl) (.inl rfl)
                        have hlq : (q : Int) < cnt := by omega
                        clear hK2 hD hfr hO
                        unfold RegionOwn.T at q1 q2
                        go_simp
                      | 8, _ =>
                        refine RegionOwn.quiet rfl rfl hK2 rfl rfl ?_
                        have q1 : RegionOwn.T y 80 = .pointer (some ⟨sb, q, none⟩) := hD 7 80 (by decide) rfl (by kernel_rfl) (.inl rfl)
                        have c0 := HCE.out x' hbx
                        clear hK2 hD hfr hO
                        unfold RegionOwn.T at q1
                        go_simp
                      | 9, _ =>
                        refine RegionOwn.quiet rfl rfl hK2 rfl rfl ?_
                        have q1 : RegionOwn.T y 81 = .int .i64 z := hD 8 81 (by decide) rfl (by kernel_rfl) (.inl rfl)
                        have hwr : IntKind.i64.wrap (z + 1) = z + 1 := Sha.wrap_i64 _ (by omega) (by omega)
                        clear hK2 hD hfr hO
                        unfold RegionOwn.T at q1
                        go_simp
                      | 10, _ =>
                        have q1 : RegionOwn.T y 82 = .int .i64 (z + 1) := hD 9 82 (by decide) rfl (by kernel_rfl) (.inl rfl)
                        refine RegionOwn.made (ob := .cells #[.int .i64 (z + 1)] 3) (v := .slice (some ⟨x'.heap.size, 0, none⟩) 1 1) rfl rfl hK2 (RegionOwn.made_one x' _ 3 1 #[.int .i64 (z + 1)] hsz rfl) (fun g h => by simp [Value.ownBlock] at h; omega) ?_
                        clear hK2 hD hfr hO
                        unfold RegionOwn.T at q1
                        have q2 := q1
                        rw [Array.getD_eq_getD_getElem?] at q2
                        go_simp
                      | 11, _ =>
                        have q0 : x'.ownsRow w7.heap.size 3 1 (RegionOwn.T y 75) cnt U := hD 2 75 (by decide) rfl (by kernel_rfl) (.inr rfl)
                        have q1 : x'.ownsRow w7.heap.size 3 1 (RegionOwn.T y 83) 1 [.int .i64 (z + 1)] := hD 10 83 (by decide) rfl (by kernel_rfl) (.inr rfl)
                        exact RegionOwn.appended (j := 2) (k := 1) (ys := [.int .i64 (z + 1)]) rfl rfl hK2 rfl i3 _ 1 8 under_ints hi3 hy0 hy1 hy2 rfl (by decide) (by decide) rfl rfl q0 hsz (.of_own q1) (fun u hu => by simp at hu; subst hu; rfl) (by simp only [maxLen]; omega) (by omega) fun v z' hz' => hz'
                      | 12, _ =>
                        refine RegionOwn.called rfl rfl hK2 rfl (f := 14) (args := #[.string ⟨#[71]⟩]) ?_ ((HFG.out x').mono fun e y' ⟨he, hb⟩ => ⟨_, he, hb, rfl⟩)
                        clear hK2 hD hfr hO
                        go_simp
                      | 13, _ =>
                        refine RegionOwn.quiet rfl rfl hK2 rfl rfl ?_
                        have q1 : RegionOwn.T y 85 = .string F := hD 12 85 (by decide) rfl (by kernel_rfl) (.inl rfl)
                        have hFI : (F.size : Int) = 17 := by omega
                        clear hK2 hD hfr hO
                        unfold RegionOwn.T at q1
                        go_simp
                      | 14, _ =>
                        have q0 : x'.ownsRow w7.heap.size 3 1 (RegionOwn.T y 84) (cnt + 1) (U ++ [.int .i64 (z + 1)]) := hD 11 84 (by decide) rfl (by kernel_rfl) (.inr rfl)
                        refine RegionOwn.wpOp_value (v := RegionOwn.T y 84) (y := x') rfl rfl ?_ (hK2 _ x' none ⟨rfl, rfl, rfl, Nat.le_refl _, fun _ _ _ => rfl⟩ (fun _ h => by cases h) q0 fun _ g h => .inr ⟨11, 84, by decide, rfl, rfl, h⟩)
                        clear hK2 hD hfr hO q0
                        first | rfl | (unfold RegionOwn.T; unfold execOp; simp; done) | (unfold RegionOwn.T; go_simp; trace_state)
                      | i + 15, h => exact absurd h (by omega)
                    · intro y x' hfr hbx hD
                      have q0 : x'.ownsRow w7.heap.size 3 1 (RegionOwn.T y 11) (cnt + 1) (U ++ [.int .i64 (z + 1)]) := hD 14 11 (by decide) rfl (fun i hi e => by cases e; omega)
                      have q1 : RegionOwn.T y 86 = .int .i64 17 := hD 13 86 (by decide) rfl (fun i hi e => by cases e)
                      have hys := hfr.sets [73, 74, 75, 76, 77, 78, 79, 80, 81, 82, 83, 84, 85, 86, 11] (by kernel_rfl)
                      obtain ⟨g9, c9, hv9⟩ := ownsRow_succ q0
                      simp only [RegionOwn.setAll, List.foldl_cons, List.foldl_nil] at hys
                      clear hD hfr
                      generalize RegionOwn.T y 73 = u73 at hys q0 q1 hv9
                      generalize RegionOwn.T y 74 = u74 at hys q0 q1 hv9
                      generalize RegionOwn.T y 75 = u75 at hys q0 q1 hv9
                      generalize RegionOwn.T y 76 = u76 at hys q0 q1 hv9
                      generalize RegionOwn.T y 77 = u77 at hys q0 q1 hv9
                      generalize RegionOwn.T y 78 = u78 at hys q0 q1 hv9
                      generalize RegionOwn.T y 79 = u79 at hys q0 q1 hv9
                      generalize RegionOwn.T y 80 = u80 at hys q0 q1 hv9
                      generalize RegionOwn.T y 81 = u81 at hys q0 q1 hv9
                      generalize RegionOwn.T y 82 = u82 at hys q0 q1 hv9
                      generalize RegionOwn.T y 83 = u83 at hys q0 q1 hv9
                      generalize RegionOwn.T y 84 = u84 at hys q0 q1 hv9
                      generalize RegionOwn.T y 85 = u85 at hys q0 q1 hv9
                      generalize RegionOwn.T y 86 = u86 at hys q0 q1 hv9
                      generalize RegionOwn.T y 11 = u11 at hys q0 q1 hv9
                      subst hys q1 hv9
                      simp only [List.drop_succ_cons, List.drop_zero, List.setIfInBounds_toArray, List.set_cons_succ, List.set_cons_zero]
                      have HQ0 := hide (And.intro q0 hbx)
                      clear q0 hbx
                      go_wp2
                      go_meet
                      exact ⟨g9, c9, rfl, rfl, HQ0.out⟩
                  case rest =>
                    obtain ⟨sb', sc', rfl, rfl, HW⟩ := hcut
                    have PC := hide (P7.out.under HW.out.2)
                    have MC := hide (M7.out.under HW.out.2)
                    have XC := hide (X7.out.under HW.out.2)
                    have HBY := hide (lawBytes_any _ x wc XC.out.texts (fun l hl => by have := HX2.out l hl; omega) (by omega))
                    have SC : Hid (Sr w (.slice (some ⟨sb', 0, none⟩) (cnt + 1) sc') (List.range' first (cnt + 1)) wc) := by
                      show World.ownsRow _ _ _ _ _ _ _
                      rw [List.length_range', range_snoc, iv_snoc, ← HZ.out, ← HU.out]
                      exact own_mono HW.out.1 P7.out.below.size
                    go_wp2_with (go_at_call 15; refine HBY.out.mono ?_; rintro e w9 ⟨rfl, k9⟩; have P9 := hide (PC.out.under k9); have M9 := hide (MC.out.under k9); have S9 := hide (SC.out.under k9); clear k9)
                    go_meet
                    exact ⟨b, K + 1, g2, c2, sb', sc', cnt + 1, 17 + (frs x).length, m', by omega, rfl, rfl, rfl, rfl, rfl, by first | rfl | go_num | (simp; done), ⟨first, cs', a5, rv5, P9.out, O5.out, M9.out, by rw [HCL.out, hcnt]; exact S9.out, HFA.out, by rw [HCL.out, hcnt], fun h => absurd h (by rw [HCS.out]; simp), by rw [HCL.out]; omega, HML.out, by rw [RM5.out]; exact Int.not_le.2 hroom, HSZ.out.symm⟩⟩
                · have hbI : ¬ ((n : Int) ≤ long) := by omega
                  obtain ⟨cs', HCS⟩ : ∃ cs', Hid (cs' = cs.dropLast ++ [cs.getLastD [] ++ x]) := ⟨_, hide rfl⟩
                  have HADS : Hid (addS n first cs x = (first, cs')) := by show _ = _; rw [HCS.out]; unfold addS; rw [if_neg hcs, if_neg (by omega)]
                  have HCL : Hid (cs'.length = cs.length) := by
                    show _ = _
                    rw [HCS.out, List.length_append, List.length_dropLast]
                    have : 0 < cs.length := List.length_pos_iff.2 hcs
                    simp
                    omega
                  have HSZ : Hid ((logOf n first cs').size = long + (frs x).length) := by
                    show _ = _
                    rw [logOf_size_ne (by rw [HCS.out]; simp), HCS.out, hlg]
                    simp [frs_append]
                    omega
                  clear hlg
                  go_wp2_with (first
                    | (go_at_call 18; refine HADD.out.mono ?_; rintro e w5 ⟨rv5, hor, m5, s5⟩; obtain ⟨a5, rfl, p5, o5, r5, few5⟩ := hor.resolve_left (fun h => absurd h.2.1 (Int.not_le.2 hroom)); rw [HADS.out] at p5 o5 few5; have P5 := hide p5; have O5 := hide o5; have RM5 := hide r5; have FW5 := hide few5; have M5 := hide (m5 _ _ M4.out); have X5 := hide (m5 _ _ X4.out); have S5 := hide (s5 _ _ R4.out); clear hor m5 s5 p5 o5 r5 few5; have hb0 : Below w5.heap.size w5 (w5.alloc (.cells #[] 9)) := ((Below.refl _ _).alloc (Nat.le_refl _) _); have HB0 := hide hb0; have HOWN0 : Hid ((w5.alloc (.cells #[] 9)).ownsRow w5.heap.size 9 1 (.slice (some ⟨w5.heap.size, 0, none⟩) 0 0) 0 []) := World.ownsRow_made w5 #[] 0 (Nat.le_refl _) (Nat.zero_le _) rfl; have HCM := hide (cells_of_own (own_below M5.out.own hb0)); clear hb0)
                    | (at_builtin; refine wpList_append_own _ rfl _ _ 30 rfl w5.heap.size 9 i9 (.string ⟨#[]⟩) 1 16 under_strs hi9 hz0 hz1 hz2 rfl (by decide) _ _ _ rfl HOWN0.out ⟨mg, 0, none⟩ m.length mc (tv m) rfl ?a1 HCM.out (tv_one m) ?a3 ?a4 ?a5 ?_))
                  case a1 => rw [tv_length, Nat.mul_one]
                  case a3 => unfold maxLen; omega
                  case a4 => omega
                  case a5 => simp
                  intro v1 w6 hown1 hgrow1 hne1
                  obtain ⟨g1, c1, rfl⟩ := own_some hown1 (by first | exact hne1 | (intro e; have h := (hne1.1 e).1; cases h))
                  have B6 := hide (HB0.out.grown hgrow1 HB0.out.size fun k e => ownsRow_ge HOWN0.out e)
                  have OW1 := hide hown1
                  have HCX := hide (cells_of_own (own_below X5.out.own B6.out))
                  clear hown1 hgrow1 hne1 HB0 HOWN0 HCM
                  go_upto_region 14 with (at_builtin; refine wpList_append_own _ rfl _ _ 30 rfl w5.heap.size 9 i9 (.string ⟨#[]⟩) 1 16 under_strs hi9 hz0 hz1 hz2 rfl (by decide) _ _ _ rfl OW1.out ⟨xg, 0, none⟩ x.length xc (tv x) rfl ?b1 HCX.out (tv_one x) ?b3 ?b4 ?b5 ?_)
                  case b1 => rw [tv_length, Nat.mul_one]
                  case b3 => unfold maxLen; omega
                  case b4 => omega
                  case b5 => exact B6.out.size
                  intro v2 w7 hown2 hgrow2 hne2
                  obtain ⟨g2, c2, rfl⟩ := own_some hown2 (by first | exact hne2 | (intro e; have h := (hne2.1 e).1; cases h))
                  have B7 := hide (B6.out.grown hgrow2 B6.out.size fun k e => ownsRow_ge OW1.out e)
                  have hlen : (m ++ x).length = m.length + x.length := List.length_append ..
                  have HML : Hid ((m ++ x).length ≤ 6 * (i + 1)) := by show _ ≤ _; omega
                  rw [← hlen] at hown2 ⊢
                  rw [← tv_append] at hown2
                  have M7 := hide (Mr.fresh P5.out.log hown2 P5.out.below.size)
                  have P7 := hide (P5.out.under B7.out)
                  have X7 := hide (X5.out.under B7.out)
                  have S7 := hide (S5.out.under B7.out)
                  have HFA : Hid (cs'.flatten = m ++ x) := by
                    have h := addS_flat n first cs x
                    rw [HADS.out, HFL.out] at h
                    exact h
                  clear hlen hown2 hgrow2 hne2 HCX OW1 B6 B7 P5 M5 X5 S5
                  generalize m ++ x = m' at *
                  have HBY := hide (lawBytes_any _ x w7 X7.out.texts (fun l hl => by have := HX2.out l hl; omega) (by omega))
                  go_wp2_with (go_at_call 15; refine HBY.out.mono ?_; rintro e w9 ⟨rfl, k9⟩; have P9 := hide (P7.out.under k9); have M9 := hide (M7.out.under k9); have S9 := hide (S7.out.under k9); clear k9)
                  go_meet
                  exact ⟨b, K + 1, g2, c2, sb, sc, cnt, long + (frs x).length, m', by omega, rfl, rfl, rfl, rfl, rfl, by first | rfl | go_num | (simp; done), ⟨first, cs', a5, rv5, P9.out, O5.out, M9.out, by rw [HCL.out]; exact S9.out, HFA.out, by rw [HCL.out]; exact hcnt, fun h => absurd h (by rw [HCS.out]; simp), by rw [HCL.out]; omega, HML.out, by rw [RM5.out]; exact Int.not_le.2 hroom, HSZ.out.symm⟩⟩
      case rest =>
        obtain ⟨b5, K5, mg5, mc5, sb5, sc5, cnt5, long5, m5, hK5, rfl, rfl, rfl, rfl, rfl, rfl, HPL⟩ := hcut
        clear P4 M4 R4 X4 r0 HF HO HFL HLG HON HX2 HKT
        obtain ⟨first5, cs5, a5, rv5, hP, hO, hM, hR, hfl, hcnt, hone, hfw5, hml5, hroom5, hlong⟩ := HPL.out.all
        have HFA : Hid (a5.files.length = cnt5) := by show _ = _; rw [hO.img.count, hcnt]
        have HALL := hide (playAll w w.heap.size K5 b5 a5 (logOf n first5 cs5) rv5 wc hP (by rw [logOf_recs, hfl]; omega))
        rw [logOf_recs, hfl] at HALL
        have HLEN : Hid (∀ W, Pw Tryz.prog TLog w w.heap.size K5 b5 a5 (logOf n first5 cs5) rv5 W → Calls Tryz.prog 21 #[.pointer (some ⟨b5, 0, none⟩)] W fun e w' => e = .returned (.int .i64 m5.length) ∧ w' = W) := fun W h => by
          have := lenRecs_any w.heap.size b5 w.heap.size (logOf n first5 cs5) rv5 W h.log
          rw [logOf_recs, hfl] at this
          exact this
        have HSEG : Hid (∀ W, Pw Tryz.prog TLog w w.heap.size K5 b5 a5 (logOf n first5 cs5) rv5 W → Calls Tryz.prog 23 #[.pointer (some ⟨b5, 0, none⟩)] W fun e W' => ∃ v, e = .returned v ∧ Ints W' v (List.range' first5 cs5.length) ∧ Below W.heap.size W W') := fun W h => playSegs w w.heap.size K5 b5 n first5 cs5 a5 rv5 W h hO
        have HSR : Hid (Sr w (.slice (some ⟨sb5, 0, none⟩) cnt5 sc5) (List.range' first5 cs5.length) wc) := hR
        have HP5 := hide hP
        have HM5 := hide hM
        have hcl : (List.range' first5 cs5.length).length ≤ 1000000 := by rw [List.length_range']; omega
        have HO5 := hide hO
        have HFL5 := hide hfl
        have HON5 := hide hone
        have HLG5 := hide hlong
        have HCN5 := hide hcnt
        have HRM5 := hide hroom5
        clear hP hO hM hR hfl hone hlong HPL hcnt hroom5
        obtain ⟨U, hU⟩ : ∃ U, List.range' first5 cs5.length = U := ⟨_, rfl⟩
        have HU := hide hU
        rw [hU] at HSEG HSR hcl
        clear hU
        go_wp2_with (first
          | (go_at_call 20; refine HALL.out.mono ?_; rintro e w6 ⟨v6, rfl, t6, k6⟩; have P6 := hide (HP5.out.under k6); have M6 := hide (HM5.out.under k6); have S6 := hide (HSR.out.under k6); have HSA := hide (same_any v6 _ m5 m5 w6 t6 M6.out.texts (by omega)); rw [decide_eq_true rfl] at HSA; clear t6 k6)
          | (go_at_call 19; refine HSA.out.mono ?_; rintro e w7 ⟨rfl, k7⟩; have P7 := hide (P6.out.under k7); have M7 := hide (M6.out.under k7); have S7 := hide (S6.out.under k7); clear k7)
          | (go_at_call 21; refine (HLEN.out _ P7.out).mono ?_; rintro e w8 ⟨rfl, hw⟩; subst hw)
          | (go_at_call 23; refine (HSEG.out _ P7.out).mono ?_; rintro e w9 ⟨v9, rfl, t9, k9⟩; have P9 := hide (P7.out.under k9); have M9 := hide (M7.out.under k9); have S9 := hide (S7.out.under k9); have HNU := hide (numbers_any v9 _ U U w9 t9 (Ints.of_own S9.out) hcl); rw [decide_eq_true rfl] at HNU; clear t9 k9)
          | (go_at_call 22; refine HNU.out.mono ?_; rintro e w10 ⟨rfl, k10⟩; have PA := hide (P9.out.under k10); have MA := hide (M9.out.under k10); have SA := hide (S9.out.under k10); have HNM := hide (playNames _ _ _ _ _ _ _ _ PA.out); rw [HFA.out] at HNM; clear k10)
          | (go_at_call 24; refine HNM.out.mono ?_; rintro e w11 ⟨⟨na, nc, rfl⟩, k11⟩; have PB := hide (PA.out.under k11); have MB := hide (MA.out.under k11); have SB := hide (SA.out.under k11); clear k11))
        go_roundw
        case rel => exact ⟨i + 1, b5, K5, mg5, mc5, sb5, sc5, cnt5, long5, m5, by omega, by omega, hK5, by go_num, rfl, rfl, rfl, rfl, rfl, rfl, ⟨first5, cs5, a5, rv5, PB.out, HO5.out, MB.out, by rw [HU.out]; exact SB.out, HFL5.out, HCN5.out, HON5.out, hfw5, hml5, Int.not_le.2 HRM5.out, HLG5.out⟩⟩
        case measure => simp [intOf]; omega
    · obtain ⟨_, _, _, _, hP, _⟩ := HF.out.all
      have HB := hide hP.below
      have hex : ¬ ((i : Int) < L.length) ∨ ((i : Int) < L.length ∧ ¬ ((i : Int) < 40)) := by omega
      clear hP hlt
      rcases hex with e1 | ⟨e1, e2⟩
      all_goals
        go_wp2
        go_ret
        exact ⟨rfl, HB.out⟩
end Go.Proofs.YtoineobjmllicaaGreatDoor
