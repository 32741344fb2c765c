/- The walk: what is deleted stands below the trash, and comes again when it is moved. -/
import Derived.Test.YtohdadjknefjcaaMoveTrashMath
import Derived.Test.YtohdadjknefjcaaMoveAwake
import Derived.Test.YtohdadjknefjcaaWirePure
namespace Go.Proofs.Ytohdadjknefjcaa
open Go.RowKit Go.Opn Go.Stamp Go.MapInt Go.Mov Go.Shelf
attribute [local go_sem] Oper.semAt_some
theorem th_form (x : Th) : x.v = .agg #[.int .u64 x.id, .int .u64 x.par, .string x.name, .bool x.dir, .string x.dg, .int .i64 x.size] := rfl
set_option maxHeartbeats 4000000 in
set_option maxRecDepth 100000 in
theorem moveTrash_any (dp bk : Int) (w : World) (_ : -9223372036854775808 ≤ dp ∧ dp ≤ 9223372036854775807) (_ : -9223372036854775808 ≤ bk ∧ bk ≤ 9223372036854775807) : Calls Try.prog 8 #[.int .i64 dp, .int .i64 bk] w fun r w' => r = .returned (.bool true) ∧ Below w.heap.size w w' := by
  obtain ⟨n, hn, hn1⟩ := Wire.and_small dp 7 (by decide)
  obtain ⟨q, hq, hq1⟩ := Wire.and_small bk 7 (by decide)
  have hn2 : bits .and .i64 dp 7 = (n : Int) := hn1
  have hq2 : bits .and .i64 bk 7 = (q : Int) := hq1
  have hnI : (n : Int) ≤ 7 := by omega
  have hn0 : (0 : Int) ≤ n := by omega
  have hqI : (q : Int) ≤ 7 := by omega
  have hq0 : (0 : Int) ≤ q := by omega
  clear hn1 hq1
  have HN := hide (newTw_any w)
  go_enter Try.func8, Try.ntmps8
  go_upto_region 5 with (first
    | (go_at_call 9; refine HN.out.mono ?_; rintro r w1 ⟨b, rfl, h1⟩; have I1 := hide h1; clear h1 HN)
    | (go_at_call 10; refine (awake13_any _).mono ?_; rintro r w3 ⟨rfl, h3⟩; have I3 := hide (I1.out.below h3); clear h3))
  go_wp2_with fail
  go_loopw [7] (fun v7 wr => ∃ i : Nat, v7 = .int .i64 ((i : Int) + 1) ∧ i ≤ n + 1 ∧ Hid (Tw w b (fun _ => False) (addsU (crs i)).1 (addsU (crs i)).2 wr)) (fun v7 _ => n + 2 - (intOf v7).toNat)
  case atStart => exact ⟨0, rfl, Nat.zero_le _, I3.out⟩
  case round =>
    obtain ⟨i, rfl, hi, HI⟩ := hrel
    clear I3 I1
    have hbd := addsU_bound (crs i)
    have hcl : (crs i).length = i := by unfold crs; simp
    rw [hcl] at hbd
    have hii : (i : Int) * i ≤ 64 := by
      have h2 : i * i ≤ 8 * 8 := Nat.mul_le_mul (by omega) (by omega)
      have h3 : ((i * i : Nat) : Int) ≤ ((8 * 8 : Nat) : Int) := Int.ofNat_le.2 h2
      simpa using h3
    by_cases hlt : i < n + 1
    · have hltI : (i : Int) + 1 ≤ n + 1 := by omega
      have hi0 : (0 : Int) ≤ i := by omega
      have HAd : Hid (∀ v, Below wr.heap.size wr v → Calls Try.prog 14 #[.pointer (some ⟨b, 0, none⟩), (crE ((i : Int) + 1)).v] v fun r w' => (∃ x, r = .returned x) ∧ Hid (Tw w b (fun _ => False) (addsU (crs (i + 1))).1 (addsU (crs (i + 1))).2 w')) := fun v k => by
        refine (addTw_any _ (HI.out.below k) (crE_fits (by omega) (by omega)) (by omega) ⟨hbd.2.1, by omega⟩).mono ?_
        rintro r w' ⟨rfl, h1, _⟩
        rw [crs_next, addsU_snoc]
        exact ⟨⟨_, rfl⟩, h1⟩
      unfold crE En.v at HAd
      dsimp only at HAd
      have e1 : (i : Int) + 1 - 1 = i := by omega
      rw [e1] at HAd
      clear HI hbd hii hcl
      cases i with
      | zero =>
        simp only [Int.natCast_zero, Int.zero_add, Int.mul_zero, Int.mul_one] at HAd
        go_wp2_with (go_at_call 14; refine (HAd.out _ ((Below.refl _ wr).alloc (Nat.le_refl _) _)).mono ?_; rintro r w5 ⟨⟨x, rfl⟩, A5⟩; clear HAd)
        go_roundw
        case rel => exact ⟨1, rfl, by omega, A5.out⟩
        case measure => simp [intOf]
      | succ i0 =>
        have hj : (1 : Int) < (i0 + 1 : Nat) + 1 := by omega
        have hj8 : ((i0 + 1 : Nat) : Int) ≤ 7 := by omega
        generalize i0 + 1 = j at *
        have kk : Hid (∀ o x, Below wr.heap.size wr ((wr.alloc o).setCell ⟨wr.heap.size, 4, none⟩ x)) := fun o x => ((Below.refl _ wr).alloc (Nat.le_refl _) o).setCell (p := ⟨wr.heap.size, 4, none⟩) (Nat.le_refl _) x
        go_wp2_with (go_at_call 14; refine (HAd.out _ ((Below.refl _ wr).alloc (Nat.le_refl _) _)).mono ?_; rintro r w5 ⟨⟨x, rfl⟩, A5⟩; clear HAd)
        go_roundw
        case rel => exact ⟨j + 1, by simp, by omega, A5.out⟩
        case measure => simp [intOf]; omega
    · obtain rfl : i = n + 1 := by omega
      obtain ⟨p, hp, hmod⟩ : ∃ p : Nat, p ≤ n ∧ (q : Int).tmod ((n : Int) + 1) = p := by
        refine ⟨q % (n + 1), Nat.le_of_lt_succ (Nat.mod_lt _ (by omega)), ?_⟩
        rw [Int.tmod_eq_emod_of_nonneg (by omega)]
        exact (Int.natCast_emod q (n + 1)).symm
      have hpI : (p : Int) ≤ n := by omega
      have hp0 : (0 : Int) ≤ p := by omega
      have hnz : ¬ (n : Int) + 1 = 0 := by omega
      obtain ⟨ok2h, ok3h⟩ := ok_at hn hp
      unfold ok2 at ok2h
      unfold ok3 at ok3h
      simp only [Bool.and_eq_true, beq_iff_eq, List.all_eq_true, List.mem_range, decide_eq_true_eq] at ok2h ok3h
      obtain ⟨⟨hall, hlook2⟩, hkid2⟩ := ok2h
      obtain ⟨⟨hlook3, hkid3⟩, hne3⟩ := ok3h
      obtain ⟨⟨xi, xp, xn, xd, xg, xz⟩, hx, hxp⟩ : ∃ x, Mov.look (tr2 (n + 1) (16 * ((p : Int) + 1))) (16 * ((p : Int) + 1)) = some x ∧ x.par = 1 := by
        cases e : Mov.look (tr2 (n + 1) (16 * ((p : Int) + 1))) (16 * ((p : Int) + 1)) with
        | none => rw [e] at hlook2; cases hlook2
        | some x => rw [e] at hlook2; exact ⟨x, rfl, by simpa using hlook2⟩
      obtain ⟨⟨yi, yp, yn, yd, yg, yz⟩, hy, hyp, hyn⟩ : ∃ x, Mov.look (tr3 (n + 1) (16 * ((p : Int) + 1))) (16 * ((p : Int) + 1)) = some x ∧ x.par = 0 ∧ x.name.data = #[98] := by
        cases e : Mov.look (tr3 (n + 1) (16 * ((p : Int) + 1))) (16 * ((p : Int) + 1)) with
        | none => rw [e] at hlook3; cases hlook3
        | some x => rw [e] at hlook3; refine ⟨x, rfl, ?_⟩; simpa using hlook3
      dsimp only at hxp hyp hyn
      obtain rfl : xp = 1 := hxp
      obtain rfl : yp = 0 := hyp
      obtain rfl : yn = ⟨#[98]⟩ := by cases yn; simpa using hyn
      have hne2 : tr2 (n + 1) (16 * ((p : Int) + 1)) ≠ [] := fun e => by rw [e] at hx; cases hx
      have hnum : Num (16 * ((p : Int) + 1)) := ⟨by omega, by omega⟩
      have HAd : Hid (Calls Try.prog 14 #[.pointer (some ⟨b, 0, none⟩), (delE (16 * ((p : Int) + 1))).v] wr fun r w' => (∃ x, r = .returned x) ∧ Hid (Tw w b (fun _ => False) (addsU (crs (n + 1) ++ [delE (16 * ((p : Int) + 1))])).1 (addsU (crs (n + 1) ++ [delE (16 * ((p : Int) + 1))])).2 w')) := by
        refine (addTw_any _ HI.out (delE_fits (by omega) (by omega)) (by omega) ⟨hbd.2.1, by omega⟩).mono ?_
        rintro r w' ⟨rfl, h1, _⟩
        rw [addsU_snoc]
        exact ⟨⟨_, rfl⟩, h1⟩
      have hbd2 := addsU_bound (crs (n + 1) ++ [delE (16 * ((p : Int) + 1))])
      have hcl2 : (crs (n + 1) ++ [delE (16 * ((p : Int) + 1))]).length = n + 2 := by rw [List.length_append, hcl]; rfl
      rw [hcl2] at hbd2
      have hb2 : (addsU (crs (n + 1) ++ [delE (16 * ((p : Int) + 1))])).2 ≤ 1000 := by
        have h2 : (n + 2) * (n + 2) ≤ 9 * 9 := Nat.mul_le_mul (by omega) (by omega)
        have h3 : (((n + 2) * (n + 2) : Nat) : Int) ≤ ((9 * 9 : Nat) : Int) := Int.ofNat_le.2 h2
        have h4 := hbd2.2.2
        simp only [Int.natCast_mul] at h3
        omega
      have HF := hide (And.intro hall (And.intro hx (And.intro hkid2 (And.intro hy (And.intro hkid3 (And.intro hne2 hne3))))))
      have HBD := hide (And.intro hbd2.1 (And.intro hbd2.2.1 hb2))
      unfold delE En.v at HAd
      dsimp only at HAd
      have HAd2 := HAd
      clear hall hx hkid2 hy hkid3 hne2 hne3 hbd hbd2 hb2 hcl hcl2 hii hlook2 hlook3 hyn HI HAd
      have hlp : ¬ ((n : Int) + 1 + 1 ≤ n + 1) := by omega
      have hcast : ((n + 1 : Nat) : Int) = n + 1 := by omega
      rw [hcast]
      go_upto_region 14 with (go_at_call 14; refine HAd2.out.mono ?_; rintro r w4 ⟨⟨x, rfl⟩, A4⟩; clear HAd2)
      replace A4 : Hid (Tw w b (fun _ => False) (addsU (crs (n + 1) ++ [delE (16 * ((p : Int) + 1))])).1 (addsU (crs (n + 1) ++ [delE (16 * ((p : Int) + 1))])).2 w4) := A4.out
      have HBl : Hid (∀ (j : Nat), j < n + 1 → ∀ v, Below w4.heap.size w4 v → Calls Try.prog 27 #[.pointer (some ⟨b, 0, none⟩), .int .u64 (16 * ((j : Int) + 1)), .int .u64 (16 * ((p : Int) + 1))] v fun e w' => e = .returned (.bool (decide (16 * ((p : Int) + 1) ≤ 16 * ((j : Int) + 1)))) ∧ Below v.heap.size v w') := fun j hj v k => by
        have h1 := belowTw_any (A4.out.below k) (16 * ((j : Int) + 1)) (16 * ((p : Int) + 1)) ⟨by omega, by omega⟩
        have h2 := (HF.out.1 j hj).1
        unfold tr2 at h2
        rw [h2] at h1
        exact h1
      have HDp : Hid (∀ (j : Nat), j < n + 1 → ∀ v, Below w4.heap.size w4 v → Calls Try.prog 29 #[.pointer (some ⟨b, 0, none⟩), .int .u64 (16 * ((j : Int) + 1))] v fun e w' => ∃ d : Int, e = .returned (.int .i64 d) ∧ 1 ≤ d ∧ Below v.heap.size v w') := fun j hj v k => by
        refine (deepTw_any (A4.out.below k) (16 * ((j : Int) + 1)) ⟨by omega, by omega⟩ (by have := HBD.out.1; omega)).mono ?_
        rintro e w' ⟨rfl, hb⟩
        exact ⟨_, rfl, (HF.out.1 j hj).2, hb⟩
      go_wp2_with fail
      go_loopw [10] (fun v10 wr => ∃ j : Nat, v10 = .int .i64 ((j : Int) + 1) ∧ j ≤ n + 1 ∧ Hid (Below w4.heap.size w4 wr)) (fun v10 _ => n + 2 - (intOf v10).toNat)
      case atStart => exact ⟨0, rfl, Nat.zero_le _, Below.refl _ _⟩
      case round =>
        obtain ⟨j, rfl, hj, HJ⟩ := hrel
        by_cases hjl : j < n + 1
        · have hjI : (j : Int) + 1 ≤ n + 1 := by omega
          have hj0 : (0 : Int) ≤ j := by omega
          have HB1 := hide (HBl.out j hjl)
          have HD1 := hide (HDp.out j hjl)
          clear HBl HDp
          by_cases hle : 16 * ((p : Int) + 1) ≤ 16 * ((j : Int) + 1)
          · rw [decide_eq_true hle] at HB1
            go_wp2_with (first
              | (go_at_call 27; refine (HB1.out _ HJ.out).mono ?_; rintro r w6 ⟨rfl, k6⟩; have K6 := hide (HJ.out.trans (k6.mono HJ.out.size)); clear k6 HB1)
              | (go_at_call 29; refine (HD1.out _ K6.out).mono ?_; rintro r w7 ⟨d, rfl, hd, k7⟩; have K7 := hide (K6.out.trans (k7.mono K6.out.size)); clear k7 HD1))
            go_roundw
            case rel => exact ⟨j + 1, by simp, by omega, K7.out⟩
            case measure => simp [intOf]; omega
          · rw [decide_eq_false hle] at HB1
            go_wp2_with (first
              | (go_at_call 27; refine (HB1.out _ HJ.out).mono ?_; rintro r w6 ⟨rfl, k6⟩; have K6 := hide (HJ.out.trans (k6.mono HJ.out.size)); clear k6 HB1)
              | (go_at_call 29; refine (HD1.out _ K6.out).mono ?_; rintro r w7 ⟨d, rfl, hd, k7⟩; have K7 := hide (K6.out.trans (k7.mono K6.out.size)); clear k7 HD1))
            go_roundw
            case rel => exact ⟨j + 1, by simp, by omega, K7.out⟩
            case measure => simp [intOf]; omega
        · obtain rfl : j = n + 1 := by omega
          rw [hcast]
          clear HBl HDp
          have hA4 : Tw w b (fun _ => False) (addsU (crs (n + 1) ++ [delE (16 * ((p : Int) + 1))])).1 (addsU (crs (n + 1) ++ [delE (16 * ((p : Int) + 1))])).2 wr := A4.out.below HJ.out
          have HG1 : Hid (Calls Try.prog 25 #[.pointer (some ⟨b, 0, none⟩), .int .u64 (16 * ((p : Int) + 1))] wr fun r w' => r = .returned (.tuple #[.agg #[.int .u64 xi, .int .u64 1, .string xn, .bool xd, .string xg, .int .i64 xz], .bool true]) ∧ Below wr.heap.size wr w') := by
            have h1 := getTw_any hA4 (16 * ((p : Int) + 1)) hnum
            have h2 := HF.out.2.1
            unfold tr2 at h2
            rw [h2] at h1
            exact h1
          have HK1 : Hid (∀ v, Below wr.heap.size wr v → Calls Try.prog 26 #[.pointer (some ⟨b, 0, none⟩), .int .u64 1] v fun e w' => (∃ a c, e = .returned (.slice a 1 c)) ∧ Below v.heap.size v w') := fun v k => by
            have h2 : (kidsOf (ths [] (addsU (crs (n + 1) ++ [delE (16 * ((p : Int) + 1))])).1) 1).length = 1 := HF.out.2.2.1
            have h1 := kidsTw_few (hA4.below k) 1 (by rw [h2]; exact Nat.le_refl _) HF.out.2.2.2.2.2.1
            rw [h2] at h1
            exact h1
          have HA3 : Hid (∀ v, Below wr.heap.size wr v → Calls Try.prog 14 #[.pointer (some ⟨b, 0, none⟩), (movE (16 * ((p : Int) + 1))).v] v fun r w' => (∃ x, r = .returned x) ∧ Hid (Tw w b (fun _ => False) (addsU (crs (n + 1) ++ [delE (16 * ((p : Int) + 1))] ++ [movE (16 * ((p : Int) + 1))])).1 (addsU (crs (n + 1) ++ [delE (16 * ((p : Int) + 1))] ++ [movE (16 * ((p : Int) + 1))])).2 w')) := fun v k => by
            have hq3 := HBD.out
            refine (addTw_any _ (hA4.below k) (movE_fits (by omega) (by omega)) (by omega) ⟨hq3.2.1, by omega⟩).mono ?_
            rintro r w' ⟨rfl, h1, _⟩
            have e3 := addsU_snoc (crs (n + 1) ++ [delE (16 * ((p : Int) + 1))]) (movE (16 * ((p : Int) + 1)))
            rw [e3]
            exact ⟨⟨_, rfl⟩, h1⟩
          unfold movE En.v at HA3
          dsimp only at HA3
          have HJ2 := HJ
          clear hA4 HJ
          go_upto_region 20 with (go_at_call 25; refine HG1.out.mono ?_; rintro r w6 ⟨rfl, k6⟩; clear HG1)
          have K6 := hide (And.intro (k6.alloc k6.size (.cells #[.int .u64 xi, .int .u64 1, .string xn, .bool xd, .string xg, .int .i64 xz] 61)) (heap_alloc_new w6 (.cells #[.int .u64 xi, .int .u64 1, .string xn, .bool xd, .string xg, .int .i64 xz] 61 (0, 0))))
          clear k6
          have c6 : (w6.alloc (.cells #[.int .u64 xi, .int .u64 1, .string xn, .bool xd, .string xg, .int .i64 xz] 61)).cell? ⟨w6.heap.size, 1, none⟩ = some (.int .u64 1) := (cell_of_row _ _ _ _ _ _ K6.out.2).trans rfl
          generalize w6.heap.size = g6 at *
          generalize w6.alloc (.cells #[.int .u64 xi, .int .u64 1, .string xn, .bool xd, .string xg, .int .i64 xz] 61) = w7 at *
          go_upto_region 23 with (first
            | (go_at_call 26; refine (HK1.out _ K6.out.1).mono ?_; rintro r w8 ⟨⟨ka, kc, rfl⟩, k8⟩; have K8 := hide (K6.out.1.trans (k8.mono K6.out.1.size)); clear k8 HK1)
            | (go_at_call 14; refine (HA3.out _ K8.out).mono ?_; rintro r w9 ⟨⟨xv, rfl⟩, A9⟩; clear HA3))
          replace A9 : Hid (Tw w b (fun _ => False) (addsU (crs (n + 1) ++ [delE (16 * ((p : Int) + 1))] ++ [movE (16 * ((p : Int) + 1))])).1 (addsU (crs (n + 1) ++ [delE (16 * ((p : Int) + 1))] ++ [movE (16 * ((p : Int) + 1))])).2 w9) := A9.out
          have HG2 : Hid (Calls Try.prog 25 #[.pointer (some ⟨b, 0, none⟩), .int .u64 (16 * ((p : Int) + 1))] w9 fun r w' => r = .returned (.tuple #[.agg #[.int .u64 yi, .int .u64 0, .string ⟨#[98]⟩, .bool yd, .string yg, .int .i64 yz], .bool true]) ∧ Below w9.heap.size w9 w') := by
            have h1 := getTw_any A9.out (16 * ((p : Int) + 1)) hnum
            have h2 := HF.out.2.2.2.1
            unfold tr3 at h2
            rw [h2] at h1
            exact h1
          have HK2 : Hid (∀ v, Below w9.heap.size w9 v → Calls Try.prog 26 #[.pointer (some ⟨b, 0, none⟩), .int .u64 1] v fun e w' => (∃ a c, e = .returned (.slice a 0 c)) ∧ Below v.heap.size v w') := fun v k => by
            have h2 : (kidsOf (ths [] (addsU (crs (n + 1) ++ [delE (16 * ((p : Int) + 1))] ++ [movE (16 * ((p : Int) + 1))])).1) 1).length = 0 := HF.out.2.2.2.2.1
            have h1 := kidsTw_few (A9.out.below k) 1 (by rw [h2]; decide) (fun e => by have h3 := HF.out.2.2.2.2.2.2; unfold tr3 at h3; rw [e] at h3; cases h3)
            rw [h2] at h1
            exact h1
          have KW9 := hide A9.out.k
          clear A9 A4
          go_upto_region 24 with (go_at_call 25; refine HG2.out.mono ?_; rintro r w10 ⟨rfl, k10⟩; clear HG2)
          have hrow := heap_alloc_new w10 (.cells #[.int .u64 yi, .int .u64 0, .string ⟨#[98]⟩, .bool yd, .string yg, .int .i64 yz] 61 (0, 0))
          have d1 : (w10.alloc (.cells #[.int .u64 yi, .int .u64 0, .string ⟨#[98]⟩, .bool yd, .string yg, .int .i64 yz] 61)).cell? ⟨w10.heap.size, 1, none⟩ = some (.int .u64 0) := (cell_of_row _ _ _ _ _ _ hrow).trans rfl
          have d2 : (w10.alloc (.cells #[.int .u64 yi, .int .u64 0, .string ⟨#[98]⟩, .bool yd, .string yg, .int .i64 yz] 61)).cell? ⟨w10.heap.size, 2, none⟩ = some (.string ⟨#[98]⟩) := (cell_of_row _ _ _ _ _ _ hrow).trans rfl
          have K10 := hide (k10.alloc k10.size (.cells #[.int .u64 yi, .int .u64 0, .string ⟨#[98]⟩, .bool yd, .string yg, .int .i64 yz] 61))
          clear hrow k10
          generalize w10.heap.size = g10 at *
          generalize w10.alloc (.cells #[.int .u64 yi, .int .u64 0, .string ⟨#[98]⟩, .bool yd, .string yg, .int .i64 yz] 61) = w11 at *
          go_wp2_with (go_at_call 26; refine (HK2.out _ K10.out).mono ?_; rintro r w12 ⟨⟨ka2, kc2, rfl⟩, k12⟩; have K12 := hide (K10.out.trans (k12.mono K10.out.size)); clear k12 HK2)
          go_ret
          exact ⟨by simp, KW9.out.trans (K12.out.mono KW9.out.size)⟩
end Go.Proofs.Ytohdadjknefjcaa
