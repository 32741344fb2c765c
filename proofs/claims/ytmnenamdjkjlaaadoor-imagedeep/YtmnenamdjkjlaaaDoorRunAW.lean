/- Several texts in one: ImageDeepWalk, NameFrame. -/
import Derived.Test.YtmnenamdjkjlaaaDoorRunAU
import Derived.Test.YtmnenamdjkjlaaaDoorImageChain
import Derived.Test.YtmnenamdjkjlaaaDoorHeldLex
import Derived.Test.YtmnenamdjkjlaaaDoorWirePure
import Derived.Test.YtmnenamdjkjlaaaDoorRunAO
import Derived.ProofKit
import Derived.LaidMore
import Derived.OpenShut
import Derived.ShutString
import Derived.Lib.LaidTab
import Derived.Stop.LaidErr
/- The walk: folders within folders have paths up to so many bytes. -/
namespace Go.Proofs.YtmnenamdjkjlaaaDoor
open Go.RowKit Go.Img Go.Shelf Go.Rws Go.MapInt Go.Opn
open Go.Mov hiding fold
attribute [local go_sem] Oper.semAt_some
set_option maxHeartbeats 8000000 in
set_option maxRecDepth 100000 in
theorem imageDeep_any (n long : Int) (w : World) (hv : Vt w) : Calls Tryd.prog 3 #[.int .i64 n, .int .i64 long] w fun r w' => r = .returned (.bool true) ∧ Below w.heap.size w w' := by
  obtain ⟨k0, hk0, hk1⟩ := Wire.and_small long 31 (by decide)
  obtain ⟨m, hm, hm1⟩ := Wire.and_small n 127 (by decide)
  have hk2 : bits .and .i64 long 31 = (k0 : Int) := hk1
  have hm2 : bits .and .i64 n 127 = (m : Int) := hm1
  clear hk1 hm1
  obtain ⟨k, hk⟩ : ∃ k : Nat, k = k0 + 1 := ⟨_, rfl⟩
  have hk32 : k ≤ 32 := by omega
  have hk1 : 1 ≤ k := by omega
  have hkl : (k0 : Int) ≤ 31 := by omega
  have hkz : (0 : Int) ≤ k0 := by omega
  have hmI : (m : Int) ≤ 127 := by omega
  have hm0 : (0 : Int) ≤ m := by omega
  have HN := hide (newTw_any w)
  have HA := hide (fun v (h : Vt v) => awake15_any v h)
  have HV := hide hv
  clear hv
  go_enter Tryd.func3, Tryd.ntmps3
  go_upto_region 2 with fail
  have hkI : (k0 : Int) + 1 = k := by omega
  simp only [hkI]
  clear hk hk0 hkI hkl hkz hk2
  have hkL : (k : Int) ≤ 32 := by omega
  have hkZ : (1 : Int) ≤ k := by omega
  go_wp2_with fail
  go_loopw [6, 7] (fun v6 v7 wr => ∃ i : Nat, v6 = .string (nmA i) ∧ v7 = .int .i64 i ∧ i ≤ k ∧ w = wr) (fun _ v7 _ => k + 1 - (intOf v7).toNat)
  case atStart => exact ⟨0, rfl, rfl, Nat.zero_le _, rfl⟩
  case round =>
    obtain ⟨i, rfl, rfl, hi, hw⟩ := hrel
    subst hw
    by_cases hlt : i < k
    · have hltI : (i : Int) < k := by omega
      have hi0 : (0 : Int) ≤ i := by omega
      have hsz : (nmA i).size ≤ 32 := by have : (nmA i).size = i := by unfold nmA aes; simp [ByteArray.size]
                                         omega
      have hszI : ((nmA i).size : Int) ≤ 32 := by omega
      go_wp2_with fail
      go_roundw
      case rel =>
        refine ⟨i + 1, ?_, by simp, by omega, trivial⟩
        unfold nmA aes
        rw [List.replicate_succ']
        rfl
      case measure => simp [intOf]; omega
    · obtain rfl : k = i := by omega
      have hltI : ¬ (k : Int) < k := by omega
      go_upto_region 8 with (go_at_call 4; refine HN.out.mono ?_; rintro r w1 ⟨b, rfl, h1⟩; have I1 := hide h1; clear h1 HN)
      go_upto_region 10 with (go_at_call 5; refine (HA.out _ (HV.out.below HV.out.size I1.out.k)).mono ?_; rintro r w3 ⟨rfl, h3⟩; have I3 := hide (I1.out.below h3); clear h3 HA)
      clear hltI hlt hi
      go_wp2_with fail
      go_loopw [10] (fun v10 wr => ∃ i : Nat, v10 = .int .i64 ((i : Int) + 1) ∧ i ≤ m ∧ Hid (Tw w b (fun _ => False) (addsU (chEs k i)).1 (addsU (chEs k i)).2 wr)) (fun v10 _ => m + 2 - (intOf v10).toNat)
      case atStart => exact ⟨0, rfl, Nat.zero_le _, I3.out⟩
      case round =>
        obtain ⟨i, rfl, hi, HI⟩ := hrel
        clear I3 I1
        have hbd := addsU_bound (chEs k i)
        have hcl : (chEs k i).length = i := by unfold chEs; simp
        rw [hcl] at hbd
        have hii : (i : Int) * i ≤ 20000 := by
          have h2 : i * i ≤ 128 * 128 := Nat.mul_le_mul (by omega) (by omega)
          have h3 : ((i * i : Nat) : Int) ≤ ((128 * 128 : Nat) : Int) := Int.ofNat_le.2 h2
          simp only [Int.natCast_mul] at h3
          omega
        by_cases hlt : i < m
        · have hltI : (i : Int) + 1 ≤ m := by omega
          have hi0 : (0 : Int) ≤ i := by omega
          have HAd : Hid (∀ v, Below wr.heap.size wr v → Calls Tryd.prog 6 #[.pointer (some ⟨b, 0, none⟩), (chE k ((i : Int) + 1)).v] v fun r w' => (∃ x, r = .returned x) ∧ Hid (Tw w b (fun _ => False) (addsU (chEs k (i + 1))).1 (addsU (chEs k (i + 1))).2 w')) := fun v kk => by
            refine (addTw_any _ (HI.out.below kk) (chE_fits hk32 (by omega) (by omega)) (by omega) ⟨hbd.2.1, by omega⟩).mono ?_
            rintro r w' ⟨rfl, h1, _⟩
            rw [chEs_next, addsU_snoc]
            exact ⟨⟨_, rfl⟩, h1⟩
          unfold chE En.v at HAd
          dsimp only at HAd
          have e1 : (i : Int) + 1 - 1 = i := by omega
          rw [e1] at HAd
          clear HI hbd hii hcl
          generalize nmA k = nm at *
          cases i with
          | zero =>
            simp only [Int.natCast_zero, Int.zero_add, Int.mul_zero, Int.mul_one] at HAd
            go_wp2_with (go_at_call 6; refine (HAd.out _ ((Below.refl _ wr).alloc (Nat.le_refl _) _)).mono ?_; rintro r w5 ⟨⟨x, rfl⟩, A5⟩; clear HAd)
            go_roundw
            case rel => exact ⟨1, rfl, by omega, A5.out⟩
            case measure => simp [intOf]
          | succ i0 =>
            have hj : (1 : Int) < (i0 + 1 : Nat) + 1 := by omega
            have hj8 : ((i0 + 1 : Nat) : Int) ≤ 127 := by omega
            generalize i0 + 1 = j at *
            go_wp2_with (go_at_call 6; refine (HAd.out _ ((Below.refl _ wr).alloc (Nat.le_refl _) _)).mono ?_; rintro r w5 ⟨⟨x, rfl⟩, A5⟩; clear HAd)
            go_roundw
            case rel => exact ⟨j + 1, by simp, by omega, A5.out⟩
            case measure => simp [intOf]; omega
        · obtain rfl : m = i := by omega
          have hltI : ¬ (m : Int) + 1 ≤ m := by omega
          clear hbd hii hcl hlt hi
          rw [adds_ch] at HI
          obtain ⟨M, hM⟩ : ∃ M, M = manyA k m := ⟨_, rfl⟩
          have hMm : M ≤ m := by rw [hM]; unfold manyA; omega
          have HMi := hide (fun (i : Nat) => (many_iff (k := k) (m := m) (i := i) hk1).trans Iff.rfl)
          rw [← hM] at HMi
          have HM := hide hM
          clear hM
          go_upto_region 20 with fail
          clear hltI
          go_wp2_with fail
          go_loopw [12, 13] (fun v12 v13 wx => ∃ i : Nat, v12 = .int .i64 i ∧ v13 = .int .i64 ((i : Int) + 1) ∧ i ≤ M ∧ wr = wx) (fun _ v13 _ => m + 2 - (intOf v13).toNat)
          case atStart => exact ⟨0, rfl, rfl, Nat.zero_le _, rfl⟩
          case round =>
            obtain ⟨i, rfl, rfl, hi, hw⟩ := hrel
            subst hw
            have hprod : ((i : Int) + 1) * ((k : Int) + 1) = (((i + 1) * (k + 1) : Nat) : Int) := by simp
            have hp1 : (i + 1) * (k + 1) ≤ 128 * 33 := Nat.mul_le_mul (by omega) (by omega)
            have hp2 : 1 * 2 ≤ (i + 1) * (k + 1) := Nat.mul_le_mul (by omega) (by omega)
            have hpa : ((i : Int) + 1) * ((k : Int) + 1) ≤ 5000 := by omega
            have hpb : 2 ≤ ((i : Int) + 1) * ((k : Int) + 1) := by omega
            by_cases hlt : i < M
            · obtain ⟨hq1, hq2⟩ := (HMi.out i).1 hlt
              have hq3 : (i : Int) + 1 ≤ m := by omega
              have hq4 : ((i : Int) + 1) * ((k : Int) + 1) - 1 ≤ 238 := by omega
              clear hprod hp1 hp2
              go_wp2_with fail
              go_roundw
              case rel => exact ⟨i + 1, by simp, by simp, by omega, trivial⟩
              case measure => simp [intOf]; omega
            · obtain rfl : M = i := by omega
              have hno := fun h => hlt ((HMi.out M).2 h)
              by_cases hq3 : (M : Int) + 1 ≤ m
              · have hq4 : ¬ ((M : Int) + 1) * ((k : Int) + 1) - 1 ≤ 238 := fun h => hno ⟨by omega, by omega⟩
                clear hprod hp1 hp2 hno hlt
                go_upto_region 23 with fail
                have hfit : ∀ e ∈ chEs k m, e.Fits := chEs_fits hk32 (by omega)
                have HO : Hid (Calls Tryd.prog 7 #[.pointer (some ⟨b, 0, none⟩)] wr fun e w' => ∃ v, e = .returned v ∧ OwnR Fi.cs 5 37 wr v (fsA k M) w') := by
                  obtain ⟨mb, hT⟩ := HI.out.ths
                  have hf := ths_fine Fine.nil hfit
                  have hd := dirs_ths _ Fine.nil Dirs.nil hfit
                  rw [ths_ch] at hT hf hd
                  have h9 := of_any wr (HV.out.below HV.out.size HI.out.k) hT hf hd (by unfold chain; simp; omega) (fun x hx => by
                    obtain ⟨j, hj, rfl⟩ := chain_mem hx
                    show (nmA k).size ≤ 1000000
                    have : (nmA k).size = k := by unfold nmA aes; simp [ByteArray.size]
                    omega)
                  rw [img_ch hk1 hk32 (by omega), ← HM.out] at h9
                  exact h9
                have HKw := hide HI.out.k
                clear HI HM hfit
                go_upto_region 24 with (go_at_call 7; refine HO.out.mono ?_; rintro r w4 ⟨v, rfl, ho⟩; have HW := hide ho; clear ho HO)
                have HKB := hide (HKw.out.trans (HW.out.below.mono HKw.out.size))
                have hR := HW.out.rows Fi.cs_length
                obtain ⟨a, c, hv, hat⟩ : ∃ a c, v = .slice a M c ∧ (1 ≤ M → ∃ g off, a = some ⟨g, off, none⟩ ∧ M ≤ c ∧ g < w4.heap.size ∧ ∀ i x, (fsA k M)[i]? = some x → w4.rangeAt g (off + i * 5) (Fi.cs x)) := by
                  rcases hR with ⟨⟨a, c, h1⟩, h2⟩ | ⟨g, off, cap, h1, h2, h3, h4⟩
                  · have : M = 0 := by rw [← fsA_len k M, h2]; rfl
                    subst this
                    exact ⟨a, c, h1, fun h => by omega⟩
                  · rw [fsA_len] at h1 h3
                    exact ⟨_, cap, h1, fun _ => ⟨g, off, rfl, h3, h2, h4⟩⟩
                subst hv
                have HAT := hide hat
                clear hat hR HW HKw
                have hMI : (M : Int) ≤ 127 := by omega
                clear hpa hpb
                go_wp2_with fail
                go_loopw [15] (fun v15 wx => ∃ j : Nat, v15 = .int .i64 j ∧ 1 ≤ j ∧ (j ≤ M ∨ j = 1) ∧ Hid (Below w4.heap.size w4 wx)) (fun v15 _ => 300 - (intOf v15).toNat)
                case atStart => exact ⟨1, rfl, Nat.le_refl _, .inr rfl, Below.refl _ _⟩
                case round =>
                  obtain ⟨j, rfl, hj1, hj2, HJ⟩ := hrel
                  rename World => wz
                  by_cases hlj : j < M
                  · obtain ⟨i, hi⟩ : ∃ i, j = i + 1 := ⟨j - 1, by omega⟩
                    obtain ⟨g, off, rfl, hcap, hgl, hrg⟩ := HAT.out (by omega)
                    have hjI : (j : Int) < M := by omega
                    have hcI : (M : Int) ≤ c := by omega
                    have hj0 : (0 : Int) ≤ j := by omega
                    have hji : ((j : Int) - 1).toNat = i := by omega
                    have hjm : (j : Int) - 1 < M := by omega
                    have hjz : (0 : Int) ≤ (j : Int) - 1 := by omega
                    have hjt : (j : Int) ≤ 127 := by omega
                    have hjo : (1 : Int) ≤ j := by omega
                    have hiI : (i : Int) < M := by omega
                    have hi0 : (0 : Int) ≤ i := by omega
                    obtain ⟨hq1, hq2⟩ := (HMi.out j).1 hlj
                    have hbl : (pathA k (j + 1)).length = (j + 1) * (k + 1) - 1 := pathA_len hk1 j
                    have hal : (pathA k j).length ≤ 400 := by
                      have h1 := pathA_len hk1 i
                      rw [← hi] at h1
                      have h2 : j * (k + 1) ≤ (j + 1) * (k + 1) := Nat.mul_le_mul_right _ (by omega)
                      omega
                    have hbe := fun v => rbefore15_any (pathA k j) (pathA k (j + 1)) v hal (by omega)
                    have hbt : decide (cmpP (pathA k j) (pathA k (j + 1)) < 0) = true := by rw [← befP_cmp]; exact before_ch hk1 j
                    rw [hbt] at hbe
                    have hf0 := fsA_at (k := k) (n := M) (i := i) (by omega)
                    have hf1 := fsA_at (k := k) (n := M) (i := j) hlj
                    obtain ⟨A, hA⟩ : ∃ A : ByteArray, A = ⟨(pathA k j).toArray⟩ := ⟨_, rfl⟩
                    obtain ⟨B, hB⟩ : ∃ B : ByteArray, B = ⟨(pathA k (j + 1)).toArray⟩ := ⟨_, rfl⟩
                    have hC : ∀ v, Below w4.heap.size w4 v → v.cell? ⟨g, off + i * 5, none⟩ = some (.string A) ∧ v.cell? ⟨g, off + j * 5, none⟩ = some (.string B) := fun v kv => by
                      have c0 := (cells5f (rangeAt_below (hrg i _ hf0) hgl kv)).1
                      have c1 := (cells5f (rangeAt_below (hrg j _ hf1) hgl kv)).1
                      rw [hA, hB]
                      refine ⟨?_, c1⟩
                      rw [c0]
                      show some (Value.string ⟨(pathA k (i + 1)).toArray⟩) = _
                      rw [← hi]
                    have hprod : ((j : Int) + 1) * ((k : Int) + 1) = (((j + 1) * (k + 1) : Nat) : Int) := by simp
                    have hp1 : (j + 1) * (k + 1) ≤ 128 * 33 := Nat.mul_le_mul (by omega) (by omega)
                    have hp2 : 1 * 2 ≤ (j + 1) * (k + 1) := Nat.mul_le_mul (by omega) (by omega)
                    have hpa : ((j : Int) + 1) * ((k : Int) + 1) ≤ 5000 := by omega
                    have hpb : 2 ≤ ((j : Int) + 1) * ((k : Int) + 1) := by omega
                    have hsz : (B.size : Int) = ((j : Int) + 1) * ((k : Int) + 1) - 1 := by
                      have : B.size = (pathA k (j + 1)).length := by rw [hB]; simp [ByteArray.size]
                      omega
                    rw [← hA, ← hB] at hbe
                    have HC := hide hC
                    have HBe := hide hbe
                    clear hA hB hC hbe hbt hf0 hf1 hal hbl hq1 hq2 hrg hgl hi hprod hp1 hp2 HAT HMi
                    have K9 : Hid (Below w4.heap.size w4 wz) := HJ.out
                    go_upto_region 27 with fail
                    replace K9 : Hid (Below w4.heap.size w4 wz.drew) := K9.out.trans ⟨rfl, rfl, rfl, Nat.le_refl _, fun _ _ => rfl⟩
                    refine Held.region (fun v => Below w4.heap.size w4 v) [true, true, true, true, true, true, true, true, true, true, true, false, true, true, true, true, true, true, true, true, true, true, true, true, true, true, true, true] (by kernel_rfl) (by kernel_rfl) rfl (fun d _ _ _ _ h => by cases d <;> exact h) K9.out ?_
                    refine Held.take (.slice (some ⟨g, off, none⟩) M c) rfl (fun v hv => by go_simp) ?_; simp only [Act.put, List.setIfInBounds_toArray, List.set_cons_succ, List.set_cons_zero]
                    refine Held.take (.int .i64 j) rfl (fun v hv => by go_simp) ?_; simp only [Act.put, List.setIfInBounds_toArray, List.set_cons_succ, List.set_cons_zero]
                    refine Held.take (.int .i64 ((j : Int) - 1)) rfl (fun v hv => by have hw : IntKind.i64.wrap ((j : Int) - 1) = ((j : Int) - 1) := (by rw [IntKind.wrap_i64]; omega); go_simp) ?_; simp only [Act.put, List.setIfInBounds_toArray, List.set_cons_succ, List.set_cons_zero]
                    refine Held.take (.pointer (some ⟨g, off + i * 5, none⟩)) rfl (fun v hv => by go_simp) ?_; simp only [Act.put, List.setIfInBounds_toArray, List.set_cons_succ, List.set_cons_zero]
                    refine Held.take (.pointer (some ⟨g, off + i * 5, none⟩)) rfl (fun v hv => by go_simp) ?_; simp only [Act.put, List.setIfInBounds_toArray, List.set_cons_succ, List.set_cons_zero]
                    refine Held.take (.string A) rfl (fun v hv => by have hc := (HC.out v hv).1; go_simp) ?_; simp only [Act.put, List.setIfInBounds_toArray, List.set_cons_succ, List.set_cons_zero]
                    refine Held.take (.slice (some ⟨g, off, none⟩) M c) rfl (fun v hv => by go_simp) ?_; simp only [Act.put, List.setIfInBounds_toArray, List.set_cons_succ, List.set_cons_zero]
                    refine Held.take (.int .i64 j) rfl (fun v hv => by go_simp) ?_; simp only [Act.put, List.setIfInBounds_toArray, List.set_cons_succ, List.set_cons_zero]
                    refine Held.take (.pointer (some ⟨g, off + j * 5, none⟩)) rfl (fun v hv => by go_simp) ?_; simp only [Act.put, List.setIfInBounds_toArray, List.set_cons_succ, List.set_cons_zero]
                    refine Held.take (.pointer (some ⟨g, off + j * 5, none⟩)) rfl (fun v hv => by go_simp) ?_; simp only [Act.put, List.setIfInBounds_toArray, List.set_cons_succ, List.set_cons_zero]
                    refine Held.take (.string B) rfl (fun v hv => by have hc := (HC.out v hv).2; go_simp) ?_; simp only [Act.put, List.setIfInBounds_toArray, List.set_cons_succ, List.set_cons_zero]
                    refine Held.call 8 #[.string A, .string B] (.bool true) (fun v => Below w4.heap.size w4 v) rfl (by kernel_rfl) ((HBe.out _).mono fun e x h => ⟨h.1, K9.out.trans (h.2.mono K9.out.size)⟩) ?_; intro w6 k6; refine ⟨k6, ?_⟩; clear K9; have K6 := hide k6; clear k6; simp only [Act.put, List.setIfInBounds_toArray, List.set_cons_succ, List.set_cons_zero]
                    refine Held.take (.bool false) rfl (fun v hv => by go_simp) ?_; simp only [Act.put, List.setIfInBounds_toArray, List.set_cons_succ, List.set_cons_zero]
                    refine Held.take (.bool false) rfl (fun v hv => by go_simp) ?_; simp only [Act.put, List.setIfInBounds_toArray, List.set_cons_succ, List.set_cons_zero]
                    refine Held.take (.slice (some ⟨g, off, none⟩) M c) rfl (fun v hv => by go_simp) ?_; simp only [Act.put, List.setIfInBounds_toArray, List.set_cons_succ, List.set_cons_zero]
                    refine Held.take (.int .i64 j) rfl (fun v hv => by go_simp) ?_; simp only [Act.put, List.setIfInBounds_toArray, List.set_cons_succ, List.set_cons_zero]
                    refine Held.take (.pointer (some ⟨g, off + j * 5, none⟩)) rfl (fun v hv => by go_simp) ?_; simp only [Act.put, List.setIfInBounds_toArray, List.set_cons_succ, List.set_cons_zero]
                    refine Held.take (.pointer (some ⟨g, off + j * 5, none⟩)) rfl (fun v hv => by go_simp) ?_; simp only [Act.put, List.setIfInBounds_toArray, List.set_cons_succ, List.set_cons_zero]
                    refine Held.take (.string B) rfl (fun v hv => by have hc := (HC.out v hv).2; go_simp) ?_; simp only [Act.put, List.setIfInBounds_toArray, List.set_cons_succ, List.set_cons_zero]
                    refine Held.take (.int .i64 B.size) rfl (fun v hv => by go_simp) ?_; simp only [Act.put, List.setIfInBounds_toArray, List.set_cons_succ, List.set_cons_zero]
                    refine Held.take (.int .i64 j) rfl (fun v hv => by go_simp) ?_; simp only [Act.put, List.setIfInBounds_toArray, List.set_cons_succ, List.set_cons_zero]
                    refine Held.take (.int .i64 ((j : Int) + 1)) rfl (fun v hv => by have hw : IntKind.i64.wrap ((j : Int) + 1) = ((j : Int) + 1) := (by rw [IntKind.wrap_i64]; omega); go_simp) ?_; simp only [Act.put, List.setIfInBounds_toArray, List.set_cons_succ, List.set_cons_zero]
                    refine Held.take (.int .i64 k) rfl (fun v hv => by go_simp) ?_; simp only [Act.put, List.setIfInBounds_toArray, List.set_cons_succ, List.set_cons_zero]
                    refine Held.take (.int .i64 ((k : Int) + 1)) rfl (fun v hv => by have hw : IntKind.i64.wrap ((k : Int) + 1) = ((k : Int) + 1) := (by rw [IntKind.wrap_i64]; omega); go_simp) ?_; simp only [Act.put, List.setIfInBounds_toArray, List.set_cons_succ, List.set_cons_zero]
                    refine Held.take (.int .i64 (((j : Int) + 1) * ((k : Int) + 1))) rfl (fun v hv => by have hw : IntKind.i64.wrap (((j : Int) + 1) * ((k : Int) + 1)) = (((j : Int) + 1) * ((k : Int) + 1)) := (by rw [IntKind.wrap_i64]; omega); go_simp) ?_; simp only [Act.put, List.setIfInBounds_toArray, List.set_cons_succ, List.set_cons_zero]
                    refine Held.take (.int .i64 (((j : Int) + 1) * ((k : Int) + 1) - 1)) rfl (fun v hv => by have hw : IntKind.i64.wrap (((j : Int) + 1) * ((k : Int) + 1) - 1) = (((j : Int) + 1) * ((k : Int) + 1) - 1) := (by rw [IntKind.wrap_i64]; omega); go_simp) ?_; simp only [Act.put, List.setIfInBounds_toArray, List.set_cons_succ, List.set_cons_zero]
                    refine Held.take (.bool false) rfl (fun v hv => by go_simp) ?_; simp only [Act.put, List.setIfInBounds_toArray, List.set_cons_succ, List.set_cons_zero]
                    refine Held.take (.bool false) rfl (fun v hv => by go_simp) ?_; simp only [Act.put, List.setIfInBounds_toArray, List.set_cons_succ, List.set_cons_zero]
                    show Exit.then _ _ _ _ _
                    go_wp2_with fail
                    go_roundw
                    case rel => exact ⟨j + 1, by simp, by omega, .inl (by omega), K6.out⟩
                    case measure => simp [intOf]; omega
                  · have hjI : ¬ (j : Int) < M := by omega
                    have HE : Hid (Below w.heap.size w _) := HKB.out.trans (HJ.out.mono HKB.out.size)
                    clear hj2 hlj HAT HMi HJ HKB
                    go_wp2_with fail
                    go_ret
                    exact ⟨rfl, HE.out⟩
              · clear hprod hp1 hp2 hno hlt
                go_upto_region 23 with fail
                have hfit : ∀ e ∈ chEs k m, e.Fits := chEs_fits hk32 (by omega)
                have HO : Hid (Calls Tryd.prog 7 #[.pointer (some ⟨b, 0, none⟩)] wr fun e w' => ∃ v, e = .returned v ∧ OwnR Fi.cs 5 37 wr v (fsA k M) w') := by
                  obtain ⟨mb, hT⟩ := HI.out.ths
                  have hf := ths_fine Fine.nil hfit
                  have hd := dirs_ths _ Fine.nil Dirs.nil hfit
                  rw [ths_ch] at hT hf hd
                  have h9 := of_any wr (HV.out.below HV.out.size HI.out.k) hT hf hd (by unfold chain; simp; omega) (fun x hx => by
                    obtain ⟨j, hj, rfl⟩ := chain_mem hx
                    show (nmA k).size ≤ 1000000
                    have : (nmA k).size = k := by unfold nmA aes; simp [ByteArray.size]
                    omega)
                  rw [img_ch hk1 hk32 (by omega), ← HM.out] at h9
                  exact h9
                have HKw := hide HI.out.k
                clear HI HM hfit
                go_upto_region 24 with (go_at_call 7; refine HO.out.mono ?_; rintro r w4 ⟨v, rfl, ho⟩; have HW := hide ho; clear ho HO)
                have HKB := hide (HKw.out.trans (HW.out.below.mono HKw.out.size))
                have hR := HW.out.rows Fi.cs_length
                obtain ⟨a, c, hv, hat⟩ : ∃ a c, v = .slice a M c ∧ (1 ≤ M → ∃ g off, a = some ⟨g, off, none⟩ ∧ M ≤ c ∧ g < w4.heap.size ∧ ∀ i x, (fsA k M)[i]? = some x → w4.rangeAt g (off + i * 5) (Fi.cs x)) := by
                  rcases hR with ⟨⟨a, c, h1⟩, h2⟩ | ⟨g, off, cap, h1, h2, h3, h4⟩
                  · have : M = 0 := by rw [← fsA_len k M, h2]; rfl
                    subst this
                    exact ⟨a, c, h1, fun h => by omega⟩
                  · rw [fsA_len] at h1 h3
                    exact ⟨_, cap, h1, fun _ => ⟨g, off, rfl, h3, h2, h4⟩⟩
                subst hv
                have HAT := hide hat
                clear hat hR HW HKw
                have hMI : (M : Int) ≤ 127 := by omega
                clear hpa hpb
                go_wp2_with fail
                go_loopw [15] (fun v15 wx => ∃ j : Nat, v15 = .int .i64 j ∧ 1 ≤ j ∧ (j ≤ M ∨ j = 1) ∧ Hid (Below w4.heap.size w4 wx)) (fun v15 _ => 300 - (intOf v15).toNat)
                case atStart => exact ⟨1, rfl, Nat.le_refl _, .inr rfl, Below.refl _ _⟩
                case round =>
                  obtain ⟨j, rfl, hj1, hj2, HJ⟩ := hrel
                  rename World => wz
                  by_cases hlj : j < M
                  · obtain ⟨i, hi⟩ : ∃ i, j = i + 1 := ⟨j - 1, by omega⟩
                    obtain ⟨g, off, rfl, hcap, hgl, hrg⟩ := HAT.out (by omega)
                    have hjI : (j : Int) < M := by omega
                    have hcI : (M : Int) ≤ c := by omega
                    have hj0 : (0 : Int) ≤ j := by omega
                    have hji : ((j : Int) - 1).toNat = i := by omega
                    have hjm : (j : Int) - 1 < M := by omega
                    have hjz : (0 : Int) ≤ (j : Int) - 1 := by omega
                    have hjt : (j : Int) ≤ 127 := by omega
                    have hjo : (1 : Int) ≤ j := by omega
                    have hiI : (i : Int) < M := by omega
                    have hi0 : (0 : Int) ≤ i := by omega
                    obtain ⟨hq1, hq2⟩ := (HMi.out j).1 hlj
                    have hbl : (pathA k (j + 1)).length = (j + 1) * (k + 1) - 1 := pathA_len hk1 j
                    have hal : (pathA k j).length ≤ 400 := by
                      have h1 := pathA_len hk1 i
                      rw [← hi] at h1
                      have h2 : j * (k + 1) ≤ (j + 1) * (k + 1) := Nat.mul_le_mul_right _ (by omega)
                      omega
                    have hbe := fun v => rbefore15_any (pathA k j) (pathA k (j + 1)) v hal (by omega)
                    have hbt : decide (cmpP (pathA k j) (pathA k (j + 1)) < 0) = true := by rw [← befP_cmp]; exact before_ch hk1 j
                    rw [hbt] at hbe
                    have hf0 := fsA_at (k := k) (n := M) (i := i) (by omega)
                    have hf1 := fsA_at (k := k) (n := M) (i := j) hlj
                    obtain ⟨A, hA⟩ : ∃ A : ByteArray, A = ⟨(pathA k j).toArray⟩ := ⟨_, rfl⟩
                    obtain ⟨B, hB⟩ : ∃ B : ByteArray, B = ⟨(pathA k (j + 1)).toArray⟩ := ⟨_, rfl⟩
                    have hC : ∀ v, Below w4.heap.size w4 v → v.cell? ⟨g, off + i * 5, none⟩ = some (.string A) ∧ v.cell? ⟨g, off + j * 5, none⟩ = some (.string B) := fun v kv => by
                      have c0 := (cells5f (rangeAt_below (hrg i _ hf0) hgl kv)).1
                      have c1 := (cells5f (rangeAt_below (hrg j _ hf1) hgl kv)).1
                      rw [hA, hB]
                      refine ⟨?_, c1⟩
                      rw [c0]
                      show some (Value.string ⟨(pathA k (i + 1)).toArray⟩) = _
                      rw [← hi]
                    have hprod : ((j : Int) + 1) * ((k : Int) + 1) = (((j + 1) * (k + 1) : Nat) : Int) := by simp
                    have hp1 : (j + 1) * (k + 1) ≤ 128 * 33 := Nat.mul_le_mul (by omega) (by omega)
                    have hp2 : 1 * 2 ≤ (j + 1) * (k + 1) := Nat.mul_le_mul (by omega) (by omega)
                    have hpa : ((j : Int) + 1) * ((k : Int) + 1) ≤ 5000 := by omega
                    have hpb : 2 ≤ ((j : Int) + 1) * ((k : Int) + 1) := by omega
                    have hsz : (B.size : Int) = ((j : Int) + 1) * ((k : Int) + 1) - 1 := by
                      have : B.size = (pathA k (j + 1)).length := by rw [hB]; simp [ByteArray.size]
                      omega
                    rw [← hA, ← hB] at hbe
                    have HC := hide hC
                    have HBe := hide hbe
                    clear hA hB hC hbe hbt hf0 hf1 hal hbl hq1 hq2 hrg hgl hi hprod hp1 hp2 HAT HMi
                    have K9 : Hid (Below w4.heap.size w4 wz) := HJ.out
                    go_upto_region 27 with fail
                    replace K9 : Hid (Below w4.heap.size w4 wz.drew) := K9.out.trans ⟨rfl, rfl, rfl, Nat.le_refl _, fun _ _ => rfl⟩
                    refine Held.region (fun v => Below w4.heap.size w4 v) [true, true, true, true, true, true, true, true, true, true, true, false, true, true, true, true, true, true, true, true, true, true, true, true, true, true, true, true] (by kernel_rfl) (by kernel_rfl) rfl (fun d _ _ _ _ h => by cases d <;> exact h) K9.out ?_
                    refine Held.take (.slice (some ⟨g, off, none⟩) M c) rfl (fun v hv => by go_simp) ?_; simp only [Act.put, List.setIfInBounds_toArray, List.set_cons_succ, List.set_cons_zero]
                    refine Held.take (.int .i64 j) rfl (fun v hv => by go_simp) ?_; simp only [Act.put, List.setIfInBounds_toArray, List.set_cons_succ, List.set_cons_zero]
                    refine Held.take (.int .i64 ((j : Int) - 1)) rfl (fun v hv => by have hw : IntKind.i64.wrap ((j : Int) - 1) = ((j : Int) - 1) := (by rw [IntKind.wrap_i64]; omega); go_simp) ?_; simp only [Act.put, List.setIfInBounds_toArray, List.set_cons_succ, List.set_cons_zero]
                    refine Held.take (.pointer (some ⟨g, off + i * 5, none⟩)) rfl (fun v hv => by go_simp) ?_; simp only [Act.put, List.setIfInBounds_toArray, List.set_cons_succ, List.set_cons_zero]
                    refine Held.take (.pointer (some ⟨g, off + i * 5, none⟩)) rfl (fun v hv => by go_simp) ?_; simp only [Act.put, List.setIfInBounds_toArray, List.set_cons_succ, List.set_cons_zero]
                    refine Held.take (.string A) rfl (fun v hv => by have hc := (HC.out v hv).1; go_simp) ?_; simp only [Act.put, List.setIfInBounds_toArray, List.set_cons_succ, List.set_cons_zero]
                    refine Held.take (.slice (some ⟨g, off, none⟩) M c) rfl (fun v hv => by go_simp) ?_; simp only [Act.put, List.setIfInBounds_toArray, List.set_cons_succ, List.set_cons_zero]
                    refine Held.take (.int .i64 j) rfl (fun v hv => by go_simp) ?_; simp only [Act.put, List.setIfInBounds_toArray, List.set_cons_succ, List.set_cons_zero]
                    refine Held.take (.pointer (some ⟨g, off + j * 5, none⟩)) rfl (fun v hv => by go_simp) ?_; simp only [Act.put, List.setIfInBounds_toArray, List.set_cons_succ, List.set_cons_zero]
                    refine Held.take (.pointer (some ⟨g, off + j * 5, none⟩)) rfl (fun v hv => by go_simp) ?_; simp only [Act.put, List.setIfInBounds_toArray, List.set_cons_succ, List.set_cons_zero]
                    refine Held.take (.string B) rfl (fun v hv => by have hc := (HC.out v hv).2; go_simp) ?_; simp only [Act.put, List.setIfInBounds_toArray, List.set_cons_succ, List.set_cons_zero]
                    refine Held.call 8 #[.string A, .string B] (.bool true) (fun v => Below w4.heap.size w4 v) rfl (by kernel_rfl) ((HBe.out _).mono fun e x h => ⟨h.1, K9.out.trans (h.2.mono K9.out.size)⟩) ?_; intro w6 k6; refine ⟨k6, ?_⟩; clear K9; have K6 := hide k6; clear k6; simp only [Act.put, List.setIfInBounds_toArray, List.set_cons_succ, List.set_cons_zero]
                    refine Held.take (.bool false) rfl (fun v hv => by go_simp) ?_; simp only [Act.put, List.setIfInBounds_toArray, List.set_cons_succ, List.set_cons_zero]
                    refine Held.take (.bool false) rfl (fun v hv => by go_simp) ?_; simp only [Act.put, List.setIfInBounds_toArray, List.set_cons_succ, List.set_cons_zero]
                    refine Held.take (.slice (some ⟨g, off, none⟩) M c) rfl (fun v hv => by go_simp) ?_; simp only [Act.put, List.setIfInBounds_toArray, List.set_cons_succ, List.set_cons_zero]
                    refine Held.take (.int .i64 j) rfl (fun v hv => by go_simp) ?_; simp only [Act.put, List.setIfInBounds_toArray, List.set_cons_succ, List.set_cons_zero]
                    refine Held.take (.pointer (some ⟨g, off + j * 5, none⟩)) rfl (fun v hv => by go_simp) ?_; simp only [Act.put, List.setIfInBounds_toArray, List.set_cons_succ, List.set_cons_zero]
                    refine Held.take (.pointer (some ⟨g, off + j * 5, none⟩)) rfl (fun v hv => by go_simp) ?_; simp only [Act.put, List.setIfInBounds_toArray, List.set_cons_succ, List.set_cons_zero]
                    refine Held.take (.string B) rfl (fun v hv => by have hc := (HC.out v hv).2; go_simp) ?_; simp only [Act.put, List.setIfInBounds_toArray, List.set_cons_succ, List.set_cons_zero]
                    refine Held.take (.int .i64 B.size) rfl (fun v hv => by go_simp) ?_; simp only [Act.put, List.setIfInBounds_toArray, List.set_cons_succ, List.set_cons_zero]
                    refine Held.take (.int .i64 j) rfl (fun v hv => by go_simp) ?_; simp only [Act.put, List.setIfInBounds_toArray, List.set_cons_succ, List.set_cons_zero]
                    refine Held.take (.int .i64 ((j : Int) + 1)) rfl (fun v hv => by have hw : IntKind.i64.wrap ((j : Int) + 1) = ((j : Int) + 1) := (by rw [IntKind.wrap_i64]; omega); go_simp) ?_; simp only [Act.put, List.setIfInBounds_toArray, List.set_cons_succ, List.set_cons_zero]
                    refine Held.take (.int .i64 k) rfl (fun v hv => by go_simp) ?_; simp only [Act.put, List.setIfInBounds_toArray, List.set_cons_succ, List.set_cons_zero]
                    refine Held.take (.int .i64 ((k : Int) + 1)) rfl (fun v hv => by have hw : IntKind.i64.wrap ((k : Int) + 1) = ((k : Int) + 1) := (by rw [IntKind.wrap_i64]; omega); go_simp) ?_; simp only [Act.put, List.setIfInBounds_toArray, List.set_cons_succ, List.set_cons_zero]
                    refine Held.take (.int .i64 (((j : Int) + 1) * ((k : Int) + 1))) rfl (fun v hv => by have hw : IntKind.i64.wrap (((j : Int) + 1) * ((k : Int) + 1)) = (((j : Int) + 1) * ((k : Int) + 1)) := (by rw [IntKind.wrap_i64]; omega); go_simp) ?_; simp only [Act.put, List.setIfInBounds_toArray, List.set_cons_succ, List.set_cons_zero]
                    refine Held.take (.int .i64 (((j : Int) + 1) * ((k : Int) + 1) - 1)) rfl (fun v hv => by have hw : IntKind.i64.wrap (((j : Int) + 1) * ((k : Int) + 1) - 1) = (((j : Int) + 1) * ((k : Int) + 1) - 1) := (by rw [IntKind.wrap_i64]; omega); go_simp) ?_; simp only [Act.put, List.setIfInBounds_toArray, List.set_cons_succ, List.set_cons_zero]
                    refine Held.take (.bool false) rfl (fun v hv => by go_simp) ?_; simp only [Act.put, List.setIfInBounds_toArray, List.set_cons_succ, List.set_cons_zero]
                    refine Held.take (.bool false) rfl (fun v hv => by go_simp) ?_; simp only [Act.put, List.setIfInBounds_toArray, List.set_cons_succ, List.set_cons_zero]
                    show Exit.then _ _ _ _ _
                    go_wp2_with fail
                    go_roundw
                    case rel => exact ⟨j + 1, by simp, by omega, .inl (by omega), K6.out⟩
                    case measure => simp [intOf]; omega
                  · have hjI : ¬ (j : Int) < M := by omega
                    have HE : Hid (Below w.heap.size w _) := HKB.out.trans (HJ.out.mono HKB.out.size)
                    clear hj2 hlj HAT HMi HJ HKB
                    go_wp2_with fail
                    go_ret
                    exact ⟨rfl, HE.out⟩
end Go.Proofs.YtmnenamdjkjlaaaDoor
/- What the listed tables give the walks of name, and the start that fits. -/
namespace Go.Proofs.YtmnenamdjkjlaaaDoor
open Go.ChangeShapes Go.WideShapes Go.ChangeAt Go.RowKit
theorem own : ownKnob Tryd.prog.godebug = none := by kernel_rfl
theorem laidOut : laidOutB Tryd.prog = true := by kernel_rfl
theorem tPow : (Tryd.prog.globals[1]?).map (·.type) = some 148 := by kernel_rfl
theorem uPow : Tryd.prog.underlying 148 = some (.array 20 25) := by kernel_rfl
theorem cPow : Tryd.prog.cellsOf 148 = 20 := by kernel_rfl
theorem cU64 : Tryd.prog.cellsOf 25 = 1 := by kernel_rfl
def laidName : List (String × DataW Unit) := [("math/bits.deBruijn32tab", Rows.laid_math_bits_deBruijn32tab), ("math/bits.deBruijn64tab", Rows.laid_math_bits_deBruijn64tab), ("internal/strconv.uint64pow10", Rows.laid_internal_strconv_uint64pow10)]
theorem pow_tab : (Rows.laid_internal_strconv_uint64pow10 : DataW Unit) = Lib.tabData .u64 Lib.pow10Tab := by rfl
theorem laid_lt {P : Program} {W : World} {name : String} {d : DataW Unit} {rest : List (String × DataW Unit)} {g : Nat} (hg : P.globalNamed name = some g) (h : laidMet P ((name, d) :: rest) W) : g < W.heap.size := by
  obtain ⟨ps, ⟨g', t', cs, fuel, p, q, hg', ht', hvar, hd, _, _⟩, _⟩ := h
  simp only [World.var?, hg, Option.bind_some] at hvar
  split at hvar
  · rename_i hh
    exact (Array.getElem?_eq_some_iff.1 hh).1
  · cases hvar
theorem gTab : Tryd.prog.globalNamed "math/bits.deBruijn64tab" = some 3 := by kernel_rfl
theorem of_laid {W : World} (h : laidMetH Tryd.prog laidName W) : Vt W := by
  rw [MakeChecks.laidMetH_plain _ _ _ (by kernel_rfl)] at h
  have hs : 4 ≤ W.heap.size := laid_lt gTab h.tail
  have h2 : laidMet Tryd.prog [("internal/strconv.uint64pow10", Lib.tabData .u64 Lib.pow10Tab)] W := by
    rw [← pow_tab]
    exact h.tail.tail
  exact ⟨Lib.tabIs_of_head gPow tPow uPow Tryd.underlying25 cU64 cPow h2, hs⟩
set_option maxRecDepth 100000 in
/-- The door's own heap meets the condition. -/
theorem door_met (os : Os) (args : Array Value) : laidMetH Tryd.prog laidName ((World.doorLaid Tryd.prog 24 os).forCall (fun _ _ => 0) ⟨#[], args, []⟩).memory :=
  laidMetH_of_parts3 (fuel := 8) (laidMet_of_run' 8 (by kernel_rfl) (by kernel_rfl)) (by kernel_rfl) (by kernel_rfl)
end Go.Proofs.YtmnenamdjkjlaaaDoor
