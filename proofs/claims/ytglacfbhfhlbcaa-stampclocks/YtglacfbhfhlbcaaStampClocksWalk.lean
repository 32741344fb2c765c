/- The walk of StampClocks. -/
import Derived.Test.YtglacfbhfhlbcaaStampOpen
import Derived.Deep.Cut
import Derived.Deep.CutBlock
import Derived.Deep.DeepCutAuto
namespace Go.Proofs.Ytglacfbhfhlbcaa
open Go.RowKit Go.Wire Go.Stamp
set_option maxRecDepth 100000 in
set_option maxHeartbeats 1000000 in
theorem clocks_no (who : Int) (v u : Value) (w : World) (h : ¬ (0 ≤ who ∧ who < 16)) :
    Calls Try.prog 5 #[.int .i64 who, v, u] w fun e w' => e = .returned (.bool true) ∧ Below w.heap.size w w' := by
  have HN : Hid (∀ w : World, Calls Try.prog 18 #[.int .i64 who] w fun e w' => e = .returned (.tuple #[.pointer none, .int .i64 1]) ∧ w' = w) := fun w => new_no who w h
  by_cases h0 : who < 0
  · go_enter Try.func5, Try.ntmps5
    go_wp2_with (first
      | (go_at_call 18; refine (HN.out _).mono ?_; rintro e w' ⟨rfl, rfl⟩)
      | (go_at_call 11; refine (awake_any _).mono ?_; rintro e w2 ⟨rfl, k2⟩))
    go_ret
    exact ⟨rfl, k2⟩
  · have h1 : 15 < who := by omega
    go_enter Try.func5, Try.ntmps5
    go_wp2_with (first
      | (go_at_call 18; refine (HN.out _).mono ?_; rintro e w' ⟨rfl, rfl⟩)
      | (go_at_call 11; refine (awake_any _).mono ?_; rintro e w2 ⟨rfl, k2⟩))
    go_ret
    exact ⟨rfl, k2⟩
set_option maxRecDepth 100000 in
set_option maxHeartbeats 2000000 in
theorem clocks_ok (who : Int) (v : Value) (nl : Nat) (ts : Nat → Tm) (u : Value) (na : Nat) (xs : Nat → Int) (w : World) (hwho : 0 ≤ who ∧ who < 16) (hr : SRow w 2 v nl (fun j => (ts j).cell)) (hf : ∀ j, j < nl → (ts j).Fits) (hn : nl ≤ maxLen) (hr2 : SRow w 1 u na (fun j _ => .int .i64 (xs j))) (hna : na ≤ maxLen) :
    Calls Try.prog 5 #[.int .i64 who, v, u] w fun e w' => e = .returned (.bool true) ∧ Below w.heap.size w w' := by
  obtain ⟨ao, cap, rfl⟩ := hr.form
  obtain ⟨ao2, cap2, rfl⟩ := hr2.form
  have HA : Hid (SRow w 2 (.slice ao nl cap) nl (fun j => (ts j).cell) ∧ (∀ j, j < nl → (ts j).Fits)) := ⟨hr, hf⟩
  have HX : Hid (SRow w 1 (.slice ao2 na cap2) na (fun j _ => .int .i64 (xs j))) := hr2
  clear hr hf hr2
  unfold maxLen at hn hna
  have HN : Hid (∀ w : World, Calls Try.prog 18 #[.int .i64 who] w fun e w' => e = .returned (.tuple #[.pointer (some ⟨w.heap.size, 0, none⟩), .int .i64 0]) ∧ Clk 65 w.heap.size who 0 w' ∧ Below w.heap.size w w') := fun w => new_any who w hwho
  have hw0 : ¬ (who < 0) := by omega
  have hw1 : ¬ (15 < who) := by omega
  clear hwho
  go_enter Try.func5, Try.ntmps5
  go_wp2_with (first
    | (go_at_call 18; refine (HN.out _).mono ?_; rintro e w1 ⟨rfl, h1, k1⟩)
    | (go_at_call 11; refine (awake_any _).mono ?_; rintro e w2 ⟨rfl, k2⟩))
  have HI : Hid (Clk 65 w.heap.size who 0 w2 ∧ Below w.heap.size w w2) := ⟨h1.below k2, k1.trans (k2.mono k1.size)⟩
  clear h1 k1 k2 HN
  generalize hB : w.heap.size = B at HI ⊢
  go_loopw [9, 10] (fun vs vi wr => ∃ (i : Nat) (n : Int), i ≤ min 60 nl ∧ vi = .int .i64 i ∧ vs = .int .u64 n ∧ 0 ≤ n ∧ n ≤ 281474976710655 ∧ Hid (Clk 65 B who n wr ∧ Below B w wr)) (fun _ vi _ => 60 - (intOf vi).toNat)
  case atStart => exact ⟨0, 0, Nat.zero_le _, rfl, rfl, Int.le_refl _, by decide, HI.out⟩
  case round =>
    obtain ⟨i, n, hi, rfl, rfl, hn0, hn1, HR⟩ := hrel
    by_cases hlt : i < min 60 nl
    · have h60 : (i : Int) < 60 := by omega
      have hla : (i : Int) < nl := by omega
      obtain ⟨b, off, rfl, hbN, hcap, hcells⟩ := HA.out.1.at (by omega)
      have hc0 := hcells i 0 (by omega) (by omega)
      have hc1 := hcells i 1 (by omega) (by omega)
      have hfi := HA.out.2 i (by omega)
      clear hcells
      generalize ts i = t at hc0 hc1 hfi
      simp only [Tm.cell, Nat.add_zero] at hc0 hc1
      have HC : Hid (∀ w', Below B w w' → w'.cell? ⟨b, off + i * 2, none⟩ = some (.int .u64 t.c) ∧ w'.cell? ⟨b, off + i * 2 + 1, none⟩ = some (.int .i64 t.k)) := fun w' h => ⟨(h.cell (p := ⟨b, off + i * 2, none⟩) (by rw [← hB]; exact hbN)).trans hc0, (h.cell (p := ⟨b, off + i * 2 + 1, none⟩) (by rw [← hB]; exact hbN)).trans hc1⟩
      clear hc0 hc1
      obtain ⟨hr0, hr1⟩ := HC.out _ HR.out.2
      have HS : Hid (Calls Try.prog 19 #[.pointer (some ⟨B, 0, none⟩), .agg #[.int .u64 t.c, .int .i64 t.k]] wr fun e w' => e = .returned (.int .i64 t.chk) ∧ Clk 65 B who (t.sees n) w' ∧ Kept B wr w') := see_any B who n t wr HR.out.1
      have HRf : Hid (∀ w, Calls Try.prog 10 #[.agg #[.int .u64 t.c, .int .i64 t.k]] w fun e w' => e = .returned (.agg #[.int .u64 t.c, .int .i64 t.k]) ∧ Below w.heap.size w w') := fun w => ref_any t w
      have HCk : Hid (∀ w, Calls Try.prog 15 #[.agg #[.int .u64 t.c, .int .i64 t.k]] w fun e w' => e = .returned (.int .i64 t.chk) ∧ Below w.heap.size w w') := fun w => rcheck_any t hfi.c0 w
      have hsl := t.sees_le n hn1
      have HM : Hid (∀ w' : World, w'.heap.size = w'.heap.size → True) := fun _ _ => trivial
      go_upto_region 13 with (first
        | (go_at_call 19; refine HS.out.mono ?_; rintro e w4 ⟨rfl, h4, k4⟩; obtain ⟨hr0, hr1⟩ := HC.out _ (HR.out.2.trans k4.below))
        | (go_at_call 10; refine (HRf.out _).mono ?_; rintro e w5 ⟨rfl, k5⟩)
        | (go_at_call 15; refine (HCk.out _).mono ?_; rintro e w6 ⟨rfl, k6⟩))
      have HJ : Hid (Clk 65 B who (t.sees n) w6 ∧ Below B w w6) := by
        have h5 := h4.below k5
        have b5 := (HR.out.2.trans k4.below).trans (k5.mono (Nat.le_of_lt h4.lt))
        exact ⟨h5.below k6, b5.trans (k6.mono (Nat.le_of_lt h5.lt))⟩
      clear HR HS HRf HCk HM hr0 hr1 h4 k4 k5 k6
      obtain ⟨hr0, hr1⟩ := HC.out _ HJ.out.2
      go_cut [71] (fun vb wc => vb = .bool (decide (t.Ok ∧ n < t.c)) ∧ wc = w6)
      case first =>
        by_cases hok : t.Ok
        · have g0 : (t.chk == 0) = true := beq_iff_eq.2 (Tm.chk_ok hok)
          go_wp2_with fail
          go_meet
          case rel => exact ⟨by simp [hok], rfl⟩
        · have g0 : (t.chk == 0) = false := beq_eq_false_iff_ne.2 (by rw [Tm.chk_no hok]; decide)
          go_wp2_with fail
          go_meet
          case rel => exact ⟨by simp [hok], rfl⟩
      case rest =>
        obtain ⟨rfl, rfl⟩ := hcut
        obtain ⟨bo, hbo⟩ : ∃ bo, decide (t.Ok ∧ n < t.c) = bo := ⟨_, rfl⟩
        rw [hbo]
        have E : Hid (t.sees n = if bo then t.c else n) := by
          unfold Tm.sees
          subst hbo
          by_cases h : t.Ok
          · by_cases h2 : n < t.c <;> simp [h, h2, Hid]
          · simp [h, Hid]
        clear hbo
        go_upto_if 71 with fail
        go_cut [9] (fun vs wd => vs = .int .u64 (t.sees n) ∧ wd = wc)
        case first =>
          cases bo
          · go_wp2_with fail
            go_meet
            case rel => exact ⟨by rw [E.out]; rfl, rfl⟩
          · go_wp2_with fail
            go_meet
            case rel => exact ⟨by rw [E.out]; rfl, rfl⟩
        case rest =>
          obtain ⟨rfl, rfl⟩ := hcut
          generalize t.sees n = m at HJ hsl
          clear hr0 hr1 HC
          have hm0 : 0 ≤ m := by omega
          have hm1 := hsl.2
          clear hsl E hn0 hn1 hfi hr0 hr1
          go_wp2_with fail
          go_loopw [9, 12] (fun vs vk wr => ∃ (k : Nat) (q : Int), k ≤ min 3 na ∧ vk = .int .i64 k ∧ vs = .int .u64 q ∧ 0 ≤ q ∧ q ≤ 281474976710655 ∧ Hid (Clk 65 B who q wr ∧ Below B w wr)) (fun _ vk _ => 3 - (intOf vk).toNat)
          case atStart => exact ⟨0, m, Nat.zero_le _, rfl, rfl, hm0, hm1, HJ.out⟩
          case round =>
            clear HJ hm0 hm1
            obtain ⟨k, q, hk, rfl, rfl, hq0, hq1, HK⟩ := hrel
            have HQ : Hid (Calls Try.prog 21 #[.pointer (some ⟨B, 0, none⟩)] wr fun e w' => e = .returned (.int .u64 q) ∧ w' = wr) := seen_any B who q wr HK.out.1
            by_cases hkl : k < min 3 na
            · have hk3 : (k : Int) < 3 := by omega
              have hka : (k : Int) < na := by omega
              obtain ⟨b2, off2, rfl, hb2, hcap2, hcells2⟩ := HX.out.at (by omega)
              have hx0 := hcells2 k 0 (by omega) (by omega)
              have hx1 : wr.cell? ⟨b2, off2 + k, none⟩ = some (.int .i64 (xs k)) := by
                have := (HK.out.2.cell (p := ⟨b2, off2 + k, none⟩) (by rw [← hB]; exact hb2))
                rw [this]
                simpa using hx0
              clear hcells2 hx0
              generalize xs k = x at hx1
              have hnz : ((nl : Int) == 0) = false := beq_eq_false_iff_ne.2 (by omega)
              by_cases hmx : q = 281474976710655
              · subst hmx
                go_wp2_with (first
                  | (go_at_call 20; refine (next_no B who 281474976710655 _ HK.out.1 (by decide)).mono ?_; rintro e w5 ⟨rfl, h5, k5⟩; unfold Tm.v)
                  | (go_at_call 21; refine (HQ.out).mono ?_; rintro e w' ⟨rfl, rfl⟩))
                · go_roundw
                  case rel => exact ⟨k + 1, 281474976710655, by omega, by go_num, rfl, by omega, by omega, h5.below ((Below.refl _ _).alloc (Nat.le_refl _) _), (HK.out.2.trans k5.below).alloc (Nat.le_of_lt h5.lt) _⟩
                  case measure => simp [intOf]; omega
                · go_roundw
                  case rel => exact ⟨i + 1, 281474976710655, by omega, by go_num, rfl, by omega, by omega, HK.out⟩
                  case measure => simp [intOf]; omega
              · have hm1 : q < 281474976710655 := by omega
                go_wp2_with (first
                  | (go_at_call 20; refine (next_ok B who q _ HK.out.1 hm1 hq0).mono ?_; rintro e w5 ⟨rfl, h5, k5⟩; unfold Tm.v)
                  | (go_at_call 21; refine (HQ.out).mono ?_; rintro e w' ⟨rfl, rfl⟩))
                · go_roundw
                  case rel => exact ⟨k + 1, q + 1, by omega, by go_num, rfl, by omega, by omega, h5.below ((Below.refl _ _).alloc (Nat.le_refl _) _), (HK.out.2.trans k5.below).alloc (Nat.le_of_lt h5.lt) _⟩
                  case measure => simp [intOf]; omega
                · go_roundw
                  case rel => exact ⟨i + 1, q, by omega, by go_num, rfl, by omega, by omega, HK.out⟩
                  case measure => simp [intOf]; omega
            · by_cases h1 : k < na
              · have hi6 : ¬ ((k : Int) < 3) := by omega
                have hka : (k : Int) < na := by omega
                go_wp2_with (go_at_call 21; refine (HQ.out).mono ?_; rintro e w' ⟨rfl, rfl⟩)
                go_roundw
                case rel => exact ⟨i + 1, q, by omega, by go_num, rfl, hq0, hq1, HK.out⟩
                case measure => simp [intOf]; omega
              · have hka : ¬ ((k : Int) < na) := by omega
                go_wp2_with (go_at_call 21; refine (HQ.out).mono ?_; rintro e w' ⟨rfl, rfl⟩)
                go_roundw
                case rel => exact ⟨i + 1, q, by omega, by go_num, rfl, hq0, hq1, HK.out⟩
                case measure => simp [intOf]; omega
    · have HF : Hid (∀ (w5 : World) (o : Obj) (w6 : World), Below wr.heap.size wr w5 → Below (w5.alloc o).heap.size (w5.alloc o) w6 → Below B w w6) := fun w5 o w6 k5 k6 => by
        have hs := HR.out.1.lt
        have b5 : Below B w w5 := HR.out.2.trans (k5.mono (Nat.le_of_lt hs))
        have hz := k5.size
        exact (b5.alloc (by omega) o).trans (k6.mono (by simp; omega))
      by_cases h1 : i < nl
      · have hi6 : ¬ ((i : Int) < 60) := by omega
        have hla : (i : Int) < nl := by omega
        go_wp2_with (first
          | (go_at_call 20; refine (next_nil _).mono ?_; rintro e w5 ⟨rfl, k5⟩; unfold Tm.v)
          | (go_at_call 19; refine (see_nil ⟨0, 0⟩ _).mono ?_; rintro e w6 ⟨rfl, k6⟩)
          | (go_at_call 21; refine (seen_nil _).mono ?_; rintro e w' ⟨rfl, rfl⟩))
        go_ret
        rw [hB]
        exact ⟨rfl, HF.out _ _ _ k5 k6⟩
      · have hla : ¬ ((i : Int) < nl) := by omega
        go_wp2_with (first
          | (go_at_call 20; refine (next_nil _).mono ?_; rintro e w5 ⟨rfl, k5⟩; unfold Tm.v)
          | (go_at_call 19; refine (see_nil ⟨0, 0⟩ _).mono ?_; rintro e w6 ⟨rfl, k6⟩)
          | (go_at_call 21; refine (seen_nil _).mono ?_; rintro e w' ⟨rfl, rfl⟩))
        go_ret
        rw [hB]
        exact ⟨rfl, HF.out _ _ _ k5 k6⟩
theorem stampClocks_any (who : Int) (v : Value) (nl : Nat) (ts : Nat → Tm) (u : Value) (na : Nat) (xs : Nat → Int) (w : World) (_ : -9223372036854775808 ≤ who ∧ who ≤ 9223372036854775807) (hr : SRow w 2 v nl (fun j => (ts j).cell)) (hf : ∀ j, j < nl → (ts j).Fits) (hn : nl ≤ maxLen) (hr2 : SRow w 1 u na (fun j _ => .int .i64 (xs j))) (_ : ∀ j, j < na → -9223372036854775808 ≤ xs j ∧ xs j ≤ 9223372036854775807) (hna : na ≤ maxLen) :
    Calls Try.prog 5 #[.int .i64 who, v, u] w fun e w' => e = .returned (.bool true) ∧ Below w.heap.size w w' := by
  by_cases h : 0 ≤ who ∧ who < 16
  · exact clocks_ok who v nl ts u na xs w h hr hf hn hr2 hna
  · exact clocks_no who v u w h
end Go.Proofs.Ytglacfbhfhlbcaa
