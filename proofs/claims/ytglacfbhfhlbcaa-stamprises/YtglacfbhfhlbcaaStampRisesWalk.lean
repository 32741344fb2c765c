/- The walk of StampRises. -/
import Derived.Test.YtglacfbhfhlbcaaStampOpen
import Derived.Test.YtglacfbhfhlbcaaQuietCalls
import Derived.Test.YtglacfbhfhlbcaaWireAt
namespace Go.Stamp
open Go.RowKit Go.Wire
/-- The clock in block B, the last time in block G, and all that was there. -/
def Ris (T S B G : Nat) (k n : Int) (l : Tm) (w0 w : World) : Prop :=
  Clk T B k n w ∧ w.heap[G]? = some (.cells #[.int .u64 l.c, .int .i64 l.k] S (0, 0)) ∧ Below B w0 w
theorem Ris.kept {T S B G : Nat} {k n m : Int} {l : Tm} {w0 w w' : World} (i : Ris T S B G k n l w0 w) (hG : G ≠ B) (c : Clk T B k m w') (h : Kept B w w') : Ris T S B G k m l w0 w' :=
  ⟨c, (h.other G hG (row_lt i.2.1)).trans i.2.1, i.2.2.trans h.below⟩
theorem Ris.below {T S B G : Nat} {k n : Int} {l : Tm} {w0 w w' : World} (i : Ris T S B G k n l w0 w) (h : Below w.heap.size w w') : Ris T S B G k n l w0 w' :=
  ⟨i.1.below h, kept_block i.2.1 h, i.2.2.trans (h.mono (Nat.le_of_lt i.1.lt))⟩
theorem Ris.last {T S B G : Nat} {k n : Int} {l : Tm} {w0 w : World} (i : Ris T S B G k n l w0 w) (hG : G ≠ B) (hg : B ≤ G) (x y : Int) : Ris T S B G k n ⟨x, y⟩ w0 ((w.setCell ⟨G, 0, none⟩ (.int .u64 x)).setCell ⟨G, 1, none⟩ (.int .i64 y)) := by
  refine ⟨?_, set2 i.2.1 _ _, below2 i.2.2 hg _ _⟩
  unfold Clk
  rw [Below.heap_setCell _ ⟨G, 1, none⟩ _ B (Ne.symm hG), Below.heap_setCell _ ⟨G, 0, none⟩ _ B (Ne.symm hG)]
  exact i.1
end Go.Stamp
namespace Go.Proofs.Ytglacfbhfhlbcaa
open Go.RowKit Go.Wire Go.Stamp Go.Sort
set_option maxRecDepth 100000 in
set_option maxHeartbeats 1000000 in
theorem stampRises_any (who : Int) (v : Value) (nl : Nat) (ts : Nat → Tm) (w : World) (_ : -9223372036854775808 ≤ who ∧ who ≤ 9223372036854775807) (hr : SRow w 2 v nl (fun j => (ts j).cell)) (hf : ∀ j, j < nl → (ts j).Fits) (hn : nl ≤ maxLen) :
    Calls Try.prog 7 #[.int .i64 who, v] w fun e w' => e = .returned (.bool true) ∧ Below w.heap.size w w' := by
  obtain ⟨ao, cap, rfl⟩ := hr.form
  have HA : Hid (SRow w 2 (.slice ao nl cap) nl (fun j => (ts j).cell) ∧ ∀ j, j < nl → (ts j).Fits) := ⟨hr, hf⟩
  clear hr hf
  unfold maxLen at hn
  obtain ⟨m, hm, hk⟩ := and_small who 15 (by decide)
  have hk : bits .and .i64 who 15 = (m : Int) := hk
  have HN : Hid (∀ w : World, Calls Try.prog 18 #[.int .i64 (m : Int)] w fun e w' => e = .returned (.tuple #[.pointer (some ⟨w.heap.size, 0, none⟩), .int .i64 0]) ∧ Clk 65 w.heap.size m 0 w' ∧ Below w.heap.size w w') := fun w => new_any m w (by omega)
  obtain ⟨k, hkk⟩ : ∃ k : Int, (m : Int) = k := ⟨_, rfl⟩
  rw [hkk] at hk HN
  clear hkk hm
  go_enter Try.func7, Try.ntmps7
  go_wp2_with (first
    | (go_at_call 18; refine (HN.out _).mono ?_; rintro e w1 ⟨rfl, h1, k1⟩)
    | (go_at_call 11; refine (awake_any _).mono ?_; rintro e w2 ⟨rfl, k2⟩))
  have HI : Hid (Ris 65 24 w.heap.size w2.heap.size k 0 ⟨0, 0⟩ w (w2.alloc (.cells #[.int .u64 0, .int .i64 0] 24)) ∧ w2.heap.size ≠ w.heap.size ∧ w.heap.size ≤ w2.heap.size) :=
    ⟨⟨(h1.below k2).below ((Below.refl _ _).alloc (Nat.le_refl _) _), heap_alloc_new _ _, (k1.trans (k2.mono k1.size)).alloc (Nat.le_trans k1.size k2.size) _⟩, by have := h1.lt; have := k2.size; omega, by have := h1.lt; have := k2.size; omega⟩
  clear h1 k1 k2 HN
  generalize w2.heap.size = G at HI ⊢
  generalize w2.alloc (.cells #[.int .u64 0, .int .i64 0] 24) = w3 at HI ⊢
  generalize hB : w.heap.size = B at HI ⊢
  have hBG := HI.out.2.2
  go_loopw [9] (fun vi wr => ∃ (i : Nat) (n : Int) (l : Tm), i ≤ min 60 nl ∧ vi = .int .i64 i ∧ 0 ≤ n ∧ n ≤ 281474976710655 ∧ l.c ≤ n ∧ Hid (Ris 65 24 B G k n l w wr ∧ G ≠ B)) (fun vi _ => 60 - (intOf vi).toNat)
  case atStart => exact ⟨0, 0, ⟨0, 0⟩, Nat.zero_le _, rfl, Int.le_refl _, by decide, Int.le_refl _, HI.out.1, HI.out.2.1⟩
  case round =>
    obtain ⟨i, n, l, hi, rfl, hn0, hn1, hl, HR⟩ := hrel
    by_cases hlt : i < min 60 nl
    · have h60 : (i : Int) < 60 := by omega
      have hla : (i : Int) < nl := by omega
      obtain ⟨b, off, rfl, hbN, hcap, hcells⟩ := HA.out.1.at (by omega)
      have hc0 := hcells i 0 (by omega) (by omega)
      have hc1 := hcells i 1 (by omega) (by omega)
      have hfi := HA.out.2 i (by omega)
      clear hcells
      generalize ts i = t at hc0 hc1 hfi
      simp only [Tm.cell, Nat.add_zero] at hc0 hc1
      have hr0 : wr.cell? ⟨b, off + i * 2, none⟩ = some (.int .u64 t.c) := (HR.out.1.2.2.cell (p := ⟨b, off + i * 2, none⟩) (by rw [← hB]; exact hbN)).trans hc0
      have hr1 : wr.cell? ⟨b, off + i * 2 + 1, none⟩ = some (.int .i64 t.k) := (HR.out.1.2.2.cell (p := ⟨b, off + i * 2 + 1, none⟩) (by rw [← hB]; exact hbN)).trans hc1
      have HS : Hid (Calls Try.prog 19 #[.pointer (some ⟨B, 0, none⟩), .agg #[.int .u64 t.c, .int .i64 t.k]] wr fun e w' => e = .returned (.int .i64 t.chk) ∧ Clk 65 B k (t.sees n) w' ∧ Kept B wr w') := see_any B k n t wr HR.out.1.1
      have hsl := t.sees_le n hn1
      have hsk : t.Ok → t.c ≤ t.sees n := t.sees_ok n
      generalize t.sees n = m at HS hsl hsk
      by_cases hmx : m = 281474976710655
      · subst hmx
        go_wp2_with (first
          | (go_at_call 19; refine HS.out.mono ?_; rintro e w4 ⟨rfl, h4, k4⟩)
          | (go_at_call 20; refine (next_no B k 281474976710655 _ h4 (by decide)).mono ?_; rintro e w5 ⟨rfl, h5, k5⟩; unfold Tm.v)
          | (go_at_call 21; refine (seen_any B k 281474976710655 _ (by exact h5.below ((Below.refl _ _).alloc (Nat.le_refl _) _))).mono ?_; rintro e w' ⟨rfl, rfl⟩))
        go_ret
        rw [hB]
        exact ⟨rfl, (((HR.out.1.2.2.trans k4.below).trans k5.below).alloc (Nat.le_of_lt h5.lt) _)⟩
      · have hm1 : m < 281474976710655 := by omega
        have hm0 : 0 ≤ m := by omega
        go_wp2_with (first
          | (go_at_call 19; refine HS.out.mono ?_; rintro e w4 ⟨rfl, h4, k4⟩)
          | (go_at_call 20; refine (next_ok B k m _ h4 hm1 hm0).mono ?_; rintro e w5 ⟨rfl, h5, k5⟩; unfold Tm.v)
          | (go_at_call 8; fail))
        have HJ : Hid (Ris 65 24 B G k (m + 1) l w (w5.alloc (.cells #[.int .u64 (m + 1), .int .i64 k] 24))) :=
          ((HR.out.1.kept HR.out.2 h4 k4).kept HR.out.2 h5 k5).below ((Below.refl _ _).alloc (Nat.le_refl _) _)
        have HT : Hid ((w5.alloc (.cells #[.int .u64 (m + 1), .int .i64 k] 24)).heap[w5.heap.size]? = some (.cells #[.int .u64 (m + 1), .int .i64 k] 24 (0, 0))) := heap_alloc_new _ _
        have HGB := HR.out.2
        clear h4 k4 h5 k5 HS HR hr0 hr1
        generalize w5.alloc (.cells #[.int .u64 (m + 1), .int .i64 k] 24) = W at HJ HT ⊢
        have HL : Hid (W.heap[G]? = some (.cells #[.int .u64 l.c, .int .i64 l.k] 24 (0, 0))) := HJ.out.2.1
        have hw0 : W.cell? ⟨b, off + i * 2, none⟩ = some (.int .u64 t.c) := (HJ.out.2.2.cell (p := ⟨b, off + i * 2, none⟩) (by rw [← hB]; exact hbN)).trans hc0
        have hw1 : W.cell? ⟨b, off + i * 2 + 1, none⟩ = some (.int .i64 t.k) := (HJ.out.2.2.cell (p := ⟨b, off + i * 2 + 1, none⟩) (by rw [← hB]; exact hbN)).trans hc1
        have c0 := cell_regrown (cells2 HT.out).1
        have c1 := cell_regrown (cells2 HT.out).2.1
        have d0 := cell_regrown (cells2 HL.out).1
        have f0 := cell_regrown hw0
        have f1 := cell_regrown hw1
        clear hw0 hw1 hc0 hc1
        have hle : ¬ (m + 1 ≤ l.c) := by omega
        have C1 : Hid (∀ w, Calls Try.prog 8 #[.agg #[.int .u64 l.c, .int .i64 l.k], .agg #[.int .u64 (m + 1), .int .i64 k]] w fun e w' => e = .returned (.int .i64 (-1)) ∧ Below w.heap.size w w') := fun w => by
          have := compare_any l ⟨m + 1, k⟩ w
          rw [Tm.cmp_lt (show l.c < m + 1 by omega)] at this
          exact this
        have K1 : Hid (∀ w, Calls Try.prog 14 #[.agg #[.int .u64 t.c, .int .i64 t.k]] w fun e w' => e = .returned (.int .i64 t.chk) ∧ Below w.heap.size w w') := fun w => check_any t w
        by_cases hok : t.Ok
        · rw [Tm.chk_ok hok] at K1
          have C2 : Hid (∀ w, Calls Try.prog 8 #[.agg #[.int .u64 t.c, .int .i64 t.k], .agg #[.int .u64 (m + 1), .int .i64 k]] w fun e w' => e = .returned (.int .i64 (-1)) ∧ Below w.heap.size w w') := fun w => by
            have := compare_any t ⟨m + 1, k⟩ w
            rw [Tm.cmp_lt (show t.c < m + 1 by have := hsk hok; omega)] at this
            exact this
          clear hok hsk
          refine QuietCalls.region (by kernel_rfl) (by kernel_rfl) ?_
          first | go_big_quiet_step (fail) | quiet_step (fail)
          first | go_big_quiet_step (fail) | quiet_step (fail)
          first | go_big_quiet_step (fail) | quiet_step (fail)
          first | go_big_quiet_step (fail) | quiet_step (fail)
          first | go_big_quiet_step (fail) | quiet_step (fail)
          first | go_big_quiet_step (fail) | quiet_step (fail)
          first | go_big_quiet_step (fail) | quiet_step (fail)
          first | go_big_quiet_step (fail) | quiet_step (fail)
          first | go_big_quiet_step (fail) | quiet_step (fail)
          first | go_big_quiet_step (fail) | quiet_step (fail)
          first | go_big_quiet_step (fail) | quiet_step (fail)
          first | go_big_quiet_step (fail) | quiet_step (fail)
          refine QuietCalls.load rfl 24 _ rfl _ rfl _ _ _ _ HL.out Try.underlying24 rfl info24 ?_; simp only [Act.put, List.setIfInBounds_toArray, List.set_cons_succ, List.set_cons_zero]
          refine QuietCalls.load rfl 24 _ rfl _ rfl _ _ _ _ HT.out Try.underlying24 rfl info24 ?_; simp only [Act.put, List.setIfInBounds_toArray, List.set_cons_succ, List.set_cons_zero]
          refine QuietCalls.call2 rfl rfl Try.call8 (fun w _ => C1.out w) rfl rfl ?_; simp only [Act.put, List.setIfInBounds_toArray, List.set_cons_succ, List.set_cons_zero]
          first | go_big_quiet_step (fail) | quiet_step (fail)
          first | go_big_quiet_step (fail) | quiet_step (fail)
          first | go_big_quiet_step (fail) | quiet_step (fail)
          first | go_big_quiet_step (fail) | quiet_step (fail)
          first | go_big_quiet_step (fail) | quiet_step (fail)
          first | go_big_quiet_step (fail) | quiet_step (fail)
          first | go_big_quiet_step (fail) | quiet_step (fail)
          refine QuietCalls.call1 rfl rfl Try.call14 (fun w _ => K1.out w) rfl ?_; simp only [Act.put, List.setIfInBounds_toArray, List.set_cons_succ, List.set_cons_zero]
          first | go_big_quiet_step (fail) | quiet_step (fail)
          first | go_big_quiet_step (fail) | quiet_step (fail)
          first | go_big_quiet_step (fail) | quiet_step (fail)
          first | go_big_quiet_step (fail) | quiet_step (fail)
          first | go_big_quiet_step (fail) | quiet_step (fail)
          first | go_big_quiet_step (fail) | quiet_step (fail)
          refine QuietCalls.load rfl 24 _ rfl _ rfl _ _ _ _ HT.out Try.underlying24 rfl info24 ?_; simp only [Act.put, List.setIfInBounds_toArray, List.set_cons_succ, List.set_cons_zero]
          refine QuietCalls.call2 rfl rfl Try.call8 (fun w _ => C2.out w) rfl rfl ?_; simp only [Act.put, List.setIfInBounds_toArray, List.set_cons_succ, List.set_cons_zero]
          first | go_big_quiet_step (fail) | quiet_step (fail)
          first | go_big_quiet_step (fail) | quiet_step (fail)
          first | go_big_quiet_step (fail) | quiet_step (fail)
          refine wpQuiet_nil ?_
          intro w6 k6
          have HJ6 : Hid (Ris 65 24 B G k (m + 1) l w w6 ∧ w6.heap[w5.heap.size]? = some (.cells #[.int .u64 (m + 1), .int .i64 k] 24 (0, 0))) := ⟨HJ.out.below k6, kept_block HT.out k6⟩
          obtain ⟨e0, e1, e2, e3⟩ := cells2 HJ6.out.2
          obtain ⟨l0, l1, l2, l3⟩ := cells2 HJ6.out.1.2.1
          clear k6 C1 K1 HL HT c0 c1 d0 f0 f1 HJ
          go_wp2_with fail
          go_roundw
          case rel => exact ⟨i + 1, m + 1, ⟨m + 1, k⟩, by omega, by go_num, by omega, by omega, Int.le_refl _, HJ6.out.1.last HGB hBG _ _, HGB⟩
          case measure => simp [intOf]; omega
        · rw [Tm.chk_no hok] at K1
          clear hok hsk
          refine QuietCalls.region (by kernel_rfl) (by kernel_rfl) ?_
          first | go_big_quiet_step (fail) | quiet_step (fail)
          first | go_big_quiet_step (fail) | quiet_step (fail)
          first | go_big_quiet_step (fail) | quiet_step (fail)
          first | go_big_quiet_step (fail) | quiet_step (fail)
          first | go_big_quiet_step (fail) | quiet_step (fail)
          first | go_big_quiet_step (fail) | quiet_step (fail)
          first | go_big_quiet_step (fail) | quiet_step (fail)
          first | go_big_quiet_step (fail) | quiet_step (fail)
          first | go_big_quiet_step (fail) | quiet_step (fail)
          first | go_big_quiet_step (fail) | quiet_step (fail)
          first | go_big_quiet_step (fail) | quiet_step (fail)
          first | go_big_quiet_step (fail) | quiet_step (fail)
          refine QuietCalls.load rfl 24 _ rfl _ rfl _ _ _ _ HL.out Try.underlying24 rfl info24 ?_; simp only [Act.put, List.setIfInBounds_toArray, List.set_cons_succ, List.set_cons_zero]
          refine QuietCalls.load rfl 24 _ rfl _ rfl _ _ _ _ HT.out Try.underlying24 rfl info24 ?_; simp only [Act.put, List.setIfInBounds_toArray, List.set_cons_succ, List.set_cons_zero]
          refine QuietCalls.call2 rfl rfl Try.call8 (fun w _ => C1.out w) rfl rfl ?_; simp only [Act.put, List.setIfInBounds_toArray, List.set_cons_succ, List.set_cons_zero]
          first | go_big_quiet_step (fail) | quiet_step (fail)
          first | go_big_quiet_step (fail) | quiet_step (fail)
          first | go_big_quiet_step (fail) | quiet_step (fail)
          first | go_big_quiet_step (fail) | quiet_step (fail)
          first | go_big_quiet_step (fail) | quiet_step (fail)
          first | go_big_quiet_step (fail) | quiet_step (fail)
          first | go_big_quiet_step (fail) | quiet_step (fail)
          refine QuietCalls.call1 rfl rfl Try.call14 (fun w _ => K1.out w) rfl ?_; simp only [Act.put, List.setIfInBounds_toArray, List.set_cons_succ, List.set_cons_zero]
          first | go_big_quiet_step (fail) | quiet_step (fail)
          first | go_big_quiet_step (fail) | quiet_step (fail)
          first | go_big_quiet_step (fail) | quiet_step (fail)
          first | go_big_quiet_step (fail) | quiet_step (fail)
          first | go_big_quiet_step (fail) | quiet_step (fail)
          first | go_big_quiet_step (fail) | quiet_step (fail)
          first | go_big_quiet_step (fail) | quiet_step (fail)
          first | go_big_quiet_step (fail) | quiet_step (fail)
          first | go_big_quiet_step (fail) | quiet_step (fail)
          first | go_big_quiet_step (fail) | quiet_step (fail)
          first | go_big_quiet_step (fail) | quiet_step (fail)
          refine wpQuiet_nil ?_
          intro w6 k6
          have HJ6 : Hid (Ris 65 24 B G k (m + 1) l w w6 ∧ w6.heap[w5.heap.size]? = some (.cells #[.int .u64 (m + 1), .int .i64 k] 24 (0, 0))) := ⟨HJ.out.below k6, kept_block HT.out k6⟩
          obtain ⟨e0, e1, e2, e3⟩ := cells2 HJ6.out.2
          obtain ⟨l0, l1, l2, l3⟩ := cells2 HJ6.out.1.2.1
          clear k6 C1 K1 HL HT c0 c1 d0 f0 f1 HJ
          go_wp2_with fail
          go_roundw
          case rel => exact ⟨i + 1, m + 1, ⟨m + 1, k⟩, by omega, by go_num, by omega, by omega, Int.le_refl _, HJ6.out.1.last HGB hBG _ _, HGB⟩
          case measure => simp [intOf]; omega
    · by_cases h1 : i < nl
      · have hi6 : ¬ ((i : Int) < 60) := by omega
        have hla : (i : Int) < nl := by omega
        go_wp2
        go_ret
        exact ⟨rfl, HR.out.1.2.2⟩
      · have hla : ¬ ((i : Int) < nl) := by omega
        go_wp2
        go_ret
        exact ⟨rfl, HR.out.1.2.2⟩
end Go.Proofs.Ytglacfbhfhlbcaa
