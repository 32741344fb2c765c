/- Contracts of the document's reader: counts, texts, yes and no, the end. -/
import Derived.Test.YtcdmdpafkiljdaaGreatDoorWireRefNum
namespace Go.Proofs.YtcdmdpafkiljdaaGreatDoor
open Go.RowKit Go.Wire
set_option maxHeartbeats 1000000 in
theorem rcount_any (q : St) (most : Int) (w : World) (hq : q.pos ≤ q.s.size) (hs : q.s.size ≤ maxLen) (hm1 : most ≤ 9223372036854775807) :
    Calls Tryz.prog 81 #[q.v, .int .i64 most] w fun e w' => e = .returned (.tuple #[(q.count most).1.v, .int .i64 ((q.count most).2 : Nat)]) ∧ Below w.heap.size w w' := by
  have hlt : (q.number 4).2 < 4294967296 := q.number_lt 4 (by decide)
  have HN : Hid (∀ w : World, Calls Tryz.prog 35 #[q.v, .int .i64 4] w fun e w' => e = .returned (.tuple #[(q.number 4).1.v, .int .u64 ((q.number 4).2 : Nat)]) ∧ Below w.heap.size w w') := fun w => rnumber_any q 4 w hq hs
  by_cases hc : (q.number 4).1.err = 0 ∧ (most < 0 ∨ most < (q.number 4).2)
  · have HR : q.count most = (⟨q.s, q.pos, 3⟩, 0) := by unfold St.count; rw [if_pos hc]
    rw [HR]
    generalize (q.number 4).2 = n at hlt HN hc
    generalize (q.number 4).1 = r at HN hc
    obtain ⟨s1, p1, e1⟩ := r
    obtain ⟨h0, hc⟩ := hc
    simp only at h0
    subst h0
    unfold St.v at HN ⊢
    by_cases hm : most < 0
    · clear hc
      go_enter Tryz.func81, Tryz.ntmps81
      go_wp2_with (go_at_call 35; refine (HN.out _).mono ?_; rintro e w1 ⟨rfl, k1⟩; obtain ⟨ha, hb, k0⟩ := two_below k1; have HA := kept_alloc ha (.cells #[.string s1, .int .i64 p1, .int .i64 0] 72 (0, 0)); have HB := kept_alloc hb (.cells #[.string s1, .int .i64 p1, .int .i64 0] 72 (0, 0)); have HE := k0.alloc k0.size (.cells #[.string s1, .int .i64 p1, .int .i64 0] 72 (0, 0)); obtain ⟨c0, c1, c2, f0, f1, f2⟩ := cells3 HA; clear ha hb k0 k1)
      refine (with_any _ _ _ _ _).mono ?_
      rintro e w2 ⟨rfl, k2⟩
      have HB2 := kept_block HB k2
      have HE2 := HE.trans (k2.mono HE.size)
      obtain ⟨d0, d1, d2, d3, d4, d5⟩ := cells3 HB2
      clear HA HB HE c0 c1 c2 f0 f1 f2
      go_wp2
      exact bodyPost_ret (results_cell2_row Tryz.results81 _ _ _ _ _ (0, 0) _ rfl (set3 HB2 _ _ _) Tryz.underlying72 rfl infoRef) rfl ⟨rfl, below3 HE2 (Nat.le_succ _) _ _ _⟩
    · have hn : most < n := by omega
      clear hc
      go_enter Tryz.func81, Tryz.ntmps81
      go_wp2_with (go_at_call 35; refine (HN.out _).mono ?_; rintro e w1 ⟨rfl, k1⟩; obtain ⟨ha, hb, k0⟩ := two_below k1; have HA := kept_alloc ha (.cells #[.string s1, .int .i64 p1, .int .i64 0] 72 (0, 0)); have HB := kept_alloc hb (.cells #[.string s1, .int .i64 p1, .int .i64 0] 72 (0, 0)); have HE := k0.alloc k0.size (.cells #[.string s1, .int .i64 p1, .int .i64 0] 72 (0, 0)); obtain ⟨c0, c1, c2, f0, f1, f2⟩ := cells3 HA; clear ha hb k0 k1)
      refine (with_any _ _ _ _ _).mono ?_
      rintro e w2 ⟨rfl, k2⟩
      have HB2 := kept_block HB k2
      have HE2 := HE.trans (k2.mono HE.size)
      obtain ⟨d0, d1, d2, d3, d4, d5⟩ := cells3 HB2
      clear HA HB HE c0 c1 c2 f0 f1 f2
      go_wp2
      exact bodyPost_ret (results_cell2_row Tryz.results81 _ _ _ _ _ (0, 0) _ rfl (set3 HB2 _ _ _) Tryz.underlying72 rfl infoRef) rfl ⟨rfl, below3 HE2 (Nat.le_succ _) _ _ _⟩
  · have HR : q.count most = q.number 4 := by unfold St.count; rw [if_neg hc]
    rw [HR]
    generalize (q.number 4).2 = n at hlt HN hc
    generalize (q.number 4).1 = r at HN hc
    obtain ⟨s1, p1, e1⟩ := r
    unfold St.v at HN ⊢
    by_cases h0 : e1 = 0
    · subst h0
      have hm : ¬ most < 0 := fun x => hc ⟨rfl, .inl x⟩
      have hn : ¬ most < n := fun x => hc ⟨rfl, .inr x⟩
      clear hc
      go_enter Tryz.func81, Tryz.ntmps81
      go_wp2_with (go_at_call 35; refine (HN.out _).mono ?_; rintro e w1 ⟨rfl, k1⟩; obtain ⟨ha, hb, k0⟩ := two_below k1; have HB := kept_alloc hb (.cells #[.string s1, .int .i64 p1, .int .i64 0] 72 (0, 0)); have HE := k0.alloc k0.size (.cells #[.string s1, .int .i64 p1, .int .i64 0] 72 (0, 0)); obtain ⟨c0, c1, c2, f0, f1, f2⟩ := cells3 HB; clear ha hb k0 k1)
      exact bodyPost_ret (results_cell2_row Tryz.results81 _ _ _ _ _ (0, 0) _ rfl (set3 (by assumption) _ _ _) Tryz.underlying72 rfl infoRef) rfl ⟨rfl, below3 (by assumption) (Nat.le_succ _) _ _ _⟩
    · clear hc
      go_enter Tryz.func81, Tryz.ntmps81
      go_wp2_with (go_at_call 35; refine (HN.out _).mono ?_; rintro e w1 ⟨rfl, k1⟩; obtain ⟨ha, hb, k0⟩ := two_below k1; have HB := kept_alloc hb (.cells #[.string s1, .int .i64 p1, .int .i64 e1] 72 (0, 0)); have HE := k0.alloc k0.size (.cells #[.string s1, .int .i64 p1, .int .i64 e1] 72 (0, 0)); obtain ⟨c0, c1, c2, f0, f1, f2⟩ := cells3 HB; clear ha hb k0 k1)
      exact bodyPost_ret (results_cell2_row Tryz.results81 _ _ _ _ _ (0, 0) _ rfl (set3 (by assumption) _ _ _) Tryz.underlying72 rfl infoRef) rfl ⟨rfl, below3 (by assumption) (Nat.le_succ _) _ _ _⟩
set_option maxHeartbeats 1000000 in
theorem rtext_any (q : St) (most : Int) (w : World) (hq : q.pos ≤ q.s.size) (hs : q.s.size ≤ maxLen) (hm1 : most ≤ 9223372036854775807) :
    Calls Tryz.prog 80 #[q.v, .int .i64 most] w fun e w' => e = .returned (.tuple #[(q.text most).1.v, .string (q.text most).2]) ∧ Below w.heap.size w w' := by
  have HN : Hid (∀ w : World, Calls Tryz.prog 81 #[q.v, .int .i64 most] w fun e w' => e = .returned (.tuple #[(q.count most).1.v, .int .i64 ((q.count most).2 : Nat)]) ∧ Below w.heap.size w w') := fun w => rcount_any q most w hq hs hm1
  have HN2 : Hid (∀ w : World, Calls Tryz.prog 36 #[(q.count most).1.v, .int .i64 ((q.count most).2 : Nat)] w fun e w' => e = .returned (.tuple #[((q.count most).1.bytes (q.count most).2).1.v, .string ((q.count most).1.bytes (q.count most).2).2]) ∧ Below w.heap.size w w') := fun w => rbytes_any _ _ w (by rw [St.count_s]; exact q.count_le most hq) (by rw [St.count_s]; exact hs)
  by_cases hc : ((q.count most).1.bytes (q.count most).2).1.err ≠ 0 ∧ q.err = 0
  · have HR : q.text most = (⟨q.s, q.pos, ((q.count most).1.bytes (q.count most).2).1.err⟩, ⟨#[]⟩) := by unfold St.text; rw [if_pos hc]
    rw [HR]
    clear HR hm1 hs
    generalize ((q.count most).1.bytes (q.count most).2).1 = r2 at HN2 hc
    generalize ((q.count most).1.bytes (q.count most).2).2 = t at HN2
    generalize (q.count most).2 = n at HN HN2
    generalize (q.count most).1 = r at HN HN2
    obtain ⟨s1, p1, e1⟩ := r
    obtain ⟨s2, p2, e2⟩ := r2
    obtain ⟨s, p, err⟩ := q
    obtain ⟨h2, h0⟩ := hc
    simp only at h2 h0 hq
    subst h0
    unfold St.v at HN HN2 ⊢
    go_enter Tryz.func80, Tryz.ntmps80
    go_wp2_with (first
      | (go_at_call 81; refine (HN.out _).mono ?_; rintro e w1 ⟨rfl, k1⟩; obtain ⟨ha, hb, k0⟩ := two_below k1; have HA := kept_alloc ha (.cells #[.string s1, .int .i64 p1, .int .i64 e1] 72 (0, 0)); have HB := kept_alloc hb (.cells #[.string s1, .int .i64 p1, .int .i64 e1] 72 (0, 0)); have HE := k0.alloc k0.size (.cells #[.string s1, .int .i64 p1, .int .i64 e1] 72 (0, 0)); clear ha hb k0 k1)
      | (go_at_call 36; refine (HN2.out _).mono ?_; rintro e w2 ⟨rfl, k2⟩; have HA2 := kept_alloc (kept_block HA k2) (.cells #[.string s2, .int .i64 p2, .int .i64 e2] 72 (0, 0)); have HB2 := kept_alloc (kept_block HB k2) (.cells #[.string s2, .int .i64 p2, .int .i64 e2] 72 (0, 0)); have HE2 := HE.trans (k2.mono HE.size); have HE3 := HE2.alloc HE2.size (.cells #[.string s2, .int .i64 p2, .int .i64 e2] 72 (0, 0)); obtain ⟨c0, c1, c2, f0, f1, f2⟩ := cells3 HA2; obtain ⟨d0, d1, d2, d3, d4, d5⟩ := cells3 HB2; clear HA HB HE HE2 k2))
    refine (with_any _ _ _ _ _).mono ?_
    rintro e w3 ⟨rfl, k3⟩
    have HB4 := kept_block HB2 k3
    have HE4 := HE3.trans (k3.mono HE3.size)
    obtain ⟨g0, g1, g2, g3, g4, g5⟩ := cells3 HB4
    clear HA2 HB2 HE3 c0 c1 c2 f0 f1 f2 d0 d1 d2 d3 d4 d5
    go_wp2
    exact bodyPost_ret (results_cell2_row Tryz.results80 _ _ _ _ _ (0, 0) _ rfl (set3 HB4 _ _ _) Tryz.underlying72 rfl infoRef) rfl ⟨rfl, below3 HE4 (Nat.le_succ _) _ _ _⟩
  · have HR : q.text most = (q.count most).1.bytes (q.count most).2 := by unfold St.text; rw [if_neg hc]
    rw [HR]
    clear HR hm1 hs
    generalize ((q.count most).1.bytes (q.count most).2).1 = r2 at HN2 hc
    generalize ((q.count most).1.bytes (q.count most).2).2 = t at HN2
    generalize (q.count most).2 = n at HN HN2
    generalize (q.count most).1 = r at HN HN2
    obtain ⟨s1, p1, e1⟩ := r
    obtain ⟨s2, p2, e2⟩ := r2
    obtain ⟨s, p, err⟩ := q
    simp only at hc hq
    unfold St.v at HN HN2 ⊢
    by_cases h2 : e2 = 0
    · subst h2
      clear hc
      go_enter Tryz.func80, Tryz.ntmps80
      go_wp2_with (first
      | (go_at_call 81; refine (HN.out _).mono ?_; rintro e w1 ⟨rfl, k1⟩; obtain ⟨ha, hb, k0⟩ := two_below k1; have HA := kept_alloc ha (.cells #[.string s1, .int .i64 p1, .int .i64 e1] 72 (0, 0)); have HB := kept_alloc hb (.cells #[.string s1, .int .i64 p1, .int .i64 e1] 72 (0, 0)); have HE := k0.alloc k0.size (.cells #[.string s1, .int .i64 p1, .int .i64 e1] 72 (0, 0)); clear ha hb k0 k1)
      | (go_at_call 36; refine (HN2.out _).mono ?_; rintro e w2 ⟨rfl, k2⟩; have HA2 := kept_alloc (kept_block HA k2) (.cells #[.string s2, .int .i64 p2, .int .i64 0] 72 (0, 0)); have HB2 := kept_alloc (kept_block HB k2) (.cells #[.string s2, .int .i64 p2, .int .i64 0] 72 (0, 0)); have HE2 := HE.trans (k2.mono HE.size); have HE3 := HE2.alloc HE2.size (.cells #[.string s2, .int .i64 p2, .int .i64 0] 72 (0, 0)); obtain ⟨c0, c1, c2, f0, f1, f2⟩ := cells3 HA2; obtain ⟨d0, d1, d2, d3, d4, d5⟩ := cells3 HB2; clear HA HB HE HE2 k2))
      exact bodyPost_ret (results_cell2_row Tryz.results80 _ _ _ _ _ (0, 0) _ rfl (set3 (by assumption) _ _ _) Tryz.underlying72 rfl infoRef) rfl ⟨rfl, below3 (by assumption) (Nat.le_succ _) _ _ _⟩
    · have h0 : (err == 0) = false := beq_eq_false_iff_ne.2 fun x => hc ⟨h2, x⟩
      clear hc
      go_enter Tryz.func80, Tryz.ntmps80
      go_wp2_with (first
      | (go_at_call 81; refine (HN.out _).mono ?_; rintro e w1 ⟨rfl, k1⟩; obtain ⟨ha, hb, k0⟩ := two_below k1; have HA := kept_alloc ha (.cells #[.string s1, .int .i64 p1, .int .i64 e1] 72 (0, 0)); have HB := kept_alloc hb (.cells #[.string s1, .int .i64 p1, .int .i64 e1] 72 (0, 0)); have HE := k0.alloc k0.size (.cells #[.string s1, .int .i64 p1, .int .i64 e1] 72 (0, 0)); clear ha hb k0 k1)
      | (go_at_call 36; refine (HN2.out _).mono ?_; rintro e w2 ⟨rfl, k2⟩; have HA2 := kept_alloc (kept_block HA k2) (.cells #[.string s2, .int .i64 p2, .int .i64 e2] 72 (0, 0)); have HB2 := kept_alloc (kept_block HB k2) (.cells #[.string s2, .int .i64 p2, .int .i64 e2] 72 (0, 0)); have HE2 := HE.trans (k2.mono HE.size); have HE3 := HE2.alloc HE2.size (.cells #[.string s2, .int .i64 p2, .int .i64 e2] 72 (0, 0)); obtain ⟨c0, c1, c2, f0, f1, f2⟩ := cells3 HA2; obtain ⟨d0, d1, d2, d3, d4, d5⟩ := cells3 HB2; clear HA HB HE HE2 k2))
      exact bodyPost_ret (results_cell2_row Tryz.results80 _ _ _ _ _ (0, 0) _ rfl (set3 (by assumption) _ _ _) Tryz.underlying72 rfl infoRef) rfl ⟨rfl, below3 (by assumption) (Nat.le_succ _) _ _ _⟩
set_option maxHeartbeats 1000000 in
theorem rbool_any (q : St) (w : World) (hq : q.pos ≤ q.s.size) (hs : q.s.size ≤ maxLen) :
    Calls Tryz.prog 79 #[q.v] w fun e w' => e = .returned (.tuple #[q.bool.1.v, .bool q.bool.2]) ∧ Below w.heap.size w w' := by
  have HN : Hid (∀ w : World, Calls Tryz.prog 36 #[q.v, .int .i64 1] w fun e w' => e = .returned (.tuple #[(q.bytes 1).1.v, .string (q.bytes 1).2]) ∧ Below w.heap.size w w') := fun w => rbytes_any q 1 w hq hs
  by_cases hy : (q.bytes 1).2 = ⟨#[121]⟩
  · rw [St.bool_y q hy]
    rw [hy] at HN
    clear hy hq hs
    generalize (q.bytes 1).1 = r at HN
    obtain ⟨s1, p1, e1⟩ := r
    obtain ⟨s, p, err⟩ := q
    unfold St.v at HN ⊢
    by_cases h1 : e1 = 0
    · subst h1
      go_enter Tryz.func79, Tryz.ntmps79
      go_wp2_with (go_at_call 36; refine (HN.out _).mono ?_; rintro e w1 ⟨rfl, k1⟩; obtain ⟨ha, hb, k0⟩ := two_below k1; have HA := kept_alloc ha (.cells #[.string s1, .int .i64 p1, .int .i64 0] 72 (0, 0)); have HB := kept_alloc hb (.cells #[.string s1, .int .i64 p1, .int .i64 0] 72 (0, 0)); have HE := k0.alloc k0.size (.cells #[.string s1, .int .i64 p1, .int .i64 0] 72 (0, 0)); obtain ⟨c0, c1, c2, f0, f1, f2⟩ := cells3 HA; obtain ⟨d0, d1, d2, d3, d4, d5⟩ := cells3 HB; clear ha hb k0 k1)
      exact bodyPost_ret (results_cell2_row Tryz.results79 _ _ _ _ _ (0, 0) _ rfl (set3 (by assumption) _ _ _) Tryz.underlying72 rfl infoRef) rfl ⟨rfl, below3 (by assumption) (Nat.le_succ _) _ _ _⟩
    · have h2 : (e1 == 0) = false := beq_eq_false_iff_ne.2 h1
      clear h1
      go_enter Tryz.func79, Tryz.ntmps79
      go_wp2_with (go_at_call 36; refine (HN.out _).mono ?_; rintro e w1 ⟨rfl, k1⟩; obtain ⟨ha, hb, k0⟩ := two_below k1; have HA := kept_alloc ha (.cells #[.string s1, .int .i64 p1, .int .i64 e1] 72 (0, 0)); have HB := kept_alloc hb (.cells #[.string s1, .int .i64 p1, .int .i64 e1] 72 (0, 0)); have HE := k0.alloc k0.size (.cells #[.string s1, .int .i64 p1, .int .i64 e1] 72 (0, 0)); obtain ⟨c0, c1, c2, f0, f1, f2⟩ := cells3 HA; obtain ⟨d0, d1, d2, d3, d4, d5⟩ := cells3 HB; clear ha hb k0 k1)
      exact bodyPost_ret (results_cell2_row Tryz.results79 _ _ _ _ _ (0, 0) _ rfl (set3 (by assumption) _ _ _) Tryz.underlying72 rfl infoRef) rfl ⟨rfl, below3 (by assumption) (Nat.le_succ _) _ _ _⟩
  · by_cases hn : (q.bytes 1).2 = ⟨#[110]⟩
    · rw [St.bool_n q hn]
      rw [hn] at HN
      clear hy hn hq hs
      generalize (q.bytes 1).1 = r at HN
      obtain ⟨s1, p1, e1⟩ := r
      obtain ⟨s, p, err⟩ := q
      unfold St.v at HN ⊢
      by_cases h1 : e1 = 0
      · subst h1
        go_enter Tryz.func79, Tryz.ntmps79
        go_wp2_with (go_at_call 36; refine (HN.out _).mono ?_; rintro e w1 ⟨rfl, k1⟩; obtain ⟨ha, hb, k0⟩ := two_below k1; have HA := kept_alloc ha (.cells #[.string s1, .int .i64 p1, .int .i64 0] 72 (0, 0)); have HB := kept_alloc hb (.cells #[.string s1, .int .i64 p1, .int .i64 0] 72 (0, 0)); have HE := k0.alloc k0.size (.cells #[.string s1, .int .i64 p1, .int .i64 0] 72 (0, 0)); obtain ⟨c0, c1, c2, f0, f1, f2⟩ := cells3 HA; obtain ⟨d0, d1, d2, d3, d4, d5⟩ := cells3 HB; clear ha hb k0 k1)
        exact bodyPost_ret (results_cell2_row Tryz.results79 _ _ _ _ _ (0, 0) _ rfl (set3 (by assumption) _ _ _) Tryz.underlying72 rfl infoRef) rfl ⟨rfl, below3 (by assumption) (Nat.le_succ _) _ _ _⟩
      · have h2 : (e1 == 0) = false := beq_eq_false_iff_ne.2 h1
        clear h1
        go_enter Tryz.func79, Tryz.ntmps79
        go_wp2_with (go_at_call 36; refine (HN.out _).mono ?_; rintro e w1 ⟨rfl, k1⟩; obtain ⟨ha, hb, k0⟩ := two_below k1; have HA := kept_alloc ha (.cells #[.string s1, .int .i64 p1, .int .i64 e1] 72 (0, 0)); have HB := kept_alloc hb (.cells #[.string s1, .int .i64 p1, .int .i64 e1] 72 (0, 0)); have HE := k0.alloc k0.size (.cells #[.string s1, .int .i64 p1, .int .i64 e1] 72 (0, 0)); obtain ⟨c0, c1, c2, f0, f1, f2⟩ := cells3 HA; obtain ⟨d0, d1, d2, d3, d4, d5⟩ := cells3 HB; clear ha hb k0 k1)
        exact bodyPost_ret (results_cell2_row Tryz.results79 _ _ _ _ _ (0, 0) _ rfl (set3 (by assumption) _ _ _) Tryz.underlying72 rfl infoRef) rfl ⟨rfl, below3 (by assumption) (Nat.le_succ _) _ _ _⟩
    · have hy2 := lit_ne (l := [121]) rfl hy
      have hn2 := lit_ne (l := [110]) rfl hn
      have HO := St.bool_other q hy hn
      have hs1 := q.bytes_s 1
      by_cases h1 : (q.bytes 1).1.err = 0
      · rw [St.back, if_pos h1, hs1] at HO
        rw [HO]
        clear HO hy hn hq hs hs1
        generalize (q.bytes 1).1 = r at HN h1
        generalize (q.bytes 1).2 = t at HN hy2 hn2
        obtain ⟨s1, p1, e1⟩ := r
        obtain ⟨s, p, err⟩ := q
        simp only at h1
        subst h1
        unfold St.v at HN ⊢
        go_enter Tryz.func79, Tryz.ntmps79
        go_wp2_with (go_at_call 36; refine (HN.out _).mono ?_; rintro e w1 ⟨rfl, k1⟩; obtain ⟨ha, hb, k0⟩ := two_below k1; have HA := kept_alloc ha (.cells #[.string s1, .int .i64 p1, .int .i64 0] 72 (0, 0)); have HB := kept_alloc hb (.cells #[.string s1, .int .i64 p1, .int .i64 0] 72 (0, 0)); have HE := k0.alloc k0.size (.cells #[.string s1, .int .i64 p1, .int .i64 0] 72 (0, 0)); obtain ⟨c0, c1, c2, f0, f1, f2⟩ := cells3 HA; obtain ⟨d0, d1, d2, d3, d4, d5⟩ := cells3 HB; clear ha hb k0 k1)
        refine (with_any _ _ _ _ _).mono ?_
        rintro e w3 ⟨rfl, k3⟩
        have HB4 := kept_block HB k3
        have HE4 := HE.trans (k3.mono HE.size)
        obtain ⟨g0, g1, g2, g3, g4, g5⟩ := cells3 HB4
        clear HA HB HE c0 c1 c2 f0 f1 f2 d0 d1 d2 d3 d4 d5
        go_wp2
        exact bodyPost_ret (results_cell2_row Tryz.results79 _ _ _ _ _ (0, 0) _ rfl (set3 (by assumption) _ _ _) Tryz.underlying72 rfl infoRef) rfl ⟨rfl, below3 (by assumption) (Nat.le_succ _) _ _ _⟩
      · rw [St.back, if_neg h1] at HO
        rw [HO]
        have h2 := beq_eq_false_iff_ne.2 h1
        clear HO hy hn hq hs hs1 h1
        generalize (q.bytes 1).1 = r at HN h2
        generalize (q.bytes 1).2 = t at HN hy2 hn2
        obtain ⟨s1, p1, e1⟩ := r
        obtain ⟨s, p, err⟩ := q
        simp only at h2
        unfold St.v at HN ⊢
        go_enter Tryz.func79, Tryz.ntmps79
        go_wp2_with (go_at_call 36; refine (HN.out _).mono ?_; rintro e w1 ⟨rfl, k1⟩; obtain ⟨ha, hb, k0⟩ := two_below k1; have HA := kept_alloc ha (.cells #[.string s1, .int .i64 p1, .int .i64 e1] 72 (0, 0)); have HB := kept_alloc hb (.cells #[.string s1, .int .i64 p1, .int .i64 e1] 72 (0, 0)); have HE := k0.alloc k0.size (.cells #[.string s1, .int .i64 p1, .int .i64 e1] 72 (0, 0)); obtain ⟨c0, c1, c2, f0, f1, f2⟩ := cells3 HA; obtain ⟨d0, d1, d2, d3, d4, d5⟩ := cells3 HB; clear ha hb k0 k1)
        exact bodyPost_ret (results_cell2_row Tryz.results79 _ _ _ _ _ (0, 0) _ rfl (set3 (by assumption) _ _ _) Tryz.underlying72 rfl infoRef) rfl ⟨rfl, below3 (by assumption) (Nat.le_succ _) _ _ _⟩
set_option maxHeartbeats 1000000 in
theorem rend_any (q : St) (w : World) (hs : q.s.size ≤ maxLen) :
    Calls Tryz.prog 38 #[q.v] w fun e w' => e = .returned q.fin.v ∧ Below w.heap.size w w' := by
  obtain ⟨s, p, err⟩ := q
  simp only at hs
  unfold maxLen at hs
  by_cases h0 : err = 0
  · subst h0
    by_cases hl : p < s.size
    · rw [show (St.mk s p 0).fin = ⟨s, p, 5⟩ from if_pos ⟨rfl, hl⟩]
      unfold St.v
      go_enter Tryz.func38, Tryz.ntmps38
      go_wp2_with (go_at_call 76; refine (with_any _ _ _ _ _).mono ?_; rintro e w1 ⟨rfl, k1⟩; obtain ⟨ha, hb, k0⟩ := two_below k1; obtain ⟨c0, c1, c2, f0, f1, f2⟩ := cells3 hb)
      exact bodyPost_ret (results_cell_row Tryz.results38 _ _ _ _ _ (0, 0) _ rfl (set3 (by assumption) _ _ _) Tryz.underlying72 rfl infoRef) rfl ⟨rfl, below3 (by assumption) (Nat.le_succ _) _ _ _⟩
    · rw [show (St.mk s p 0).fin = ⟨s, p, 0⟩ from if_neg fun x => hl x.2]
      unfold St.v
      go_enter Tryz.func38, Tryz.ntmps38
      go_wp2
      exact bodyPost_ret (results_cell_row Tryz.results38 _ _ _ _ _ (0, 0) _ rfl (heap_alloc2_new _ _ _) Tryz.underlying72 rfl infoRef) rfl ⟨rfl, ((Below.refl _ _).alloc (Nat.le_refl _) _).alloc (by simp) _⟩
  · rw [show (St.mk s p err).fin = ⟨s, p, err⟩ from if_neg fun x => h0 x.1]
    have h2 : (err == 0) = false := beq_eq_false_iff_ne.2 h0
    unfold St.v
    go_enter Tryz.func38, Tryz.ntmps38
    go_wp2
    exact bodyPost_ret (results_cell_row Tryz.results38 _ _ _ _ _ (0, 0) _ rfl (heap_alloc2_new _ _ _) Tryz.underlying72 rfl infoRef) rfl ⟨rfl, ((Below.refl _ _).alloc (Nat.le_refl _) _).alloc (by simp) _⟩
end Go.Proofs.YtcdmdpafkiljdaaGreatDoor
