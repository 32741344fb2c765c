/- Contracts of a clock, and of the laws' own helper. -/
import Derived.Test.YtglacfbhfhlbcaaStampLeaves
namespace Go.Stamp
open Go.RowKit Go.Wire
/-- Block b is the clock of k that has seen n. -/
def Clk (T b : Nat) (k n : Int) (w : World) : Prop := w.heap[b]? = some (.cells #[.int .i64 k, .int .u64 n] T (0, 0))
theorem Clk.lt {T b : Nat} {k n : Int} {w : World} (h : Clk T b k n w) : b < w.heap.size := by
  rcases Nat.lt_or_ge b w.heap.size with x | x
  · exact x
  · unfold Clk at h; rw [Array.getElem?_eq_none x] at h; cases h
theorem Clk.below {T b : Nat} {k n : Int} {w w' : World} (h : Clk T b k n w) (hb : Below w.heap.size w w') : Clk T b k n w' := kept_block h hb
theorem Clk.set {T b : Nat} {k n : Int} {w : World} (h : Clk T b k n w) (m : Int) : Clk T b k m (w.setCell ⟨b, 1, none⟩ (.int .u64 m)) := by
  unfold Clk; rw [heap_setCell_same _ _ _ _ _ _ h]; rfl
end Go.Stamp
namespace Go.Proofs.Ytglacfbhfhlbcaa
open Go.RowKit Go.Wire Go.Stamp
set_option maxHeartbeats 400000 in
theorem new_any (k : Int) (w : World) (h : 0 ≤ k ∧ k < 16) :
    Calls Try.prog 18 #[.int .i64 k] w fun e w' => e = .returned (.tuple #[.pointer (some ⟨w.heap.size, 0, none⟩), .int .i64 0]) ∧ Clk 65 w.heap.size k 0 w' ∧ Below w.heap.size w w' := by
  have hr := fun w => replica_is k true w (decide_eq_true h)
  clear h
  go_enter Try.func18, Try.ntmps18
  go_wp2_with (go_at_call 33; refine (hr _).mono ?_; rintro e w' ⟨rfl, rfl⟩)
  go_ret2
  exact ⟨rfl, heap_alloc_new _ _, (Below.refl _ _).alloc (Nat.le_refl _) _⟩
set_option maxHeartbeats 400000 in
theorem new_no (k : Int) (w : World) (h : ¬ (0 ≤ k ∧ k < 16)) :
    Calls Try.prog 18 #[.int .i64 k] w fun e w' => e = .returned (.tuple #[.pointer none, .int .i64 1]) ∧ w' = w := by
  have hr := fun w => replica_is k false w (decide_eq_false h)
  clear h
  go_enter Try.func18, Try.ntmps18
  go_wp2_with (go_at_call 33; refine (hr _).mono ?_; rintro e w' ⟨rfl, rfl⟩)
  go_ret2
  exact ⟨rfl, rfl⟩
set_option maxHeartbeats 400000 in
theorem see_no (b : Nat) (k n : Int) (t : Tm) (w : World) (hc : Clk 65 b k n w) (h : ¬ t.Ok) :
    Calls Try.prog 19 #[.pointer (some ⟨b, 0, none⟩), t.v] w fun e w' => e = .returned (.int .i64 40) ∧ Clk 65 b k n w' ∧ Kept b w w' := by
  have H : Hid (∀ w, Calls Try.prog 14 #[t.v] w fun e w' => e = .returned (.int .i64 t.chk) ∧ Below w.heap.size w w') := fun w => check_any t w
  rw [Tm.chk_no h] at H
  clear h
  unfold Tm.v at H ⊢
  go_enter Try.func19, Try.ntmps19
  go_wp2_with (go_at_call 14; refine (H.out _).mono ?_; rintro e w1 ⟨rfl, hb⟩)
  go_ret
  exact ⟨rfl, hc.below (below_alloc_call hb), Kept.of_below (below_alloc_call hb) hc.lt⟩
set_option maxHeartbeats 400000 in
theorem see_ok (b : Nat) (k n : Int) (t : Tm) (w : World) (hc : Clk 65 b k n w) (h : t.Ok) :
    Calls Try.prog 19 #[.pointer (some ⟨b, 0, none⟩), t.v] w fun e w' => e = .returned (.int .i64 0) ∧ Clk 65 b k (if n < t.c then t.c else n) w' ∧ Kept b w w' := by
  have H : Hid (∀ w, Calls Try.prog 14 #[t.v] w fun e w' => e = .returned (.int .i64 t.chk) ∧ Below w.heap.size w w') := fun w => check_any t w
  rw [Tm.chk_ok h] at H
  clear h
  obtain ⟨c, j⟩ := t
  unfold Tm.v at H ⊢
  have hlt := hc.lt
  go_enter Try.func19, Try.ntmps19
  go_wp2_with (go_at_call 14; refine (H.out _).mono ?_; rintro e w1 ⟨rfl, hb⟩; obtain ⟨c0, c1, f0, f1⟩ := cells2 (new2 hb); have hc1 := hc.below (below_alloc_call hb); obtain ⟨d0, d1, g0, g1⟩ := cells2 hc1)
  go_region
  have kb : Kept b w w1 := Kept.of_below (below_alloc_call hb) hlt
  go_wp2
  all_goals (go_ret; exact ⟨rfl, hc1.set _, (kb.set _ _).drew⟩)
theorem see_any (b : Nat) (k n : Int) (t : Tm) (w : World) (hc : Clk 65 b k n w) :
    Calls Try.prog 19 #[.pointer (some ⟨b, 0, none⟩), t.v] w fun e w' => e = .returned (.int .i64 t.chk) ∧ Clk 65 b k (t.sees n) w' ∧ Kept b w w' := by
  by_cases h : t.Ok
  · rw [Tm.chk_ok h, Tm.sees, if_pos h]; exact see_ok b k n t w hc h
  · rw [Tm.chk_no h, Tm.sees, if_neg h]; exact see_no b k n t w hc h
set_option maxHeartbeats 400000 in
theorem seen_any (b : Nat) (k n : Int) (w : World) (hc : Clk 65 b k n w) :
    Calls Try.prog 21 #[.pointer (some ⟨b, 0, none⟩)] w fun e w' => e = .returned (.int .u64 n) ∧ w' = w := by
  obtain ⟨d0, d1, g0, g1⟩ := cells2 hc
  go_enter Try.func21, Try.ntmps21
  go_wp2
  go_ret
  exact ⟨rfl, rfl⟩
set_option maxHeartbeats 400000 in
theorem next_no (b : Nat) (k n : Int) (w : World) (hc : Clk 65 b k n w) (h : 281474976710655 ≤ n) :
    Calls Try.prog 20 #[.pointer (some ⟨b, 0, none⟩)] w fun e w' => e = .returned (.tuple #[(Tm.mk 0 0).v, .int .i64 40]) ∧ Clk 65 b k n w' ∧ Kept b w w' := by
  have hlt := hc.lt
  obtain ⟨d0, d1, g0, g1⟩ := cells2 hc
  go_enter Try.func20, Try.ntmps20
  go_wp2
  exact bodyPost_ret (results_cell2_row Try.results20 _ _ _ _ _ (0, 0) _ rfl (heap_alloc_new _ _) Try.underlying24 rfl info24) rfl ⟨rfl, hc.below ((Below.refl _ _).alloc (Nat.le_refl _) _), Kept.of_below ((Below.refl _ _).alloc (Nat.le_refl _) _) hlt⟩
set_option maxHeartbeats 400000 in
theorem next_ok (b : Nat) (k n : Int) (w : World) (hc : Clk 65 b k n w) (h : n < 281474976710655) (h0 : 0 ≤ n) :
    Calls Try.prog 20 #[.pointer (some ⟨b, 0, none⟩)] w fun e w' => e = .returned (.tuple #[(Tm.mk (n + 1) k).v, .int .i64 0]) ∧ Clk 65 b k (n + 1) w' ∧ Kept b w w' := by
  have hlt := hc.lt
  obtain ⟨d0, d1, g0, g1⟩ := cells2 hc
  go_enter Try.func20, Try.ntmps20
  go_wp2
  go_region
  go_wp2
  have hn : ∀ o, ((w.setCell ⟨b, 1, none⟩ (.int .u64 (n + 1))).alloc o).drew.heap[w.heap.size]? = some o := fun o => by
    have := heap_alloc_new (w.setCell ⟨b, 1, none⟩ (.int .u64 (n + 1))) o
    rw [World.size_setCell] at this
    exact this
  have kb : Kept b w (w.setCell ⟨b, 1, none⟩ (.int .u64 (n + 1))) := (Kept.refl _ _).set _ _
  have kc : ∀ o, Below (w.setCell ⟨b, 1, none⟩ (.int .u64 (n + 1))).heap.size (w.setCell ⟨b, 1, none⟩ (.int .u64 (n + 1))) ((w.setCell ⟨b, 1, none⟩ (.int .u64 (n + 1))).alloc o).drew := fun o => ((Below.refl _ _).alloc (Nat.le_refl _) _).drew
  exact bodyPost_ret (results_cell2_row Try.results20 _ _ _ _ _ (0, 0) _ rfl (hn _) Try.underlying24 rfl info24) rfl ⟨rfl, (hc.set _).below (kc _), kb.trans (Kept.of_below (kc _) (by simpa using hlt))⟩
set_option maxHeartbeats 400000 in
theorem see_nil (t : Tm) (w : World) :
    Calls Try.prog 19 #[.pointer none, t.v] w fun e w' => e = .returned (.int .i64 1) ∧ Below w.heap.size w w' := by
  unfold Tm.v
  go_enter Try.func19, Try.ntmps19
  go_wp2
  go_ret
  exact ⟨rfl, (Below.refl _ _).alloc (Nat.le_refl _) _⟩
set_option maxHeartbeats 400000 in
theorem seen_nil (w : World) :
    Calls Try.prog 21 #[.pointer none] w fun e w' => e = .returned (.int .u64 0) ∧ w' = w := by
  go_enter Try.func21, Try.ntmps21
  go_wp2
  go_ret
  exact ⟨rfl, rfl⟩
set_option maxHeartbeats 400000 in
theorem next_nil (w : World) :
    Calls Try.prog 20 #[.pointer none] w fun e w' => e = .returned (.tuple #[(Tm.mk 0 0).v, .int .i64 1]) ∧ Below w.heap.size w w' := by
  go_enter Try.func20, Try.ntmps20
  go_wp2
  exact bodyPost_ret (results_cell2_row Try.results20 _ _ _ _ _ (0, 0) _ rfl (heap_alloc_new _ _) Try.underlying24 rfl info24) rfl ⟨rfl, (Below.refl _ _).alloc (Nat.le_refl _) _⟩
set_option maxHeartbeats 1000000 in
theorem awake_any (w : World) :
    Calls Try.prog 11 #[] w fun e w' => e = .returned (.bool true) ∧ Below w.heap.size w w' := by
  have hS : ∀ (b : Nat) (w : World), Clk 65 b 2 0 w → Hid (Calls Try.prog 19 #[.pointer (some ⟨b, 0, none⟩), .agg #[.int .u64 7, .int .i64 1]] w fun e w' => e = .returned (.int .i64 0) ∧ Clk 65 b 2 7 w' ∧ Kept b w w') := fun b w h => see_ok b 2 0 ⟨7, 1⟩ w h (by decide)
  have hN : ∀ (b : Nat) (w : World), Clk 65 b 2 7 w → Hid (Calls Try.prog 20 #[.pointer (some ⟨b, 0, none⟩)] w fun e w' => e = .returned (.tuple #[.agg #[.int .u64 8, .int .i64 2], .int .i64 0]) ∧ Clk 65 b 2 8 w' ∧ Kept b w w') := fun b w h => next_ok b 2 7 w h (by decide) (by decide)
  go_enter Try.func11, Try.ntmps11
  go_wp2_with (first
    | (go_at_call 18; refine (new_any 2 _ (by decide)).mono ?_; rintro e w1 ⟨rfl, h1, k1⟩)
    | (go_at_call 19; refine (hS _ _ (by assumption)).out.mono ?_; rintro e w2 ⟨rfl, h2, k2⟩)
    | (go_at_call 20; refine (hN _ _ (by assumption)).out.mono ?_; rintro e w3 ⟨rfl, h3, k3⟩))
  go_ret
  exact ⟨rfl, ((k1.trans k2.below).trans k3.below).alloc (Nat.le_trans k1.size (Nat.le_trans k2.below.size k3.below.size)) _⟩
end Go.Proofs.Ytglacfbhfhlbcaa
