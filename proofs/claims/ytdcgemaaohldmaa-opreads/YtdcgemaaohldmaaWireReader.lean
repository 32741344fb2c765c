/- Contracts of the small calls of the program's reader. -/
import Derived.Test.YtdcgemaaohldmaaRows
import Derived.Test.YtdcgemaaohldmaaWireRd
namespace Go.Proofs.Ytdcgemaaohldmaa
open Go.RowKit Go.Wire
set_option maxHeartbeats 400000 in
theorem err_any (b : Nat) (q : St) (w : World) (h : Rd 73 b q w) :
    Calls Try.prog 41 #[.pointer (some ⟨b, 0, none⟩)] w fun e w' => e = .returned (.int .i64 q.err) ∧ w' = w := by
  obtain ⟨c0, c1, c2, f1, f2⟩ := h.cells
  go_enter Try.func41, Try.ntmps41
  go_wp2
  go_ret
  exact ⟨rfl, rfl⟩
set_option maxHeartbeats 400000 in
theorem at_any (b : Nat) (q : St) (w : World) (h : Rd 73 b q w) :
    Calls Try.prog 52 #[.pointer (some ⟨b, 0, none⟩)] w fun e w' => e = .returned (.int .i64 q.pos) ∧ w' = w := by
  obtain ⟨c0, c1, c2, f1, f2⟩ := h.cells
  go_enter Try.func52, Try.ntmps52
  go_wp2
  go_ret
  exact ⟨rfl, rfl⟩
set_option maxHeartbeats 400000 in
theorem left_any (b : Nat) (q : St) (w : World) (h : Rd 73 b q w) (hq : q.pos ≤ q.s.size) (hs : q.s.size ≤ maxLen) :
    Calls Try.prog 42 #[.pointer (some ⟨b, 0, none⟩)] w fun e w' => e = .returned (.int .i64 ((q.s.size : Int) - q.pos)) ∧ w' = w.drew := by
  unfold maxLen at hs
  obtain ⟨c0, c1, c2, f1, f2⟩ := h.cells
  go_enter Try.func42, Try.ntmps42
  go_wp2
  go_region
  go_wp2
  go_ret
  exact ⟨rfl, rfl⟩
set_option maxHeartbeats 400000 in
theorem fail_any (b : Nat) (q : St) (x : Int) (w : World) (h : Rd 73 b q w) :
    Calls Try.prog 40 #[.pointer (some ⟨b, 0, none⟩), .int .i64 x] w fun e w' => e = .returned (.tuple #[]) ∧ Rd 73 b (q.fail x) w' ∧ Kept b w w' := by
  obtain ⟨c0, c1, c2, f1, f2⟩ := h.cells
  by_cases he : q.err = 0
  · go_enter Try.func40, Try.ntmps40
    go_wp2_with (go_at_call 41; refine (err_any b q _ h).mono ?_; rintro e w' ⟨rfl, rfl⟩)
    go_end0
    exact ⟨rfl, by rw [St.fail, if_pos he]; exact h.setErr x, (Kept.refl _ _).set _ _⟩
  · go_enter Try.func40, Try.ntmps40
    go_wp2_with (go_at_call 41; refine (err_any b q _ h).mono ?_; rintro e w' ⟨rfl, rfl⟩)
    go_end0
    exact ⟨rfl, by rw [St.fail, if_neg he]; exact h, Kept.refl _ _⟩
set_option maxHeartbeats 400000 in
theorem give_any (b p : Nat) (q : St) (x : Int) (w : World) (h : Rd 73 b q w) :
    Calls Try.prog 55 #[.pointer (some ⟨b, 0, none⟩), .int .i64 p, .int .i64 x] w fun e w' => e = .returned (.tuple #[]) ∧ Rd 73 b (q.back p x) w' ∧ Kept b w w' := by
  obtain ⟨c0, c1, c2, f1, f2⟩ := h.cells
  by_cases he : q.err = 0
  · go_enter Try.func55, Try.ntmps55
    go_wp2_with (go_at_call 41; refine (err_any b q _ h).mono ?_; rintro e w' ⟨rfl, rfl⟩)
    go_end0
    exact ⟨rfl, by rw [St.back, if_pos he]; exact (h.setPos p).setErr x, ((Kept.refl _ _).set _ _).set _ _⟩
  · go_enter Try.func55, Try.ntmps55
    go_wp2_with (go_at_call 41; refine (err_any b q _ h).mono ?_; rintro e w' ⟨rfl, rfl⟩)
    go_end0
    exact ⟨rfl, by rw [St.back, if_neg he]; exact h, Kept.refl _ _⟩
set_option maxHeartbeats 400000 in
theorem newReader_any (s : ByteArray) (w : World) :
    Calls Try.prog 12 #[.string s] w fun e w' => e = .returned (.pointer (some ⟨w.heap.size, 0, none⟩)) ∧ Rd 73 w.heap.size ⟨s, 0, 0⟩ w' ∧ Below w.heap.size w w' := by
  go_enter Try.func12, Try.ntmps12
  go_wp2
  go_ret
  exact ⟨rfl, heap_alloc_new _ _, (Below.refl _ _).alloc (Nat.le_refl _) _⟩
set_option maxHeartbeats 1000000 in
theorem bytes_any (b : Nat) (q : St) (n : Int) (w : World) (h : Rd 73 b q w) (hq : q.pos ≤ q.s.size) (hs : q.s.size ≤ maxLen) :
    Calls Try.prog 54 #[.pointer (some ⟨b, 0, none⟩), .int .i64 n] w fun e w' => e = .returned (.string (q.bytes n).2) ∧ Rd 73 b (q.bytes n).1 w' ∧ Kept b w w' := by
  have hs2 : q.s.size ≤ 9223372036854775807 := hs
  by_cases hn : n < 0
  · have hf := St.fail_ne q 1 (by decide)
    rw [St.bytes_neg q n hn]
    go_enter Try.func54, Try.ntmps54
    go_wp2_with (go_at_call 40; refine (fail_any b q 1 _ h).mono ?_)
    rintro e w1 ⟨rfl, h1, k1⟩
    go_wp2_with (go_at_call 41; refine (err_any b _ _ h1).mono ?_; rintro e w' ⟨rfl, rfl⟩)
    go_ret
    exact ⟨rfl, h1, k1⟩
  · by_cases hl : (q.s.size : Int) - q.pos < n
    · have hf := St.fail_ne q 4 (by decide)
      rw [St.bytes_cut q n hn hl]
      go_enter Try.func54, Try.ntmps54
      go_wp2_with (first
        | (go_at_call 42; refine (left_any b q _ h hq hs).mono ?_; rintro e w' ⟨rfl, rfl⟩)
        | (go_at_call 40; refine (fail_any b q 4 _ (by exact h)).mono ?_))
      rintro e w1 ⟨rfl, h1, k1⟩
      go_wp2_with (go_at_call 41; refine (err_any b _ _ h1).mono ?_; rintro e w' ⟨rfl, rfl⟩)
      go_ret
      exact ⟨rfl, h1, ((Kept.refl b w).drew).trans k1⟩
    · by_cases he : q.err = 0
      · obtain ⟨m, rfl⟩ : ∃ m : Nat, n = m := ⟨n.toNat, by omega⟩
        obtain ⟨c0, c1, c2, f1, f2⟩ := h.cells
        rw [St.bytes_ok q _ he hn hl]
        have hm : q.pos + m ≤ q.s.size := by omega
        go_enter Try.func54, Try.ntmps54
        go_wp2_with (first
          | (go_at_call 42; refine (left_any b q _ h hq hs).mono ?_; rintro e w' ⟨rfl, rfl⟩)
          | (go_at_call 41; refine (err_any b q _ (by exact h)).mono ?_; rintro e w' ⟨rfl, rfl⟩))
        go_region
        go_wp2
        go_ret
        have hr := h.setPos (q.pos + m)
        rw [he] at hr
        exact ⟨rfl, hr, ((Kept.refl _ _).set _ _).drew.drew⟩
      · rw [St.bytes_err q n he]
        go_enter Try.func54, Try.ntmps54
        go_wp2_with (first
          | (go_at_call 42; refine (left_any b q _ h hq hs).mono ?_; rintro e w' ⟨rfl, rfl⟩)
          | (go_at_call 41; refine (err_any b q _ (by exact h)).mono ?_; rintro e w' ⟨rfl, rfl⟩))
        go_ret
        exact ⟨rfl, h, (Kept.refl _ _).drew⟩
end Go.Proofs.Ytdcgemaaohldmaa
