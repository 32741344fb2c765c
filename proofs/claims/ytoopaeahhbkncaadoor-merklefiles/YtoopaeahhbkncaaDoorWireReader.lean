/- Contracts of the small calls of the program's reader. -/
import Derived.Test.YtoopaeahhbkncaaDoorRows
import Derived.Test.YtoopaeahhbkncaaDoorWireRd
namespace Go.Proofs.YtoopaeahhbkncaaDoor
open Go.RowKit Go.Wire
set_option maxHeartbeats 400000 in
theorem err_any (b : Nat) (q : St) (w : World) (h : Rd 85 b q w) :
    Calls Tryd.prog 29 #[.pointer (some ⟨b, 0, none⟩)] w fun e w' => e = .returned (.int .i64 q.err) ∧ w' = w := by
  obtain ⟨c0, c1, c2, f1, f2⟩ := h.cells
  go_enter Tryd.func29, Tryd.ntmps29
  go_wp2
  go_ret
  exact ⟨rfl, rfl⟩
set_option maxHeartbeats 400000 in
theorem at_any (b : Nat) (q : St) (w : World) (h : Rd 85 b q w) :
    Calls Tryd.prog 33 #[.pointer (some ⟨b, 0, none⟩)] w fun e w' => e = .returned (.int .i64 q.pos) ∧ w' = w := by
  obtain ⟨c0, c1, c2, f1, f2⟩ := h.cells
  go_enter Tryd.func33, Tryd.ntmps33
  go_wp2
  go_ret
  exact ⟨rfl, rfl⟩
set_option maxHeartbeats 400000 in
theorem left_any (b : Nat) (q : St) (w : World) (h : Rd 85 b q w) (hq : q.pos ≤ q.s.size) (hs : q.s.size ≤ maxLen) :
    Calls Tryd.prog 77 #[.pointer (some ⟨b, 0, none⟩)] w fun e w' => e = .returned (.int .i64 ((q.s.size : Int) - q.pos)) ∧ w' = w.drew := by
  unfold maxLen at hs
  obtain ⟨c0, c1, c2, f1, f2⟩ := h.cells
  go_enter Tryd.func77, Tryd.ntmps77
  go_wp2
  go_region
  go_wp2
  go_ret
  exact ⟨rfl, rfl⟩
set_option maxHeartbeats 400000 in
theorem fail_any (b : Nat) (q : St) (x : Int) (w : World) (h : Rd 85 b q w) :
    Calls Tryd.prog 78 #[.pointer (some ⟨b, 0, none⟩), .int .i64 x] w fun e w' => e = .returned (.tuple #[]) ∧ Rd 85 b (q.fail x) w' ∧ Kept b w w' := by
  obtain ⟨c0, c1, c2, f1, f2⟩ := h.cells
  by_cases he : q.err = 0
  · go_enter Tryd.func78, Tryd.ntmps78
    go_wp2_with (go_at_call 29; refine (err_any b q _ h).mono ?_; rintro e w' ⟨rfl, rfl⟩)
    go_end0
    exact ⟨rfl, by rw [St.fail, if_pos he]; exact h.setErr x, (Kept.refl _ _).set _ _⟩
  · go_enter Tryd.func78, Tryd.ntmps78
    go_wp2_with (go_at_call 29; refine (err_any b q _ h).mono ?_; rintro e w' ⟨rfl, rfl⟩)
    go_end0
    exact ⟨rfl, by rw [St.fail, if_neg he]; exact h, Kept.refl _ _⟩
set_option maxHeartbeats 400000 in
theorem give_any (b p : Nat) (q : St) (x : Int) (w : World) (h : Rd 85 b q w) :
    Calls Tryd.prog 76 #[.pointer (some ⟨b, 0, none⟩), .int .i64 p, .int .i64 x] w fun e w' => e = .returned (.tuple #[]) ∧ Rd 85 b (q.back p x) w' ∧ Kept b w w' := by
  obtain ⟨c0, c1, c2, f1, f2⟩ := h.cells
  by_cases he : q.err = 0
  · go_enter Tryd.func76, Tryd.ntmps76
    go_wp2_with (go_at_call 29; refine (err_any b q _ h).mono ?_; rintro e w' ⟨rfl, rfl⟩)
    go_end0
    exact ⟨rfl, by rw [St.back, if_pos he]; exact (h.setPos p).setErr x, ((Kept.refl _ _).set _ _).set _ _⟩
  · go_enter Tryd.func76, Tryd.ntmps76
    go_wp2_with (go_at_call 29; refine (err_any b q _ h).mono ?_; rintro e w' ⟨rfl, rfl⟩)
    go_end0
    exact ⟨rfl, by rw [St.back, if_neg he]; exact h, Kept.refl _ _⟩
set_option maxHeartbeats 400000 in
theorem newReader_any (s : ByteArray) (w : World) :
    Calls Tryd.prog 27 #[.string s] w fun e w' => e = .returned (.pointer (some ⟨w.heap.size, 0, none⟩)) ∧ Rd 85 w.heap.size ⟨s, 0, 0⟩ w' ∧ Below w.heap.size w w' := by
  go_enter Tryd.func27, Tryd.ntmps27
  go_wp2
  go_ret
  exact ⟨rfl, heap_alloc_new _ _, (Below.refl _ _).alloc (Nat.le_refl _) _⟩
set_option maxHeartbeats 1000000 in
theorem bytes_any (b : Nat) (q : St) (n : Int) (w : World) (h : Rd 85 b q w) (hq : q.pos ≤ q.s.size) (hs : q.s.size ≤ maxLen) :
    Calls Tryd.prog 83 #[.pointer (some ⟨b, 0, none⟩), .int .i64 n] w fun e w' => e = .returned (.string (q.bytes n).2) ∧ Rd 85 b (q.bytes n).1 w' ∧ Kept b w w' := by
  have hs2 : q.s.size ≤ 9223372036854775807 := hs
  by_cases hn : n < 0
  · have hf := St.fail_ne q 1 (by decide)
    rw [St.bytes_neg q n hn]
    go_enter Tryd.func83, Tryd.ntmps83
    go_wp2_with (go_at_call 78; refine (fail_any b q 1 _ h).mono ?_)
    rintro e w1 ⟨rfl, h1, k1⟩
    go_wp2_with (go_at_call 29; refine (err_any b _ _ h1).mono ?_; rintro e w' ⟨rfl, rfl⟩)
    go_ret
    exact ⟨rfl, h1, k1⟩
  · by_cases hl : (q.s.size : Int) - q.pos < n
    · have hf := St.fail_ne q 4 (by decide)
      rw [St.bytes_cut q n hn hl]
      go_enter Tryd.func83, Tryd.ntmps83
      go_wp2_with (first
        | (go_at_call 77; refine (left_any b q _ h hq hs).mono ?_; rintro e w' ⟨rfl, rfl⟩)
        | (go_at_call 78; refine (fail_any b q 4 _ (by exact h)).mono ?_))
      rintro e w1 ⟨rfl, h1, k1⟩
      go_wp2_with (go_at_call 29; refine (err_any b _ _ h1).mono ?_; rintro e w' ⟨rfl, rfl⟩)
      go_ret
      exact ⟨rfl, h1, ((Kept.refl b w).drew).trans k1⟩
    · by_cases he : q.err = 0
      · obtain ⟨m, rfl⟩ : ∃ m : Nat, n = m := ⟨n.toNat, by omega⟩
        obtain ⟨c0, c1, c2, f1, f2⟩ := h.cells
        rw [St.bytes_ok q _ he hn hl]
        have hm : q.pos + m ≤ q.s.size := by omega
        go_enter Tryd.func83, Tryd.ntmps83
        go_wp2_with (first
          | (go_at_call 77; refine (left_any b q _ h hq hs).mono ?_; rintro e w' ⟨rfl, rfl⟩)
          | (go_at_call 29; refine (err_any b q _ (by exact h)).mono ?_; rintro e w' ⟨rfl, rfl⟩))
        go_region
        go_wp2
        go_ret
        have hr := h.setPos (q.pos + m)
        rw [he] at hr
        exact ⟨rfl, hr, ((Kept.refl _ _).set _ _).drew.drew⟩
      · rw [St.bytes_err q n he]
        go_enter Tryd.func83, Tryd.ntmps83
        go_wp2_with (first
          | (go_at_call 77; refine (left_any b q _ h hq hs).mono ?_; rintro e w' ⟨rfl, rfl⟩)
          | (go_at_call 29; refine (err_any b q _ (by exact h)).mono ?_; rintro e w' ⟨rfl, rfl⟩))
        go_ret
        exact ⟨rfl, h, (Kept.refl _ _).drew⟩
end Go.Proofs.YtoopaeahhbkncaaDoor
