/- Contracts of the small calls of the program's reader. -/
import Derived.Test.YtcdmdpafkiljdaaGreatDoorRows
import Derived.Test.YtcdmdpafkiljdaaGreatDoorWireRd
namespace Go.Proofs.YtcdmdpafkiljdaaGreatDoor
open Go.RowKit Go.Wire
set_option maxHeartbeats 400000 in
theorem err_any (b : Nat) (q : St) (w : World) (h : Rd 98 b q w) :
    Calls Tryz.prog 65 #[.pointer (some ⟨b, 0, none⟩)] w fun e w' => e = .returned (.int .i64 q.err) ∧ w' = w := by
  obtain ⟨c0, c1, c2, f1, f2⟩ := h.cells
  go_enter Tryz.func65, Tryz.ntmps65
  go_wp2
  go_ret
  exact ⟨rfl, rfl⟩
set_option maxHeartbeats 400000 in
theorem at_any (b : Nat) (q : St) (w : World) (h : Rd 98 b q w) :
    Calls Tryz.prog 57 #[.pointer (some ⟨b, 0, none⟩)] w fun e w' => e = .returned (.int .i64 q.pos) ∧ w' = w := by
  obtain ⟨c0, c1, c2, f1, f2⟩ := h.cells
  go_enter Tryz.func57, Tryz.ntmps57
  go_wp2
  go_ret
  exact ⟨rfl, rfl⟩
set_option maxHeartbeats 400000 in
theorem left_any (b : Nat) (q : St) (w : World) (h : Rd 98 b q w) (hq : q.pos ≤ q.s.size) (hs : q.s.size ≤ maxLen) :
    Calls Tryz.prog 66 #[.pointer (some ⟨b, 0, none⟩)] w fun e w' => e = .returned (.int .i64 ((q.s.size : Int) - q.pos)) ∧ w' = w.drew := by
  unfold maxLen at hs
  obtain ⟨c0, c1, c2, f1, f2⟩ := h.cells
  go_enter Tryz.func66, Tryz.ntmps66
  go_wp2
  go_region
  go_wp2
  go_ret
  exact ⟨rfl, rfl⟩
set_option maxHeartbeats 400000 in
theorem fail_any (b : Nat) (q : St) (x : Int) (w : World) (h : Rd 98 b q w) :
    Calls Tryz.prog 56 #[.pointer (some ⟨b, 0, none⟩), .int .i64 x] w fun e w' => e = .returned (.tuple #[]) ∧ Rd 98 b (q.fail x) w' ∧ Kept b w w' := by
  obtain ⟨c0, c1, c2, f1, f2⟩ := h.cells
  by_cases he : q.err = 0
  · go_enter Tryz.func56, Tryz.ntmps56
    go_wp2_with (go_at_call 65; refine (err_any b q _ h).mono ?_; rintro e w' ⟨rfl, rfl⟩)
    go_end0
    exact ⟨rfl, by rw [St.fail, if_pos he]; exact h.setErr x, (Kept.refl _ _).set _ _⟩
  · go_enter Tryz.func56, Tryz.ntmps56
    go_wp2_with (go_at_call 65; refine (err_any b q _ h).mono ?_; rintro e w' ⟨rfl, rfl⟩)
    go_end0
    exact ⟨rfl, by rw [St.fail, if_neg he]; exact h, Kept.refl _ _⟩
set_option maxHeartbeats 400000 in
theorem give_any (b p : Nat) (q : St) (x : Int) (w : World) (h : Rd 98 b q w) :
    Calls Tryz.prog 60 #[.pointer (some ⟨b, 0, none⟩), .int .i64 p, .int .i64 x] w fun e w' => e = .returned (.tuple #[]) ∧ Rd 98 b (q.back p x) w' ∧ Kept b w w' := by
  obtain ⟨c0, c1, c2, f1, f2⟩ := h.cells
  by_cases he : q.err = 0
  · go_enter Tryz.func60, Tryz.ntmps60
    go_wp2_with (go_at_call 65; refine (err_any b q _ h).mono ?_; rintro e w' ⟨rfl, rfl⟩)
    go_end0
    exact ⟨rfl, by rw [St.back, if_pos he]; exact (h.setPos p).setErr x, ((Kept.refl _ _).set _ _).set _ _⟩
  · go_enter Tryz.func60, Tryz.ntmps60
    go_wp2_with (go_at_call 65; refine (err_any b q _ h).mono ?_; rintro e w' ⟨rfl, rfl⟩)
    go_end0
    exact ⟨rfl, by rw [St.back, if_neg he]; exact h, Kept.refl _ _⟩
set_option maxHeartbeats 400000 in
theorem newReader_any (s : ByteArray) (w : World) :
    Calls Tryz.prog 24 #[.string s] w fun e w' => e = .returned (.pointer (some ⟨w.heap.size, 0, none⟩)) ∧ Rd 98 w.heap.size ⟨s, 0, 0⟩ w' ∧ Below w.heap.size w w' := by
  go_enter Tryz.func24, Tryz.ntmps24
  go_wp2
  go_ret
  exact ⟨rfl, heap_alloc_new _ _, (Below.refl _ _).alloc (Nat.le_refl _) _⟩
set_option maxHeartbeats 1000000 in
theorem bytes_any (b : Nat) (q : St) (n : Int) (w : World) (h : Rd 98 b q w) (hq : q.pos ≤ q.s.size) (hs : q.s.size ≤ maxLen) :
    Calls Tryz.prog 59 #[.pointer (some ⟨b, 0, none⟩), .int .i64 n] w fun e w' => e = .returned (.string (q.bytes n).2) ∧ Rd 98 b (q.bytes n).1 w' ∧ Kept b w w' := by
  have hs2 : q.s.size ≤ 9223372036854775807 := hs
  by_cases hn : n < 0
  · have hf := St.fail_ne q 1 (by decide)
    rw [St.bytes_neg q n hn]
    go_enter Tryz.func59, Tryz.ntmps59
    go_wp2_with (go_at_call 56; refine (fail_any b q 1 _ h).mono ?_)
    rintro e w1 ⟨rfl, h1, k1⟩
    go_wp2_with (go_at_call 65; refine (err_any b _ _ h1).mono ?_; rintro e w' ⟨rfl, rfl⟩)
    go_ret
    exact ⟨rfl, h1, k1⟩
  · by_cases hl : (q.s.size : Int) - q.pos < n
    · have hf := St.fail_ne q 4 (by decide)
      rw [St.bytes_cut q n hn hl]
      go_enter Tryz.func59, Tryz.ntmps59
      go_wp2_with (first
        | (go_at_call 66; refine (left_any b q _ h hq hs).mono ?_; rintro e w' ⟨rfl, rfl⟩)
        | (go_at_call 56; refine (fail_any b q 4 _ (by exact h)).mono ?_))
      rintro e w1 ⟨rfl, h1, k1⟩
      go_wp2_with (go_at_call 65; refine (err_any b _ _ h1).mono ?_; rintro e w' ⟨rfl, rfl⟩)
      go_ret
      exact ⟨rfl, h1, ((Kept.refl b w).drew).trans k1⟩
    · by_cases he : q.err = 0
      · obtain ⟨m, rfl⟩ : ∃ m : Nat, n = m := ⟨n.toNat, by omega⟩
        obtain ⟨c0, c1, c2, f1, f2⟩ := h.cells
        rw [St.bytes_ok q _ he hn hl]
        have hm : q.pos + m ≤ q.s.size := by omega
        go_enter Tryz.func59, Tryz.ntmps59
        go_wp2_with (first
          | (go_at_call 66; refine (left_any b q _ h hq hs).mono ?_; rintro e w' ⟨rfl, rfl⟩)
          | (go_at_call 65; refine (err_any b q _ (by exact h)).mono ?_; rintro e w' ⟨rfl, rfl⟩))
        go_region
        go_wp2
        go_ret
        have hr := h.setPos (q.pos + m)
        rw [he] at hr
        exact ⟨rfl, hr, ((Kept.refl _ _).set _ _).drew.drew⟩
      · rw [St.bytes_err q n he]
        go_enter Tryz.func59, Tryz.ntmps59
        go_wp2_with (first
          | (go_at_call 66; refine (left_any b q _ h hq hs).mono ?_; rintro e w' ⟨rfl, rfl⟩)
          | (go_at_call 65; refine (err_any b q _ (by exact h)).mono ?_; rintro e w' ⟨rfl, rfl⟩))
        go_ret
        exact ⟨rfl, h, (Kept.refl _ _).drew⟩
end Go.Proofs.YtcdmdpafkiljdaaGreatDoor
