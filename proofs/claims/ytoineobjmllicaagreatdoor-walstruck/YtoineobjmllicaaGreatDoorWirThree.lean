/- Several texts in one: WireReader, WireValue, WireTakes. -/
import Derived.Test.YtoineobjmllicaaGreatDoorRows
import Derived.Test.YtoineobjmllicaaGreatDoorWirOne
/- Contracts of the small calls of the program's reader. -/
namespace Go.Proofs.YtoineobjmllicaaGreatDoor
open Go.RowKit Go.Wire
set_option maxHeartbeats 400000 in
theorem err_any (b : Nat) (q : St) (w : World) (h : Rd 201 b q w) :
    Calls Tryz.prog 141 #[.pointer (some ⟨b, 0, none⟩)] w fun e w' => e = .returned (.int .i64 q.err) ∧ w' = w := by
  obtain ⟨c0, c1, c2, f1, f2⟩ := h.cells
  go_enter Tryz.func141, Tryz.ntmps141
  go_wp2
  go_ret
  exact ⟨rfl, rfl⟩
set_option maxHeartbeats 400000 in
theorem at_any (b : Nat) (q : St) (w : World) (h : Rd 201 b q w) :
    Calls Tryz.prog 142 #[.pointer (some ⟨b, 0, none⟩)] w fun e w' => e = .returned (.int .i64 q.pos) ∧ w' = w := by
  obtain ⟨c0, c1, c2, f1, f2⟩ := h.cells
  go_enter Tryz.func142, Tryz.ntmps142
  go_wp2
  go_ret
  exact ⟨rfl, rfl⟩
set_option maxHeartbeats 400000 in
theorem left_any (b : Nat) (q : St) (w : World) (h : Rd 201 b q w) (hq : q.pos ≤ q.s.size) (hs : q.s.size ≤ maxLen) :
    Calls Tryz.prog 167 #[.pointer (some ⟨b, 0, none⟩)] w fun e w' => e = .returned (.int .i64 ((q.s.size : Int) - q.pos)) ∧ w' = w.drew := by
  unfold maxLen at hs
  obtain ⟨c0, c1, c2, f1, f2⟩ := h.cells
  go_enter Tryz.func167, Tryz.ntmps167
  go_wp2
  go_region
  go_wp2
  go_ret
  exact ⟨rfl, rfl⟩
set_option maxHeartbeats 400000 in
theorem fail_any (b : Nat) (q : St) (x : Int) (w : World) (h : Rd 201 b q w) :
    Calls Tryz.prog 140 #[.pointer (some ⟨b, 0, none⟩), .int .i64 x] w fun e w' => e = .returned (.tuple #[]) ∧ Rd 201 b (q.fail x) w' ∧ Kept b w w' := by
  obtain ⟨c0, c1, c2, f1, f2⟩ := h.cells
  by_cases he : q.err = 0
  · go_enter Tryz.func140, Tryz.ntmps140
    go_wp2_with (go_at_call 141; refine (err_any b q _ h).mono ?_; rintro e w' ⟨rfl, rfl⟩)
    go_end0
    exact ⟨rfl, by rw [St.fail, if_pos he]; exact h.setErr x, (Kept.refl _ _).set _ _⟩
  · go_enter Tryz.func140, Tryz.ntmps140
    go_wp2_with (go_at_call 141; refine (err_any b q _ h).mono ?_; rintro e w' ⟨rfl, rfl⟩)
    go_end0
    exact ⟨rfl, by rw [St.fail, if_neg he]; exact h, Kept.refl _ _⟩
set_option maxHeartbeats 400000 in
theorem give_any (b p : Nat) (q : St) (x : Int) (w : World) (h : Rd 201 b q w) :
    Calls Tryz.prog 165 #[.pointer (some ⟨b, 0, none⟩), .int .i64 p, .int .i64 x] w fun e w' => e = .returned (.tuple #[]) ∧ Rd 201 b (q.back p x) w' ∧ Kept b w w' := by
  obtain ⟨c0, c1, c2, f1, f2⟩ := h.cells
  by_cases he : q.err = 0
  · go_enter Tryz.func165, Tryz.ntmps165
    go_wp2_with (go_at_call 141; refine (err_any b q _ h).mono ?_; rintro e w' ⟨rfl, rfl⟩)
    go_end0
    exact ⟨rfl, by rw [St.back, if_pos he]; exact (h.setPos p).setErr x, ((Kept.refl _ _).set _ _).set _ _⟩
  · go_enter Tryz.func165, Tryz.ntmps165
    go_wp2_with (go_at_call 141; refine (err_any b q _ h).mono ?_; rintro e w' ⟨rfl, rfl⟩)
    go_end0
    exact ⟨rfl, by rw [St.back, if_neg he]; exact h, Kept.refl _ _⟩
set_option maxHeartbeats 400000 in
theorem newReader_any (s : ByteArray) (w : World) :
    Calls Tryz.prog 136 #[.string s] w fun e w' => e = .returned (.pointer (some ⟨w.heap.size, 0, none⟩)) ∧ Rd 201 w.heap.size ⟨s, 0, 0⟩ w' ∧ Below w.heap.size w w' := by
  go_enter Tryz.func136, Tryz.ntmps136
  go_wp2
  go_ret
  exact ⟨rfl, heap_alloc_new _ _, (Below.refl _ _).alloc (Nat.le_refl _) _⟩
set_option maxHeartbeats 1000000 in
theorem bytes_any (b : Nat) (q : St) (n : Int) (w : World) (h : Rd 201 b q w) (hq : q.pos ≤ q.s.size) (hs : q.s.size ≤ maxLen) :
    Calls Tryz.prog 139 #[.pointer (some ⟨b, 0, none⟩), .int .i64 n] w fun e w' => e = .returned (.string (q.bytes n).2) ∧ Rd 201 b (q.bytes n).1 w' ∧ Kept b w w' := by
  have hs2 : q.s.size ≤ 9223372036854775807 := hs
  by_cases hn : n < 0
  · have hf := St.fail_ne q 1 (by decide)
    rw [St.bytes_neg q n hn]
    go_enter Tryz.func139, Tryz.ntmps139
    go_wp2_with (go_at_call 140; refine (fail_any b q 1 _ h).mono ?_)
    rintro e w1 ⟨rfl, h1, k1⟩
    go_wp2_with (go_at_call 141; refine (err_any b _ _ h1).mono ?_; rintro e w' ⟨rfl, rfl⟩)
    go_ret
    exact ⟨rfl, h1, k1⟩
  · by_cases hl : (q.s.size : Int) - q.pos < n
    · have hf := St.fail_ne q 4 (by decide)
      rw [St.bytes_cut q n hn hl]
      go_enter Tryz.func139, Tryz.ntmps139
      go_wp2_with (first
        | (go_at_call 167; refine (left_any b q _ h hq hs).mono ?_; rintro e w' ⟨rfl, rfl⟩)
        | (go_at_call 140; refine (fail_any b q 4 _ (by exact h)).mono ?_))
      rintro e w1 ⟨rfl, h1, k1⟩
      go_wp2_with (go_at_call 141; refine (err_any b _ _ h1).mono ?_; rintro e w' ⟨rfl, rfl⟩)
      go_ret
      exact ⟨rfl, h1, ((Kept.refl b w).drew).trans k1⟩
    · by_cases he : q.err = 0
      · obtain ⟨m, rfl⟩ : ∃ m : Nat, n = m := ⟨n.toNat, by omega⟩
        obtain ⟨c0, c1, c2, f1, f2⟩ := h.cells
        rw [St.bytes_ok q _ he hn hl]
        have hm : q.pos + m ≤ q.s.size := by omega
        go_enter Tryz.func139, Tryz.ntmps139
        go_wp2_with (first
          | (go_at_call 167; refine (left_any b q _ h hq hs).mono ?_; rintro e w' ⟨rfl, rfl⟩)
          | (go_at_call 141; refine (err_any b q _ (by exact h)).mono ?_; rintro e w' ⟨rfl, rfl⟩))
        go_region
        go_wp2
        go_ret
        have hr := h.setPos (q.pos + m)
        rw [he] at hr
        exact ⟨rfl, hr, ((Kept.refl _ _).set _ _).drew.drew⟩
      · rw [St.bytes_err q n he]
        go_enter Tryz.func139, Tryz.ntmps139
        go_wp2_with (first
          | (go_at_call 167; refine (left_any b q _ h hq hs).mono ?_; rintro e w' ⟨rfl, rfl⟩)
          | (go_at_call 141; refine (err_any b q _ (by exact h)).mono ?_; rintro e w' ⟨rfl, rfl⟩))
        go_ret
        exact ⟨rfl, h, (Kept.refl _ _).drew⟩
end Go.Proofs.YtoineobjmllicaaGreatDoor
/- Contracts of the numbers that digits are: the program's, and the document's reader's. -/
namespace Go.Wire
theorem pow16 {k : Nat} (h : k ≤ 15) : 16 ^ k ≤ 1152921504606846976 := by
  have := Nat.pow_le_pow_right (n := 16) (by decide) h
  exact this
theorem val_take_lt (s : ByteArray) (k m : Nat) (hs : s.size ≤ 16) (hk : k < s.size) (h : val (s.data.toList.take k) = some m) : m < 1152921504606846976 := by
  have h1 := val_lt _ _ h
  have h2 : (s.data.toList.take k).length ≤ 15 := by rw [List.length_take]; omega
  exact Nat.lt_of_lt_of_le h1 (pow16 h2)
theorem val_step (s : ByteArray) (k m d : Nat) (hk : k < s.size) (h : val (s.data.toList.take k) = some m) (hd : dig s[k] = some d) : val (s.data.toList.take (k + 1)) = some (m * 16 + d) := by
  rw [take_snoc s k hk, val_snoc, h]; simp [vstep, hd]
theorem val_stop (s : ByteArray) (k : Nat) (hk : k < s.size) (hd : dig s[k] = none) : val s.data.toList = none := by
  rw [take_drop s k hk]; exact val_none hd
end Go.Wire
namespace Go.Proofs.YtoineobjmllicaaGreatDoor
open Go.RowKit Go.Wire
set_option maxHeartbeats 400000 in
theorem value_any (s : ByteArray) (w : World) (hs : s.size ≤ 16) :
    Calls Tryz.prog 166 #[.string s] w fun e w' => e = .returned (.tuple #[.int .u64 ((val s.data.toList).getD 0 : Nat), .bool (val s.data.toList).isSome]) ∧ w' = w := by
  go_enter Tryz.func166, Tryz.ntmps166
  go_wp2
  go_loop [4, 10] (fun n i => ∃ k m : Nat, k ≤ s.size ∧ i = .int .i64 k ∧ n = .int .u64 m ∧ Hid (val (s.data.toList.take k) = some m)) (fun _ i => s.size - (intOf i).toNat)
  case atStart => exact ⟨0, 0, Nat.zero_le _, rfl, rfl, rfl⟩
  case round =>
    obtain ⟨k, m, hk, rfl, rfl, hv⟩ := hrel
    by_cases hlt : k < s.size
    · have hm := val_take_lt s k m hs hlt hv.out
      cases hd : dig s[k] with
      | none =>
        have HD : Hid (dig s[k] = none) := hd
        clear hd
        go_wp2_with (go_at_call 179; refine (digit_none _ _ HD.out).mono ?_; rintro e w' ⟨rfl, rfl⟩)
        go_ret2
        rw [val_stop s k hlt HD.out]
        exact ⟨rfl, rfl⟩
      | some d =>
        have HD : Hid (dig s[k] = some d) := hd
        have hd16 := dig_lt hd
        clear hd
        go_wp2_with (go_at_call 179; refine (digit_some _ d _ HD.out).mono ?_; rintro e w' ⟨rfl, rfl⟩)
        go_round
        case rel => exact ⟨k + 1, m * 16 + d, by omega, by go_num, by go_num, val_step s k m d hlt hv.out HD.out⟩
        case measure => simp [intOf]; omega
    · have hv2 : Hid (val s.data.toList = some m) := by have := hv.out; rw [take_all s k hlt] at this; exact this
      clear hv
      go_wp2
      go_ret2
      rw [hv2.out]
      exact ⟨rfl, rfl⟩
set_option maxHeartbeats 400000 in
theorem readerNumber_any (b : Nat) (q : St) (k : Int) (w : World) (h : Rd 201 b q w) (hq : q.pos ≤ q.s.size) (hs : q.s.size ≤ maxLen) :
    Calls Tryz.prog 138 #[.pointer (some ⟨b, 0, none⟩), .int .i64 k] w fun e w' => e = .returned (.int .u64 ((q.number k).2 : Nat)) ∧ Rd 201 b (q.number k).1 w' ∧ Kept b w w' := by
  have hs2 : q.s.size ≤ 9223372036854775807 := hs
  by_cases hk : k < 0 ∨ 8 < k
  · rw [St.number_out q k hk]
    by_cases h0 : k < 0
    · clear hk
      go_enter Tryz.func138, Tryz.ntmps138
      go_wp2_with (go_at_call 140; refine (fail_any b q 1 _ h).mono ?_; rintro e w1 ⟨rfl, h1, k1⟩)
      go_ret
      exact ⟨rfl, by assumption, by assumption⟩
    · have h8 : 8 < k := by omega
      clear hk
      go_enter Tryz.func138, Tryz.ntmps138
      go_wp2_with (go_at_call 140; refine (fail_any b q 1 _ h).mono ?_; rintro e w1 ⟨rfl, h1, k1⟩)
      go_ret
      exact ⟨rfl, by assumption, by assumption⟩
  · have h0 : ¬ k < 0 := fun x => hk (.inl x)
    have h8 : ¬ 8 < k := fun x => hk (.inr x)
    have HK : Hid (¬ (k < 0 ∨ 8 < k)) := hk
    clear hk
    have hz : (q.bytes (2 * k)).2.size ≤ 16 := Nat.le_trans (q.bytes_size (2 * k)) (by omega)
    cases hv : val (q.bytes (2 * k)).2.data.toList with
    | none =>
      have HV : Hid (val (q.bytes (2 * k)).2.data.toList = none) := hv
      clear hv
      rw [St.number_none q k HK.out HV.out]
      go_enter Tryz.func138, Tryz.ntmps138
      go_wp2_with (first
        | (go_at_call 142; refine (at_any b q _ h).mono ?_; rintro e w' ⟨rfl, rfl⟩)
        | (go_at_call 139; refine (bytes_any b q (2 * k) _ h hq hs).mono ?_))
      rintro e w1 ⟨rfl, h1, k1⟩
      go_wp2_with (first
        | (go_at_call 166; refine (value_any _ _ hz).mono ?_; rw [HV.out]; rintro e w' ⟨rfl, rfl⟩)
        | (go_at_call 165; refine (give_any b q.pos _ 6 _ h1).mono ?_))
      rintro e w2 ⟨rfl, h2, k2⟩
      go_wp2
      go_ret
      exact ⟨rfl, h2, k1.trans k2⟩
    | some n =>
      have HV : Hid (val (q.bytes (2 * k)).2.data.toList = some n) := hv
      clear hv
      rw [St.number_some q k n HK.out HV.out]
      go_enter Tryz.func138, Tryz.ntmps138
      go_wp2_with (first
        | (go_at_call 142; refine (at_any b q _ h).mono ?_; rintro e w' ⟨rfl, rfl⟩)
        | (go_at_call 139; refine (bytes_any b q (2 * k) _ h hq hs).mono ?_))
      rintro e w1 ⟨rfl, h1, k1⟩
      go_wp2_with (go_at_call 166; refine (value_any _ _ hz).mono ?_; rw [HV.out]; rintro e w' ⟨rfl, rfl⟩)
      go_ret
      exact ⟨rfl, h1, k1⟩
end Go.Proofs.YtoineobjmllicaaGreatDoor
/- Contracts of the program's reader: counts, texts, digests, yes and no, the end. -/
namespace Go.Proofs.YtoineobjmllicaaGreatDoor
open Go.RowKit Go.Wire
set_option maxHeartbeats 1000000 in
theorem count_any (b : Nat) (q : St) (most : Int) (w : World) (h : Rd 201 b q w) (hq : q.pos ≤ q.s.size) (hs : q.s.size ≤ maxLen) (hm1 : most ≤ 9223372036854775807) :
    Calls Tryz.prog 137 #[.pointer (some ⟨b, 0, none⟩), .int .i64 most] w fun e w' => e = .returned (.int .i64 ((q.count most).2 : Nat)) ∧ Rd 201 b (q.count most).1 w' ∧ Kept b w w' := by
  have hlt : (q.number 4).2 < 4294967296 := q.number_lt 4 (by decide)
  have hps := q.number_le 4 hq
  have hpq := q.number_s 4
  have HN : ∀ {w : World}, Rd 201 b q w → Hid (Calls Tryz.prog 138 #[.pointer (some ⟨b, 0, none⟩), .int .i64 4] w fun e w' => e = .returned (.int .u64 ((q.number 4).2 : Nat)) ∧ Rd 201 b (q.number 4).1 w' ∧ Kept b w w') := fun h => readerNumber_any b q 4 _ h hq hs
  by_cases hm : most < 0
  · rw [St.count_no q most (.inl hm)]
    generalize (q.number 4).2 = n at hlt HN
    generalize (q.number 4).1 = p at hps hpq HN
    go_enter Tryz.func137, Tryz.ntmps137
    go_wp2_with (first
      | (go_at_call 142; refine (at_any b q _ h).mono ?_; rintro e w' ⟨rfl, rfl⟩)
      | (go_at_call 138; refine (HN h).out.mono ?_; rintro e w1 ⟨rfl, h1, k1⟩)
      | (go_at_call 165; refine (give_any b q.pos p 3 _ (by assumption)).mono ?_; rintro e w2 ⟨rfl, h2, k2⟩))
    go_ret
    exact ⟨rfl, by assumption, Kept.trans (by assumption) (by assumption)⟩
  · by_cases hn : most < (q.number 4).2
    · rw [St.count_no q most (.inr hn)]
      generalize (q.number 4).2 = n at hlt HN hn
      generalize (q.number 4).1 = p at hps hpq HN
      go_enter Tryz.func137, Tryz.ntmps137
      go_wp2_with (first
        | (go_at_call 142; refine (at_any b q _ h).mono ?_; rintro e w' ⟨rfl, rfl⟩)
        | (go_at_call 138; refine (HN h).out.mono ?_; rintro e w1 ⟨rfl, h1, k1⟩)
        | (go_at_call 165; refine (give_any b q.pos p 3 _ (by assumption)).mono ?_; rintro e w2 ⟨rfl, h2, k2⟩))
      go_ret
      exact ⟨rfl, by assumption, Kept.trans (by assumption) (by assumption)⟩
    · rw [St.count_yes q most (fun x => x.elim hm hn)]
      generalize (q.number 4).2 = n at hlt HN hn
      generalize (q.number 4).1 = p at hps hpq HN
      go_enter Tryz.func137, Tryz.ntmps137
      go_wp2_with (first
        | (go_at_call 142; refine (at_any b q _ h).mono ?_; rintro e w' ⟨rfl, rfl⟩)
        | (go_at_call 138; refine (HN h).out.mono ?_; rintro e w1 ⟨rfl, h1, k1⟩))
      go_ret
      exact ⟨rfl, by assumption, by assumption⟩
end Go.Proofs.YtoineobjmllicaaGreatDoor
