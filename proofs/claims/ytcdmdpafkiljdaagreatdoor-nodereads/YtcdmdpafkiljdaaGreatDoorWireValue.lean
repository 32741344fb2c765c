/- Contracts of the numbers that digits are: the program's, and the document's reader's. -/
import Derived.Test.YtcdmdpafkiljdaaGreatDoorWireDigit
import Derived.Test.YtcdmdpafkiljdaaGreatDoorWireReader
namespace Go.Wire
theorem pow16 {k : Nat} (h : k ≤ 15) : 16 ^ k ≤ 1152921504606846976 := by
  have := Nat.pow_le_pow_right (n := 16) (by decide) h
  exact this
theorem val_take_lt (s : ByteArray) (k m : Nat) (hs : s.size ≤ 16) (hk : k < s.size) (h : val (s.data.toList.take k) = some m) : m < 1152921504606846976 := by
  have h1 := val_lt _ _ h
  have h2 : (s.data.toList.take k).length ≤ 15 := by rw [List.length_take]; omega
  exact Nat.lt_of_lt_of_le h1 (pow16 h2)
theorem val_step (s : ByteArray) (k m d : Nat) (hk : k < s.size) (h : val (s.data.toList.take k) = some m) (hd : dig s[k] = some d) : val (s.data.toList.take (k + 1)) = some (m * 16 + d) := by
  rw [take_snoc s k hk, val_snoc, h]; simp [vstep, hd]
theorem val_stop (s : ByteArray) (k : Nat) (hk : k < s.size) (hd : dig s[k] = none) : val s.data.toList = none := by
  rw [take_drop s k hk]; exact val_none hd
end Go.Wire
namespace Go.Proofs.YtcdmdpafkiljdaaGreatDoor
open Go.RowKit Go.Wire
set_option maxHeartbeats 400000 in
theorem value_any (s : ByteArray) (w : World) (hs : s.size ≤ 16) :
    Calls Tryz.prog 58 #[.string s] w fun e w' => e = .returned (.tuple #[.int .u64 ((val s.data.toList).getD 0 : Nat), .bool (val s.data.toList).isSome]) ∧ w' = w := by
  go_enter Tryz.func58, Tryz.ntmps58
  go_wp2
  go_loop [4, 10] (fun n i => ∃ k m : Nat, k ≤ s.size ∧ i = .int .i64 k ∧ n = .int .u64 m ∧ Hid (val (s.data.toList.take k) = some m)) (fun _ i => s.size - (intOf i).toNat)
  case atStart => exact ⟨0, 0, Nat.zero_le _, rfl, rfl, rfl⟩
  case round =>
    obtain ⟨k, m, hk, rfl, rfl, hv⟩ := hrel
    by_cases hlt : k < s.size
    · have hm := val_take_lt s k m hs hlt hv.out
      cases hd : dig s[k] with
      | none =>
        have HD : Hid (dig s[k] = none) := hd
        clear hd
        go_wp2_with (go_at_call 95; refine (digit_none _ _ HD.out).mono ?_; rintro e w' ⟨rfl, rfl⟩)
        go_ret2
        rw [val_stop s k hlt HD.out]
        exact ⟨rfl, rfl⟩
      | some d =>
        have HD : Hid (dig s[k] = some d) := hd
        have hd16 := dig_lt hd
        clear hd
        go_wp2_with (go_at_call 95; refine (digit_some _ d _ HD.out).mono ?_; rintro e w' ⟨rfl, rfl⟩)
        go_round
        case rel => exact ⟨k + 1, m * 16 + d, by omega, by go_num, by go_num, val_step s k m d hlt hv.out HD.out⟩
        case measure => simp [intOf]; omega
    · have hv2 : Hid (val s.data.toList = some m) := by have := hv.out; rw [take_all s k hlt] at this; exact this
      clear hv
      go_wp2
      go_ret2
      rw [hv2.out]
      exact ⟨rfl, rfl⟩
set_option maxHeartbeats 400000 in
theorem readerNumber_any (b : Nat) (q : St) (k : Int) (w : World) (h : Rd 98 b q w) (hq : q.pos ≤ q.s.size) (hs : q.s.size ≤ maxLen) :
    Calls Tryz.prog 25 #[.pointer (some ⟨b, 0, none⟩), .int .i64 k] w fun e w' => e = .returned (.int .u64 ((q.number k).2 : Nat)) ∧ Rd 98 b (q.number k).1 w' ∧ Kept b w w' := by
  have hs2 : q.s.size ≤ 9223372036854775807 := hs
  by_cases hk : k < 0 ∨ 8 < k
  · rw [St.number_out q k hk]
    by_cases h0 : k < 0
    · clear hk
      go_enter Tryz.func25, Tryz.ntmps25
      go_wp2_with (go_at_call 56; refine (fail_any b q 1 _ h).mono ?_; rintro e w1 ⟨rfl, h1, k1⟩)
      go_ret
      exact ⟨rfl, by assumption, by assumption⟩
    · have h8 : 8 < k := by omega
      clear hk
      go_enter Tryz.func25, Tryz.ntmps25
      go_wp2_with (go_at_call 56; refine (fail_any b q 1 _ h).mono ?_; rintro e w1 ⟨rfl, h1, k1⟩)
      go_ret
      exact ⟨rfl, by assumption, by assumption⟩
  · have h0 : ¬ k < 0 := fun x => hk (.inl x)
    have h8 : ¬ 8 < k := fun x => hk (.inr x)
    have HK : Hid (¬ (k < 0 ∨ 8 < k)) := hk
    clear hk
    have hz : (q.bytes (2 * k)).2.size ≤ 16 := Nat.le_trans (q.bytes_size (2 * k)) (by omega)
    cases hv : val (q.bytes (2 * k)).2.data.toList with
    | none =>
      have HV : Hid (val (q.bytes (2 * k)).2.data.toList = none) := hv
      clear hv
      rw [St.number_none q k HK.out HV.out]
      go_enter Tryz.func25, Tryz.ntmps25
      go_wp2_with (first
        | (go_at_call 57; refine (at_any b q _ h).mono ?_; rintro e w' ⟨rfl, rfl⟩)
        | (go_at_call 59; refine (bytes_any b q (2 * k) _ h hq hs).mono ?_))
      rintro e w1 ⟨rfl, h1, k1⟩
      go_wp2_with (first
        | (go_at_call 58; refine (value_any _ _ hz).mono ?_; rw [HV.out]; rintro e w' ⟨rfl, rfl⟩)
        | (go_at_call 60; refine (give_any b q.pos _ 6 _ h1).mono ?_))
      rintro e w2 ⟨rfl, h2, k2⟩
      go_wp2
      go_ret
      exact ⟨rfl, h2, k1.trans k2⟩
    | some n =>
      have HV : Hid (val (q.bytes (2 * k)).2.data.toList = some n) := hv
      clear hv
      rw [St.number_some q k n HK.out HV.out]
      go_enter Tryz.func25, Tryz.ntmps25
      go_wp2_with (first
        | (go_at_call 57; refine (at_any b q _ h).mono ?_; rintro e w' ⟨rfl, rfl⟩)
        | (go_at_call 59; refine (bytes_any b q (2 * k) _ h hq hs).mono ?_))
      rintro e w1 ⟨rfl, h1, k1⟩
      go_wp2_with (go_at_call 58; refine (value_any _ _ hz).mono ?_; rw [HV.out]; rintro e w' ⟨rfl, rfl⟩)
      go_ret
      exact ⟨rfl, h1, k1⟩
end Go.Proofs.YtcdmdpafkiljdaaGreatDoor
