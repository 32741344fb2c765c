/- Contracts of a digit's letter and a number's digits, as the document has them. -/
import Derived.Test.YtcdmdpafkiljdaaGreatDoorWireNumber
namespace Go.Proofs.YtcdmdpafkiljdaaGreatDoor
open Go.RowKit Go.Wire
set_option maxHeartbeats 400000 in
theorem rdigit_any (d : Nat) (w : World) (hd : d < 16) :
    Calls Tryz.prog 67 #[.int .u64 d] w fun e w' => e = .returned (.string ⟨#[hexd d]⟩) ∧ Below w.heap.size w w' := by
  by_cases h : d < 10
  · have hu : Value.int .u8 (48 + (d : Int)) = Sha.byteV (hexd d) := by
      have hc : hexd d = UInt8.ofNat (48 + d) := by unfold hexd; rw [if_pos h]
      have : (UInt8.ofNat (48 + d)).toNat = 48 + d := by simp; omega
      unfold Sha.byteV; rw [hc, this]; go_num
    have HU : Hid (Value.int .u8 (48 + (d : Int)) = Sha.byteV (hexd d)) := hu
    clear hu
    generalize hexd d = c at HU
    go_enter Tryz.func67, Tryz.ntmps67
    go_wp2_with (refine ByteRow.to_string _ rfl 111 9 5 _ rfl [c] rfl (ByteRow.Has.one (Nat.le_refl _) _ _ HU.out 5) (by simp) underB under5 under9 ?_)
    go_ret
    exact ⟨rfl, (Below.refl _ _).alloc (Nat.le_refl _) _⟩
  · have hu : Value.int .u8 (87 + (d : Int)) = Sha.byteV (hexd d) := by
      have hc : hexd d = UInt8.ofNat (87 + d) := by unfold hexd; rw [if_neg h]
      have : (UInt8.ofNat (87 + d)).toNat = 87 + d := by simp; omega
      unfold Sha.byteV; rw [hc, this]; go_num
    have HU : Hid (Value.int .u8 (87 + (d : Int)) = Sha.byteV (hexd d)) := hu
    clear hu
    generalize hexd d = c at HU
    go_enter Tryz.func67, Tryz.ntmps67
    go_wp2_with (refine ByteRow.to_string _ rfl 111 9 5 _ rfl [c] rfl (ByteRow.Has.one (Nat.le_refl _) _ _ HU.out 5) (by simp) underB under5 under9 ?_)
    go_ret
    exact ⟨rfl, (Below.refl _ _).alloc (Nat.le_refl _) _⟩
theorem size_one (c : UInt8) (t : ByteArray) : ((⟨#[c]⟩ : ByteArray) ++ t).size = t.size + 1 := by
  rw [ByteArray.size_append, Nat.add_comm]; rfl
theorem num_rround {m n j N : Nat} {t : ByteArray} (hj : j < m) (hp : num (m - j) N ++ t.data.toList = num m n) : num (m - (j + 1)) (N / 16) ++ ((⟨#[hexd (N % 16)]⟩ : ByteArray) ++ t).data.toList = num m n := by
  obtain ⟨i, hi⟩ : ∃ i, m - j = i + 1 := ⟨m - j - 1, by omega⟩
  rw [← hp, hi, show m - (j + 1) = i by omega, num, List.append_assoc]
  simp
set_option maxHeartbeats 1000000 in
theorem rnum_any (n b : Nat) (w : World) (hn : n < 18446744073709551616) (hb : b ≤ 1000) :
    Calls Tryz.prog 30 #[.int .u64 n, .int .i64 b] w fun e w' => e = .returned (.string (numB (2 * min b 8) n)) ∧ Below w.heap.size w w' := by
  by_cases h8 : 8 < b
  · rw [show min b 8 = 8 by omega]
    have hb8 : (8 : Int) < b := by omega
    clear h8
    go_enter Tryz.func30, Tryz.ntmps30
    go_wp2_with fail
    go_loopw [0, 5, 7] (fun nv sv iv wr => ∃ (j N : Nat) (t : ByteArray), j ≤ 16 ∧ N < 18446744073709551616 ∧ iv = .int .i64 j ∧ nv = .int .u64 N ∧ sv = .string t ∧ t.size = j ∧ Hid (num (16 - j) N ++ t.data.toList = num 16 n) ∧ Hid (Below w.heap.size w wr)) (fun _ _ i _ => 16 - (intOf i).toNat)
    case atStart => exact ⟨0, n, ⟨#[]⟩, Nat.zero_le _, hn, rfl, rfl, rfl, rfl, (by simp : num 16 n ++ [] = num 16 n), Below.refl _ _⟩
    case round =>
      obtain ⟨j, N, t, hj, hN, rfl, rfl, rfl, ht, hp, HB⟩ := hrel
      by_cases hlt : j < 16
      · have hd : N % 16 < 16 := Nat.mod_lt _ (by decide)
        go_wp2_with (go_at_call 67; refine (rdigit_any (N % 16) _ hd).mono ?_; rintro e w1 ⟨rfl, k1⟩)
        go_roundw
        case rel => exact ⟨j + 1, N / 16, _, by omega, by omega, by go_num, by go_num, rfl, by rw [size_one, ht], num_rround hlt hp.out, HB.out.trans (Below.mono (by assumption) HB.out.size)⟩
        case measure => simp [intOf]; omega
      · have hj0 : j = 16 := by omega
        subst hj0
        have hl : t = numB 16 n := by
          have := hp.out
          rw [Nat.sub_self] at this
          exact ByteArray.ext (Array.toList_inj.1 (this.trans (numB_list 16 n).symm))
        go_wp2_with fail
        go_ret
        rw [← hl]
        exact ⟨rfl, HB.out⟩
  · rw [show min b 8 = b by omega]
    have hb8 : (b : Int) ≤ 8 := by omega
    go_enter Tryz.func30, Tryz.ntmps30
    go_wp2_with fail
    go_loopw [0, 5, 7] (fun nv sv iv wr => ∃ (j N : Nat) (t : ByteArray), j ≤ 2 * b ∧ N < 18446744073709551616 ∧ iv = .int .i64 j ∧ nv = .int .u64 N ∧ sv = .string t ∧ t.size = j ∧ Hid (num (2 * b - j) N ++ t.data.toList = num (2 * b) n) ∧ Hid (Below w.heap.size w wr)) (fun _ _ i _ => 2 * b - (intOf i).toNat)
    case atStart => exact ⟨0, n, ⟨#[]⟩, Nat.zero_le _, hn, rfl, rfl, rfl, rfl, (by simp : num (2 * b) n ++ [] = num (2 * b) n), Below.refl _ _⟩
    case round =>
      obtain ⟨j, N, t, hj, hN, rfl, rfl, rfl, ht, hp, HB⟩ := hrel
      by_cases hlt : j < 2 * b
      · have hd : N % 16 < 16 := Nat.mod_lt _ (by decide)
        go_wp2_with (go_at_call 67; refine (rdigit_any (N % 16) _ hd).mono ?_; rintro e w1 ⟨rfl, k1⟩)
        go_roundw
        case rel => exact ⟨j + 1, N / 16, _, by omega, by omega, by go_num, by go_num, rfl, by rw [size_one, ht], num_rround hlt hp.out, HB.out.trans (Below.mono (by assumption) HB.out.size)⟩
        case measure => simp [intOf]; omega
      · have hj0 : j = 2 * b := by omega
        subst hj0
        have hl : t = numB (2 * b) n := by
          have := hp.out
          rw [Nat.sub_self] at this
          exact ByteArray.ext (Array.toList_inj.1 (this.trans (numB_list (2 * b) n).symm))
        go_wp2_with fail
        go_ret
        rw [← hl]
        exact ⟨rfl, HB.out⟩
end Go.Proofs.YtcdmdpafkiljdaaGreatDoor
