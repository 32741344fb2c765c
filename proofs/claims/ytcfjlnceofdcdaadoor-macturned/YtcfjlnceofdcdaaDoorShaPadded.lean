/- The contract of a text with what stands behind it, in the reference. -/
import Derived.Test.YtcfjlnceofdcdaaDoorRows
import Derived.Test.YtcfjlnceofdcdaaDoorShaMul
import Derived.Test.YtcfjlnceofdcdaaDoorShaNumber
import Derived.Test.YtcfjlnceofdcdaaDoorShaMath3
import Derived.WalkKit
import Derived.WalkSpells
import Derived.WalkLawsBesides
import Derived.Deep.QuietTactic
import Derived.Deep.RegionWith
import Derived.Test.YtcfjlnceofdcdaaDoorTail
import Derived.BigQuiet
import Derived.Deep.WholeRow
namespace Go.Proofs.YtcfjlnceofdcdaaDoor
open Go.RowKit
theorem u5' : Tryd.prog.underlying 5 = some (.int .u8) := by kernel_rfl
theorem u9' : Tryd.prog.underlying 9 = some .string := by kernel_rfl
set_option maxRecDepth 100000 in
set_option maxHeartbeats 1000000 in
theorem padded_any (s : ByteArray) (w : World) (hs : s.size ≤ 1000000) :
    Calls Tryd.prog 28 #[.string s] w fun e w' => e = .returned (.string ⟨(Sha.ended s.data.toList s.size).toArray⟩) ∧ Below w.heap.size w w' := by
  have hz : Sha.zeros s.size < 128 := by unfold Sha.zeros; omega
  go_enter Tryd.func28, Tryd.ntmps28
  go_wp2_with fail
  go_loop [0] (fun v => ∃ (k : Nat) (r : ByteArray), v = .string r ∧ k ≤ Sha.zeros s.size ∧ r.size = s.size + 1 + k ∧ Hid (r.data.toList = Sha.part s.data.toList k)) (fun v => match v with | .string r => 2000000 - r.size | _ => 0)
  case atStart => exact ⟨0, _, rfl, Nat.zero_le _, by rw [Sha.app_size]; rfl, by show (s ++ (⟨#[128]⟩ : ByteArray)).data.toList = _; rw [Sha.app_list]; rfl⟩
  case round =>
    obtain ⟨k, r, rfl, hk, hr, HR⟩ := hrel
    have hr2 : (r.size : Int) ≤ 1000200 := by omega
    by_cases hlt : (s.size + 1 + k) % 128 = 112
    · go_wp2
      have hN : (s.size : Int) * 8 = 8 * s.size := by omega
      rw [hN]
      clear hN
      have HD : Hid (Sha.part s.data.toList k = Sha.marked s.data.toList) := Sha.part_done _ _ (by simpa using hk) (by rw [Sha.part_length]; simpa using hlt)
      go_loopw [3, 4, 5] (fun vn vt vi wr => ∃ (j : Nat) (t : ByteArray), j ≤ 8 ∧ vi = .int .i64 j ∧ vn = .int .u64 (8 * (s.size : Int) / 2 ^ (8 * j)) ∧ vt = .string t ∧ t.size ≤ 100 ∧ Hid (t.data.toList = Sha.be (8 * (s.size : Int)) j ∧ Below w.heap.size w wr)) (fun _ _ vi _ => 8 - (intOf vi).toNat)
      case atStart => exact ⟨0, _, by omega, rfl, by simp, rfl, by show (0 : Nat) ≤ 100; omega, rfl, Below.refl _ _⟩
      case round =>
        obtain ⟨j, t, hj, rfl, rfl, rfl, ht, HT⟩ := hrel
        by_cases hlj : j < 8
        · have hX0 : 0 ≤ 8 * (s.size : Int) / 2 ^ (8 * j) := Int.ediv_nonneg (by omega) (Int.pow_nonneg (by decide))
          have hX1 : 8 * (s.size : Int) / 2 ^ (8 * j) ≤ 8000000 := Int.le_trans (Int.ediv_le_self _ (by omega)) (by omega)
          have HY : Hid (8 * (s.size : Int) / 2 ^ (8 * j) / 256 = 8 * (s.size : Int) / 2 ^ (8 * (j + 1))) := Sha.div_next _ _
          have HZ : Hid (Sha.be (8 * (s.size : Int)) (j + 1) = [Sha.byteOf (8 * (s.size : Int) / 2 ^ (8 * j))] ++ Sha.be (8 * (s.size : Int)) j) := Sha.be_head _ _
          generalize 8 * (s.size : Int) / 2 ^ (8 * j) = X at *
          go_wp2_with (refine ByteRow.to_string _ rfl 40 9 5 _ rfl [Sha.byteOf X] rfl (ByteRow.Has.one HT.out.2.size _ _ (Sha.byteV_of X).symm _) (by simp) under46 u5' u9' ?_)
          go_roundw
          case rel =>
            refine ⟨j + 1, _, by omega, by go_num, by rw [HY.out], rfl, ?_, ?_, HT.out.2.alloc HT.out.2.size _⟩
            · have hlt8 := congrArg List.length HT.out.1
              rw [Sha.be_length] at hlt8
              have : t.data.toList.length = t.size := by simp
              rw [Sha.app_size]
              show 1 + t.size ≤ 100
              omega
            · rw [Sha.app_list, HT.out.1, HZ.out]
          case measure => simp [intOf]; omega
        · have hj8 : j = 8 := by omega
          subst hj8
          go_wp2
          go_ret
          refine ⟨?_, HT.out.2⟩
          show Ending.returned (Value.string ((r ++ (⟨#[0, 0, 0, 0, 0, 0, 0, 0]⟩ : ByteArray)) ++ t)) = _
          have hb : (r ++ (⟨#[0, 0, 0, 0, 0, 0, 0, 0]⟩ : ByteArray)) ++ t = ⟨(Sha.ended s.data.toList s.size).toArray⟩ := by
            apply Sha.ba_ext
            rw [Sha.app_list, Sha.app_list, HR.out, HD.out, HT.out.1, Sha.ended, ← List.append_assoc]
            rfl
          rw [hb]
    · go_wp2
      go_round
      case rel =>
        have hm := Sha.part_more s.data.toList k (by simpa using hk) (by rw [Sha.part_length]; simpa using hlt)
        exact ⟨k + 1, _, rfl, by simpa using hm, by rw [Sha.app_size, hr]; rfl, by show (r ++ (⟨#[0]⟩ : ByteArray)).data.toList = _; rw [Sha.app_list, HR.out]; exact Sha.part_snoc _ _⟩
      case measure => show 2000000 - (r ++ (⟨#[0]⟩ : ByteArray)).size < 2000000 - r.size; rw [Sha.app_size, hr]; show 2000000 - (s.size + 1 + k + 1) < _; omega
end Go.Proofs.YtcfjlnceofdcdaaDoor
