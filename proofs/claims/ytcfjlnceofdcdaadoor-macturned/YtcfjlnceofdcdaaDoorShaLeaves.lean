/- Contracts of the small functions: rotations, the three-fold turns, a word of eight bytes. -/
import Derived.Test.YtcfjlnceofdcdaaDoorRows
import Derived.Test.YtcfjlnceofdcdaaDoorShaMath
import Derived.WalkKit
import Derived.WalkSpells
import Derived.WalkLawsBesides
import Derived.Deep.QuietTactic
import Derived.Deep.RegionWith
import Derived.Deep.RegionHeld3
import Derived.BigQuiet
namespace Go.Proofs.YtcfjlnceofdcdaaDoor
open Go.RowKit
set_option maxHeartbeats 400000 in
theorem rot_any (x k : Int) (w : World) (h0 : 0 < k) (h1 : k < 64) :
    Calls Tryd.prog 41 #[.int .u64 x, .int .i64 (-k)] w fun e w' => e = .returned (.int .u64 (Sha.rotr x k)) ∧ w' = w := by
  have hs := Sha.and63 k h0 h1
  go_enter Tryd.func41, Tryd.ntmps41
  go_wp2
  go_ret
  refine ⟨?_, rfl⟩
  have e : (64 - (64 - k)).toNat = k.toNat := by omega
  show Ending.returned (Value.int .u64 (bits BinOp.or IntKind.u64 (IntKind.u64.wrap (x * 2 ^ (64 - k).toNat)) (x / 2 ^ (64 - (64 - k)).toNat))) = _
  rw [e, Sha.rotr_turned]
set_option maxHeartbeats 400000 in
theorem rturn_any (x k : Int) (w : World) (h0 : 0 < k) (h1 : k < 64) :
    Calls Tryd.prog 35 #[.int .u64 x, .int .i64 k] w fun e w' => e = .returned (.int .u64 (Sha.rotr x k)) ∧ w' = w := by
  go_enter Tryd.func35, Tryd.ntmps35
  go_wp2
  go_ret
  exact ⟨rfl, rfl⟩
set_option maxHeartbeats 400000 in
theorem turn_any (x i j k : Int) (w : World) (hi0 : 0 < i) (hi1 : i < 64) (hj0 : 0 < j) (hj1 : j < 64) (hk0 : 0 < k) (hk1 : k < 64) :
    Calls Tryd.prog 38 #[.int .u64 x, .int .i64 i, .int .i64 j, .int .i64 k] w fun e w' => e = .returned (.int .u64 (Sha.turn3 x i j k)) ∧ w' = w := by
  go_enter Tryd.func38, Tryd.ntmps38
  go_wp2_with (go_at_call 41; refine (rot_any _ _ _ (by omega) (by omega)).mono ?_; rintro e w' ⟨rfl, rfl⟩)
  go_ret
  exact ⟨rfl, rfl⟩
set_option maxHeartbeats 400000 in
theorem shift_any (x i j k : Int) (w : World) (hi0 : 0 < i) (hi1 : i < 64) (hj0 : 0 < j) (hj1 : j < 64) (hk0 : 0 < k) (hk1 : k < 64) :
    Calls Tryd.prog 40 #[.int .u64 x, .int .i64 i, .int .i64 j, .int .i64 k] w fun e w' => e = .returned (.int .u64 (Sha.shift3 x i j k)) ∧ ∃ n, w' = w.drewN n := by
  go_enter Tryd.func40, Tryd.ntmps40
  go_wp2_with fail
  go_quiet ((go_at_call 41; exact Calls.quiet_of_same (rot_any _ _ _ (by omega) (by omega))))
  go_wp2
  go_ret
  exact ⟨rfl, _, rfl⟩
set_option maxHeartbeats 400000 in
theorem word_any (s : ByteArray) (w : World) (hs : s.size ≤ 1000) :
    Calls Tryd.prog 39 #[.string s] w fun e w' => e = .returned (.int .u64 (Sha.beN s.data.toList 0)) ∧ w' = w := by
  go_enter Tryd.func39, Tryd.ntmps39
  go_wp2
  go_loop [3, 7] (fun n i => ∃ k : Nat, k ≤ s.size ∧ i = .int .i64 k ∧ n = .int .u64 (Sha.beN (s.data.toList.take k) 0)) (fun _ i => s.size - (intOf i).toNat)
  case atStart => exact ⟨0, Nat.zero_le _, rfl, rfl⟩
  case round =>
    obtain ⟨k, hk, rfl, rfl⟩ := hrel
    by_cases hlt : k < s.size
    · go_wp2
      go_round
      case rel => exact ⟨k + 1, by omega, by go_num, by rw [Sha.beN_or, ← Sha.take_snoc]⟩
      case measure => simp [intOf]; omega
    · go_wp2
      go_ret
      refine ⟨?_, rfl⟩
      have e : s.data.toList.take k = s.data.toList := List.take_of_length_le (by simp only [Array.length_toList]; exact Nat.le_of_not_lt hlt)
      show Ending.returned (Value.int .u64 (Sha.beN (s.data.toList.take k) 0)) = _
      rw [e]
end Go.Proofs.YtcfjlnceofdcdaaDoor
