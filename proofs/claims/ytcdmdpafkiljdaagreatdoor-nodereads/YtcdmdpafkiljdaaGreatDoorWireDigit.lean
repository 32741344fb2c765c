/- Contracts of a digit. -/
import Derived.Test.YtcdmdpafkiljdaaGreatDoorRows
import Derived.Test.YtcdmdpafkiljdaaGreatDoorWireRd
namespace Go.Wire
theorem take_snoc (s : ByteArray) (k : Nat) (h : k < s.size) : s.data.toList.take (k + 1) = s.data.toList.take k ++ [s[k]] := by
  rw [List.take_succ_eq_append_getElem (by simpa using h)]; rfl
theorem take_all (s : ByteArray) (k : Nat) (h : ¬ k < s.size) : s.data.toList.take k = s.data.toList :=
  List.take_of_length_le (by simp only [Array.length_toList]; exact Nat.le_of_not_lt h)
theorem take_drop (s : ByteArray) (k : Nat) (h : k < s.size) : s.data.toList = s.data.toList.take k ++ s[k] :: s.data.toList.drop (k + 1) := by
  have h2 : k < s.data.toList.length := by simpa using h
  rw [show s[k] = s.data.toList[k] from rfl, List.getElem_cons_drop, List.take_append_drop]
end Go.Wire
namespace Go.Proofs.YtcdmdpafkiljdaaGreatDoor
open Go.RowKit Go.Wire
set_option maxHeartbeats 400000 in
theorem digit_some (c : UInt8) (d : Nat) (w : World) (h : dig c = some d) :
    Calls Tryz.prog 95 #[.int .u8 c.toNat] w fun e w' => e = .returned (.tuple #[.int .u64 d, .bool true]) ∧ w' = w := by
  have hc := c.toNat_lt
  unfold dig at h
  generalize c.toNat = x at h hc
  by_cases h1 : 48 ≤ x ∧ x ≤ 57
  · rw [if_pos h1] at h
    cases h
    obtain ⟨h1, h2⟩ := h1
    go_enter Tryz.func95, Tryz.ntmps95
    go_wp2
    go_ret2
    refine ⟨?_, rfl⟩
    show Ending.returned (.tuple #[.int .u64 ((x : Int) - 48), .bool true]) = _
    rw [show (x : Int) - 48 = ((x - 48 : Nat) : Int) by omega]
  · rw [if_neg h1] at h
    by_cases h2 : 97 ≤ x ∧ x ≤ 102
    · rw [if_pos h2] at h
      cases h
      obtain ⟨h2, h3⟩ := h2
      have h4 : ¬ x ≤ 57 := by omega
      clear h1
      go_enter Tryz.func95, Tryz.ntmps95
      go_wp2
      go_ret2
      refine ⟨?_, rfl⟩
      show Ending.returned (.tuple #[.int .u64 ((x : Int) - 97 + 10), .bool true]) = _
      rw [show (x : Int) - 97 + 10 = ((x - 87 : Nat) : Int) by omega]
    · rw [if_neg h2] at h
      cases h
set_option maxHeartbeats 400000 in
theorem digit_none (c : UInt8) (w : World) (h : dig c = none) :
    Calls Tryz.prog 95 #[.int .u8 c.toNat] w fun e w' => e = .returned (.tuple #[.int .u64 0, .bool false]) ∧ w' = w := by
  have hc := c.toNat_lt
  unfold dig at h
  generalize c.toNat = x at h hc
  by_cases h1 : 48 ≤ x ∧ x ≤ 57
  · rw [if_pos h1] at h; cases h
  · rw [if_neg h1] at h
    by_cases h2 : 97 ≤ x ∧ x ≤ 102
    · rw [if_pos h2] at h; cases h
    · clear h
      by_cases h3 : x < 48
      · have h4 : x < 97 := by omega
        clear h1 h2
        go_enter Tryz.func95, Tryz.ntmps95
        go_wp2
        go_ret2
        exact ⟨rfl, rfl⟩
      · have h4 : 57 < x := by omega
        clear h1
        by_cases h5 : x < 97
        · clear h2
          go_enter Tryz.func95, Tryz.ntmps95
          go_wp2
          go_ret2
          exact ⟨rfl, rfl⟩
        · have h6 : 102 < x := by omega
          clear h2
          go_enter Tryz.func95, Tryz.ntmps95
          go_wp2
          go_ret2
          exact ⟨rfl, rfl⟩
end Go.Proofs.YtcdmdpafkiljdaaGreatDoor
