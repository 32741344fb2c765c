/- Contracts of the check of bytes, and of the value of a letter. -/
import Derived.Test.YtcdmdpafkiljdaaGreatDoorRows
import Derived.Test.YtcdmdpafkiljdaaGreatDoorWireDigit
namespace Go.Wire
theorem fnv_u32 (s : ByteArray) (k : Nat) (h : k < s.size) : bits .xor .u32 (fnv (s.data.toList.take k) : Int) ((s[k].toNat : Nat) : Int) * 16777619 % 4294967296 = (fnv (s.data.toList.take (k + 1)) : Int) := by
  rw [take_snoc s k h, fnv_snoc, xor_u32 _ _ (fnv_lt _), step]
  simp
theorem fnv_u64 (s : ByteArray) (k : Nat) (h : k < s.size) : bits .xor .u64 (fnv (s.data.toList.take k) : Int) ((s[k].toNat : Nat) : Int) * 16777619 % 18446744073709551616 % 4294967296 = (fnv (s.data.toList.take (k + 1)) : Int) := by
  rw [take_snoc s k h, fnv_snoc, xor_u64 _ _ (fnv_lt _), step]
  have := xor_lt _ s[k] (fnv_lt (s.data.toList.take k))
  generalize fnv (s.data.toList.take k) ^^^ s[k].toNat = x at this
  omega
theorem byte_mod (c : UInt8) (m : Int) (h : 256 ≤ m) : ((c.toNat : Nat) : Int) % m = ((c.toNat : Nat) : Int) :=
  Int.emod_eq_of_lt (by omega) (by have := c.toNat_lt; omega)
end Go.Wire
namespace Go.Proofs.YtcdmdpafkiljdaaGreatDoor
open Go.RowKit Go.Wire
set_option maxHeartbeats 400000 in
theorem rvalue_some (c : UInt8) (d : Nat) (w : World) (h : dig c = some d) :
    Calls Tryz.prog 77 #[.int .u8 c.toNat] w fun e w' => e = .returned (.int .u64 d) ∧ w' = w := by
  have hc := c.toNat_lt
  unfold dig at h
  generalize c.toNat = x at h hc
  by_cases h1 : 48 ≤ x ∧ x ≤ 57
  · rw [if_pos h1] at h
    cases h
    obtain ⟨h1, h2⟩ := h1
    go_enter Tryz.func77, Tryz.ntmps77
    go_wp2
    go_ret
    refine ⟨?_, rfl⟩
    show Ending.returned (.int .u64 ((x : Int) - 48)) = _
    rw [show (x : Int) - 48 = ((x - 48 : Nat) : Int) by omega]
  · rw [if_neg h1] at h
    by_cases h2 : 97 ≤ x ∧ x ≤ 102
    · rw [if_pos h2] at h
      cases h
      obtain ⟨h2, h3⟩ := h2
      have h4 : ¬ x ≤ 57 := by omega
      clear h1
      go_enter Tryz.func77, Tryz.ntmps77
      go_wp2
      go_ret
      refine ⟨?_, rfl⟩
      show Ending.returned (.int .u64 ((x : Int) - 87)) = _
      rw [show (x : Int) - 87 = ((x - 87 : Nat) : Int) by omega]
    · rw [if_neg h2] at h
      cases h
set_option maxHeartbeats 400000 in
theorem rvalue_none (c : UInt8) (w : World) (h : dig c = none) :
    Calls Tryz.prog 77 #[.int .u8 c.toNat] w fun e w' => e = .returned (.int .u64 16) ∧ w' = w := by
  have hc := c.toNat_lt
  unfold dig at h
  generalize c.toNat = x at h hc
  by_cases h1 : 48 ≤ x ∧ x ≤ 57
  · rw [if_pos h1] at h; cases h
  · rw [if_neg h1] at h
    by_cases h2 : 97 ≤ x ∧ x ≤ 102
    · rw [if_pos h2] at h; cases h
    · clear h
      by_cases h3 : x < 48
      · have h4 : x < 97 := by omega
        clear h1 h2
        go_enter Tryz.func77, Tryz.ntmps77
        go_wp2
        go_ret
        exact ⟨rfl, rfl⟩
      · have h4 : 57 < x := by omega
        clear h1
        by_cases h5 : x < 97
        · clear h2
          go_enter Tryz.func77, Tryz.ntmps77
          go_wp2
          go_ret
          exact ⟨rfl, rfl⟩
        · have h6 : 102 < x := by omega
          clear h2
          go_enter Tryz.func77, Tryz.ntmps77
          go_wp2
          go_ret
          exact ⟨rfl, rfl⟩
end Go.Proofs.YtcdmdpafkiljdaaGreatDoor
