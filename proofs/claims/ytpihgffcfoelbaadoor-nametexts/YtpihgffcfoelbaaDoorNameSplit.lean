/- Contracts: a path, cut at its last /. -/
import Derived.Test.YtpihgffcfoelbaaDoorNameParts
import Derived.Test.YtpihgffcfoelbaaDoorNameShelf
namespace Go.Proofs.YtpihgffcfoelbaaDoor
open Go.RowKit Go.Names Go.Shelf
theorem get_bang (s : ByteArray) (k : Nat) (h : k < s.size) : s.data[k]! = s[k] := by
  have hd : k < s.data.size := h
  rw [getElem!_pos s.data k hd]
  rfl
set_option maxHeartbeats 800000 in
theorem split_any (s : ByteArray) (w : World) (hs : s.size ≤ 1000) :
    Calls Tryd.prog 8 #[.string s] w fun e w' => e = .returned (.tuple #[.string (splitB s).1, .string (splitB s).2]) ∧ Below w.heap.size w w' := by
  have HC := hide (Any.strings_LastIndexByte lastByteL s 47 (by omega) w)
  unfold Lib.lastIndexByte at HC
  rw [lastIdx_is] at HC
  unfold splitB
  cases hl : lastTo s s.size with
  | none =>
    rw [hl] at HC
    go_enter Tryd.func8, Tryd.ntmps8
    go_wp2_with (go_at_call 21; refine HC.out.mono ?_; rintro e w1 ⟨rfl, rfl⟩)
    go_ret2
    exact ⟨rfl, Below.refl _ _⟩
  | some i =>
    rw [hl] at HC
    have hi := lastTo_lt s s.size i hl
    have hi1 : ¬ (i : Int) < 0 := by omega
    have hi2 : (i : Int) ≤ s.size := by omega
    have hi3 : (i : Int) + 1 ≤ s.size := by omega
    go_enter Tryd.func8, Tryd.ntmps8
    go_wp2_with (go_at_call 21; refine HC.out.mono ?_; rintro e w1 ⟨rfl, rfl⟩)
    go_region
    go_wp2
    go_ret2
    exact ⟨by go_num, (Below.refl _ _).drew⟩
set_option maxHeartbeats 1600000 in
theorem rsplit_any (s : ByteArray) (w : World) (hs : s.size ≤ 1000) :
    Calls Tryd.prog 9 #[.string s] w fun e w' => e = .returned (.tuple #[.string (splitB s).1, .string (splitB s).2]) ∧ Below w.heap.size w w' := by
  go_enter Tryd.func9, Tryd.ntmps9
  go_wp2
  go_loopw [4] (fun vi wr => ∃ k : Nat, k ≤ s.size ∧ vi = .int .i64 ((k : Int) - 1) ∧ Hid (lastTo s s.size = lastTo s k ∧ wr = w)) (fun vi _ => (intOf vi + 1).toNat)
  case atStart => exact ⟨s.size, Nat.le_refl _, by go_num, rfl, rfl⟩
  case round =>
    obtain ⟨k, hk, rfl, HH⟩ := hrel
    obtain ⟨hl, rfl⟩ := HH.out
    cases k with
    | zero =>
      have hz : ¬ ((0 : Nat) : Int) - 1 ≥ 0 := by omega
      go_wp2
      go_ret2
      have : splitB s = (⟨#[]⟩, s) := by unfold splitB; rw [hl]; rfl
      exact ⟨by rw [this]; rfl, Below.refl _ _⟩
    | succ k =>
      have e1 : ((k + 1 : Nat) : Int) - 1 = k := by omega
      rw [e1]
      have hki : (k : Int) < s.size := by omega
      have hki' : k < s.size := by omega
      have hk0 : (0 : Int) ≤ k := by omega
      have hk1 : (k : Int) + 1 ≤ s.size := by omega
      have hk2 : (k : Int) ≤ s.size := by omega
      by_cases hc : s[k] = 47
      · have hcn : (s[k].toNat : Int) = 47 := by rw [hc]; rfl
        have hsp : splitB s = (s.extract 0 k, s.extract (k + 1) s.size) := by
          unfold splitB
          rw [hl]
          unfold lastTo
          rw [get_bang s k hki', if_pos hcn]
        have HS := hide hsp
        clear hsp hl HH
        go_wp2
        go_region
        go_wp2
        go_ret2
        exact ⟨by rw [HS.out]; go_num, (Below.refl _ _).drew⟩
      · have hcn : ¬ (s[k].toNat : Int) = 47 := by
          intro e
          have h2 : s[k].toNat = 47 := by omega
          exact hc (UInt8.toNat_inj.1 (h2.trans rfl))
        have hnx : lastTo s (k + 1) = lastTo s k := by
          conv => lhs; unfold lastTo
          rw [get_bang s k hki', if_neg hcn]
        have HS := hide (hl.trans hnx)
        clear hnx hl HH
        go_wp2
        go_roundw
        case rel => exact ⟨k, by omega, by go_num, HS.out, trivial⟩
        case measure => simp [intOf]
end Go.Proofs.YtpihgffcfoelbaaDoor
