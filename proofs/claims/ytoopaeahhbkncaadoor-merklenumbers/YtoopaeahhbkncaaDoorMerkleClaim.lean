/- Contracts: what a share says may be, or not. -/
import Derived.Test.YtoopaeahhbkncaaDoorMerkleErr
namespace Go.Mk
open Go.RowKit
/-- A share as a value, its digests the slice pv. -/
abbrev Sh.v (x : Sh) (pv : Value) : Value := .agg #[.string x.dg, .int .i64 x.sz, .int .i64 x.mn, .int .i64 x.at_, .string x.ck, pv]
end Go.Mk
namespace Go.Proofs.YtoopaeahhbkncaaDoor
open Go.RowKit Go.Mk Go.Chunk
attribute [local go_sem] Oper.semAt_some
theorem sized_any (size many : Int) (w : World) (h0 : 0 ≤ many) :
    Calls Tryd.prog 47 #[.int .i64 size, .int .i64 many] w fun e w' => e = .returned (.bool (decide (Sized size many))) ∧ w' = w := by
  unfold Sized
  by_cases h1 : many ≤ 256
  · by_cases h2 : size ≤ 8192
    · by_cases h3 : many ≤ size
      · by_cases h4 : size ≤ 512 * many
        · rw [decide_eq_true (p := many ≤ 256 ∧ size ≤ 8192 ∧ many ≤ size ∧ size ≤ 512 * many) ⟨h1, h2, h3, h4⟩]
          go_enter Tryd.func47, Tryd.ntmps47
          go_wp2
          go_ret
          exact ⟨rfl, rfl⟩
        · rw [decide_eq_false (p := many ≤ 256 ∧ size ≤ 8192 ∧ many ≤ size ∧ size ≤ 512 * many) (fun h => h4 h.2.2.2)]
          go_enter Tryd.func47, Tryd.ntmps47
          go_wp2
          go_ret
          exact ⟨rfl, rfl⟩
      · rw [decide_eq_false (p := many ≤ 256 ∧ size ≤ 8192 ∧ many ≤ size ∧ size ≤ 512 * many) (fun h => h3 h.2.2.1)]
        go_enter Tryd.func47, Tryd.ntmps47
        go_wp2
        go_ret
        exact ⟨rfl, rfl⟩
    · rw [decide_eq_false (p := many ≤ 256 ∧ size ≤ 8192 ∧ many ≤ size ∧ size ≤ 512 * many) (fun h => h2 h.2.1)]
      go_enter Tryd.func47, Tryd.ntmps47
      go_wp2
      go_ret
      exact ⟨rfl, rfl⟩
  · rw [decide_eq_false (p := many ≤ 256 ∧ size ≤ 8192 ∧ many ≤ size ∧ size ≤ 512 * many) (fun h => h1 h.1)]
    go_enter Tryd.func47, Tryd.ntmps47
    go_wp2
    go_ret
    exact ⟨rfl, rfl⟩
theorem sized_yes (size many : Int) (w : World) (h0 : 0 ≤ many) (h : Sized size many) :
    Calls Tryd.prog 47 #[.int .i64 size, .int .i64 many] w fun e w' => e = .returned (.bool true) ∧ w' = w := by
  have := sized_any size many w h0
  rwa [decide_eq_true h] at this
theorem sized_no (size many : Int) (w : World) (h0 : 0 ≤ many) (h : ¬ Sized size many) :
    Calls Tryd.prog 47 #[.int .i64 size, .int .i64 many] w fun e w' => e = .returned (.bool false) ∧ w' = w := by
  have := sized_any size many w h0
  rwa [decide_eq_false h] at this
set_option maxHeartbeats 1000000 in
theorem claimed_yes (x : Sh) (pv : Value) (w : World) (h : x.Claims) :
    Calls Tryd.prog 79 #[x.v pv] w fun e w' => e = .returned .nilIface ∧ Below w.heap.size w w' := by
  obtain ⟨dg, sz, mn, at_, ck, pa⟩ := x
  obtain ⟨h1, h2, h3, h4, h5, h6, h7⟩ := h
  dsimp only at h1 h2 h3 h4 h5 h6 h7
  have HS := hide (fun w => sized_yes sz mn w (by omega) h5)
  have h6' : (1 : Int) ≤ ck.size := by omega
  have h7' : (ck.size : Int) ≤ 512 := by omega
  clear h5
  go_enter Tryd.func79, Tryd.ntmps79
  go_wp2_with (go_at_call 47; refine (HS.out _).mono ?_; rintro e w2 ⟨rfl, hw⟩; subst hw)
  go_ret
  exact ⟨rfl, (Below.refl _ w).alloc (Nat.le_refl _) _⟩
set_option maxHeartbeats 2000000 in
theorem claimed_no (x : Sh) (pv : Value) (w : World) (h : ¬ x.Claims) :
    Calls Tryd.prog 79 #[x.v pv] w fun e w' => ∃ g, e = .returned (.iface 125 (.pointer (some ⟨g, 0, none⟩))) ∧ Below w.heap.size w w' := by
  obtain ⟨dg, sz, mn, at_, ck, pa⟩ := x
  unfold Sh.Claims at h
  dsimp only at h
  by_cases h1 : 1 ≤ mn
  · by_cases h2 : mn ≤ 256
    · by_cases h3 : 0 ≤ at_
      · by_cases h4 : at_ < mn
        · by_cases h5 : Sized sz mn
          · have HS := hide (fun w => sized_yes sz mn w (by omega) h5)
            by_cases h6 : (1 : Int) ≤ ck.size
            · have h7 : ¬ (ck.size : Int) ≤ 512 := fun h7 => h ⟨h1, h2, h3, h4, h5, by omega, by omega⟩
              clear h h5
              go_enter Tryd.func79, Tryd.ntmps79
              go_wp2_with (go_at_call 47; refine (HS.out _).mono ?_; rintro e w2 ⟨rfl, hw⟩; subst hw)
              go_ret
              first | exact ⟨_, rfl, ((Below.refl _ w).alloc (Nat.le_refl _) _).alloc (by simp) _⟩ | exact ⟨⟨_, rfl⟩, ((Below.refl _ w).alloc (Nat.le_refl _) _).alloc (by simp) _⟩
            · clear h h5
              go_enter Tryd.func79, Tryd.ntmps79
              go_wp2_with (go_at_call 47; refine (HS.out _).mono ?_; rintro e w2 ⟨rfl, hw⟩; subst hw)
              go_ret
              first | exact ⟨_, rfl, ((Below.refl _ w).alloc (Nat.le_refl _) _).alloc (by simp) _⟩ | exact ⟨⟨_, rfl⟩, ((Below.refl _ w).alloc (Nat.le_refl _) _).alloc (by simp) _⟩
          · have HS := hide (fun w => sized_no sz mn w (by omega) h5)
            clear h h5
            go_enter Tryd.func79, Tryd.ntmps79
            go_wp2_with (go_at_call 47; refine (HS.out _).mono ?_; rintro e w2 ⟨rfl, hw⟩; subst hw)
            go_ret
            first | exact ⟨_, rfl, ((Below.refl _ w).alloc (Nat.le_refl _) _).alloc (by simp) _⟩ | exact ⟨⟨_, rfl⟩, ((Below.refl _ w).alloc (Nat.le_refl _) _).alloc (by simp) _⟩
        · clear h
          go_enter Tryd.func79, Tryd.ntmps79
          go_wp2_with fail
          go_ret
          first | exact ⟨_, rfl, ((Below.refl _ w).alloc (Nat.le_refl _) _).alloc (by simp) _⟩ | exact ⟨⟨_, rfl⟩, ((Below.refl _ w).alloc (Nat.le_refl _) _).alloc (by simp) _⟩
      · clear h
        go_enter Tryd.func79, Tryd.ntmps79
        go_wp2_with fail
        go_ret
        first | exact ⟨_, rfl, ((Below.refl _ w).alloc (Nat.le_refl _) _).alloc (by simp) _⟩ | exact ⟨⟨_, rfl⟩, ((Below.refl _ w).alloc (Nat.le_refl _) _).alloc (by simp) _⟩
    · clear h
      go_enter Tryd.func79, Tryd.ntmps79
      go_wp2_with fail
      go_ret
      first | exact ⟨_, rfl, ((Below.refl _ w).alloc (Nat.le_refl _) _).alloc (by simp) _⟩ | exact ⟨⟨_, rfl⟩, ((Below.refl _ w).alloc (Nat.le_refl _) _).alloc (by simp) _⟩
  · clear h
    go_enter Tryd.func79, Tryd.ntmps79
    go_wp2_with fail
    go_ret
    first | exact ⟨_, rfl, ((Below.refl _ w).alloc (Nat.le_refl _) _).alloc (by simp) _⟩ | exact ⟨⟨_, rfl⟩, ((Below.refl _ w).alloc (Nat.le_refl _) _).alloc (by simp) _⟩
end Go.Proofs.YtoopaeahhbkncaaDoor
