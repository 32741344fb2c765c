/- Contracts: a text that is not too long; two names that are alike, small. -/
import Derived.Test.YtpihgffcfoelbaaDoorNameAsg
namespace Go.Names
theorem cand1 (own : Bs) : cand own 1 = own.take 30 ++ [126, 49] := by
  unfold cand
  rw [nd_small (by decide), dig_small (by decide)]
  rfl
theorem asg3 : asg [[97], [65], [97, 126, 49]] = [[97], [65, 126, 49], [97, 126, 49, 126, 49]] := by
  have h1 : asg [[97]] = [[97]] := by
    rw [show ([[97]] : List Bs) = [] ++ [[97]] from rfl, asg_snoc, pick_own (by decide)]
    rfl
  have h2 : asg [[97], [65]] = [[97], [65, 126, 49]] := by
    rw [show ([[97], [65]] : List Bs) = [[97]] ++ [[65]] from rfl, asg_snoc, h1, show fix [65] = [65] by decide, pick_cand (n := 1) (by decide) (by decide) (by rw [cand1]; decide) (fun m h h' => by omega), cand1]
    rfl
  rw [show ([[97], [65], [97, 126, 49]] : List Bs) = [[97], [65]] ++ [[97, 126, 49]] from rfl, asg_snoc, h2, show fix [97, 126, 49] = [97, 126, 49] by decide, pick_cand (n := 1) (by decide) (by decide) (by rw [cand1]; decide) (fun m h h' => by omega), cand1]
  rfl
/-- At most 300 bytes of a text. -/
def few (s : ByteArray) : ByteArray := if 300 < s.size then s.extract 0 300 else s
theorem few_size (s : ByteArray) : (few s).size ≤ 300 := by
  unfold few
  split
  · rw [ByteArray.size_extract]; omega
  · omega
end Go.Names
namespace Go.Proofs.YtpihgffcfoelbaaDoor
open Go.RowKit Go.Names
set_option maxHeartbeats 400000 in
theorem few_any (s : ByteArray) (w : World) :
    Calls Tryd.prog 7 #[.string s] w fun e w' => e = .returned (.string (few s)) ∧ w' = w := by
  by_cases h : 300 < s.size
  · go_enter Tryd.func7, Tryd.ntmps7
    go_wp2
    go_ret
    exact ⟨by rw [few, if_pos h]; rfl, rfl⟩
  · go_enter Tryd.func7, Tryd.ntmps7
    go_wp2
    go_ret
    exact ⟨by rw [few, if_neg h]; rfl, rfl⟩
set_option maxRecDepth 100000 in
set_option maxHeartbeats 1000000 in
theorem awake_any (w : World) (hv : Vt w) :
    Calls Tryd.prog 10 #[] w fun e w' => e = .returned (.bool true) ∧ Below w.heap.size w w' := by
  have HG : Hid (Gvs (w.alloc (.cells #[.int .u64 16, .string ⟨#[97]⟩, .int .u64 17, .string ⟨#[65]⟩, .int .u64 18, .string ⟨#[97, 126, 49]⟩] 31)) (.slice (some ⟨w.heap.size, 0, none⟩) 3 3) [(16, ⟨#[97]⟩), (17, ⟨#[65]⟩), (18, ⟨#[97, 126, 49]⟩)]) := by
    refine .inr ⟨w.heap.size, 0, 3, rfl, by simp, Nat.le_refl _, fun j g hj => ?_⟩
    match j, hj with
    | 0, hj => cases hj; exact ⟨by simp, by simp⟩
    | 1, hj => cases hj; exact ⟨by simp, by simp⟩
    | 2, hj => cases hj; exact ⟨by simp, by simp⟩
  have HC := hide (assignAll_any _ _ _ (hv.below hv.size ((Below.refl _ w).alloc (Nat.le_refl _) (.cells #[.int .u64 16, .string ⟨#[97]⟩, .int .u64 17, .string ⟨#[65]⟩, .int .u64 18, .string ⟨#[97, 126, 49]⟩] 31))) HG.out (by decide) (by decide))
  rw [show namesOf [((16 : Int), (⟨#[97]⟩ : ByteArray)), (17, ⟨#[65]⟩), (18, ⟨#[97, 126, 49]⟩)] = [[97], [65], [97, 126, 49]] from rfl, asg3] at HC
  go_enter Tryd.func10, Tryd.ntmps10
  go_wp2_with (go_at_call 19; refine HC.out.mono ?_; rintro e w1 ⟨a, c, rfl, ho, k1⟩
               have H1 := hide (And.intro ho k1)
               have hR := StrRow.Reads.of_own (xs := [⟨#[97]⟩, ⟨#[65, 126, 49]⟩, ⟨#[97, 126, 49, 126, 49]⟩]) ho
               obtain ⟨b, off, cp, hvv, hcp, hb⟩ := hR.at (by simp)
               cases hvv
               have c0 : w1.cell? ⟨b, off + 0, none⟩ = some (.string ⟨#[97]⟩) := hR.cell (j := 0) rfl
               rw [Nat.add_zero] at c0
               have c1 : w1.cell? ⟨b, off + 1, none⟩ = some (.string ⟨#[65, 126, 49]⟩) := hR.cell (j := 1) rfl
               have c2 : w1.cell? ⟨b, off + 2, none⟩ = some (.string ⟨#[97, 126, 49, 126, 49]⟩) := hR.cell (j := 2) rfl
               clear ho k1 hR)
  go_ret
  exact ⟨rfl, ((Below.refl _ w).alloc (Nat.le_refl _) _).trans (H1.out.2.mono (by simp))⟩
end Go.Proofs.YtpihgffcfoelbaaDoor
