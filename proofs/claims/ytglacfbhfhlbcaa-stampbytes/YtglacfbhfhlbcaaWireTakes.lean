/- Contracts of the program's reader: counts, texts, digests, yes and no, the end. -/
import Derived.Test.YtglacfbhfhlbcaaWireValue
namespace Go.Proofs.Ytglacfbhfhlbcaa
open Go.RowKit Go.Wire
set_option maxHeartbeats 400000 in
theorem end_any (b : Nat) (q : St) (w : World) (h : Rd 67 b q w) (hq : q.pos ≤ q.s.size) (hs : q.s.size ≤ maxLen) :
    Calls Try.prog 30 #[.pointer (some ⟨b, 0, none⟩)] w fun e w' => e = .returned (.int .i64 q.fin.err) ∧ Rd 67 b q.fin w' ∧ Kept b w w' := by
  by_cases hl : 0 < (q.s.size : Int) - q.pos
  · rw [St.fin_fail q hl]
    go_enter Try.func30, Try.ntmps30
    go_wp2_with (first
      | (go_at_call 40; refine (left_any b q _ h hq hs).mono ?_; rintro e w' ⟨rfl, rfl⟩)
      | (go_at_call 35; refine (fail_any b q 5 _ (by exact h)).mono ?_; rintro e w1 ⟨rfl, h1, k1⟩)
      | (go_at_call 25; refine (err_any b (q.fail 5) _ (by assumption)).mono ?_; rintro e w' ⟨rfl, rfl⟩))
    go_ret
    exact ⟨rfl, by assumption, ((Kept.refl b w).drew).trans (by assumption)⟩
  · rw [St.fin_end q hl]
    go_enter Try.func30, Try.ntmps30
    go_wp2_with (first
      | (go_at_call 40; refine (left_any b q _ h hq hs).mono ?_; rintro e w' ⟨rfl, rfl⟩)
      | (go_at_call 25; refine (err_any b q _ (by exact h)).mono ?_; rintro e w' ⟨rfl, rfl⟩))
    go_ret
    exact ⟨rfl, h, (Kept.refl _ _).drew⟩
end Go.Proofs.Ytglacfbhfhlbcaa
