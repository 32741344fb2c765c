/- The contract of the laws' own helper: a number there and back. -/
import Derived.Test.YtajbhfejjenloaaWireNumber
import Derived.Test.YtajbhfejjenloaaWireTakes
namespace Go.Wire
theorem awake_text : numB (2 * 2) 258 = ⟨#[48, 49, 48, 50]⟩ := by decide
def awakeSt : St := ⟨⟨#[48, 49, 48, 50]⟩, 0, 0⟩
theorem awake_number : awakeSt.number 2 = (⟨⟨#[48, 49, 48, 50]⟩, 4, 0⟩, 258) := by rfl
theorem awake_fin : (St.mk ⟨#[48, 49, 48, 50]⟩ 4 0).fin = ⟨⟨#[48, 49, 48, 50]⟩, 4, 0⟩ := by rfl
end Go.Wire
namespace Go.Proofs.Ytajbhfejjenloaa
open Go.RowKit Go.Wire
set_option maxHeartbeats 1000000 in
theorem awake_any (w : World) :
    Calls Try.prog 13 #[] w fun e w' => e = .returned (.bool true) ∧ Below w.heap.size w w' := by
  have H1 : Hid (∀ w : World, Calls Try.prog 52 #[.int .u64 258, .int .i64 2] w fun e w' => e = .returned (.string ⟨#[48, 49, 48, 50]⟩) ∧ Below w.heap.size w w') := fun w => by
    have := number_mid 258 2 w (by decide) (by decide)
    rwa [awake_text] at this
  have H2 : ∀ (b : Nat) (w : World), Rd 74 b awakeSt w → Hid (Calls Try.prog 11 #[.pointer (some ⟨b, 0, none⟩), .int .i64 2] w fun e w' => e = .returned (.int .u64 258) ∧ Rd 74 b ⟨⟨#[48, 49, 48, 50]⟩, 4, 0⟩ w' ∧ Kept b w w') := fun b w h => by
    have := readerNumber_any b awakeSt 2 w h (Nat.zero_le _) (by decide)
    rwa [awake_number] at this
  have H3 : ∀ (b : Nat) (w : World), Rd 74 b ⟨⟨#[48, 49, 48, 50]⟩, 4, 0⟩ w → Hid (Calls Try.prog 33 #[.pointer (some ⟨b, 0, none⟩)] w fun e w' => e = .returned (.int .i64 0) ∧ Rd 74 b ⟨⟨#[48, 49, 48, 50]⟩, 4, 0⟩ w' ∧ Kept b w w') := fun b w h => by
    have := end_any b ⟨⟨#[48, 49, 48, 50]⟩, 4, 0⟩ w h (by decide) (by decide)
    rwa [awake_fin] at this
  go_enter Try.func13, Try.ntmps13
  go_wp2_with (first
    | (go_at_call 52; refine (H1.out _).mono ?_; rintro e w1 ⟨rfl, k1⟩)
    | (go_at_call 10; refine (newReader_any _ _).mono ?_; rintro e w2 ⟨rfl, h2, k2⟩)
    | (go_at_call 11; refine (H2 _ _ (by assumption)).out.mono ?_; rintro e w3 ⟨rfl, h3, k3⟩)
    | (go_at_call 33; refine (H3 _ _ (by assumption)).out.mono ?_; rintro e w4 ⟨rfl, h4, k4⟩))
  go_ret
  exact ⟨rfl, k1.trans (((k2.trans k3.below).trans k4.below).mono k1.size)⟩
end Go.Proofs.Ytajbhfejjenloaa
