/- Contracts of the laws' own helpers: a text cut at 500 bytes; a number there and back. -/
import Derived.Test.YtajbhfejjenloaaWireNumber
import Derived.Test.YtajbhfejjenloaaWireTakes
namespace Go.Wire
def few (s : ByteArray) : ByteArray := if 500 < s.size then s.extract 0 500 else s
theorem few_size (s : ByteArray) : (few s).size ≤ 500 := by
  unfold few; split
  · rw [ByteArray.size_extract]; omega
  · omega
theorem awake_text : numB (2 * 2) 258 = ⟨#[48, 49, 48, 50]⟩ := by decide
def awakeSt : St := ⟨⟨#[48, 49, 48, 50]⟩, 0, 0⟩
theorem awake_number : awakeSt.number 2 = (⟨⟨#[48, 49, 48, 50]⟩, 4, 0⟩, 258) := by rfl
theorem awake_fin : (St.mk ⟨#[48, 49, 48, 50]⟩ 4 0).fin = ⟨⟨#[48, 49, 48, 50]⟩, 4, 0⟩ := by rfl
end Go.Wire
namespace Go.Proofs.Ytajbhfejjenloaa
open Go.RowKit Go.Wire
set_option maxHeartbeats 400000 in
theorem few_any (s : ByteArray) (w : World) (hs : s.size ≤ maxLen) :
    Calls Try.prog 9 #[.string s] w fun e w' => e = .returned (.string (few s)) ∧ w' = w := by
  unfold maxLen at hs
  by_cases h : 500 < s.size
  · go_enter Try.func9, Try.ntmps9
    go_wp2
    go_ret
    exact ⟨by rw [few, if_pos h]; rfl, rfl⟩
  · go_enter Try.func9, Try.ntmps9
    go_wp2
    go_ret
    exact ⟨by rw [few, if_neg h]; rfl, rfl⟩
set_option maxHeartbeats 1000000 in
theorem awake_any (w : World) :
    Calls Try.prog 13 #[] w fun e w' => e = .returned (.bool true) ∧ Below w.heap.size w w' := by
  have H1 : Hid (∀ w : World, Calls Try.prog 52 #[.int .u64 258, .int .i64 2] w fun e w' => e = .returned (.string ⟨#[48, 49, 48, 50]⟩) ∧ Below w.heap.size w w') := fun w => by
    have := number_mid 258 2 w (by decide) (by decide)
    rwa [awake_text] at this
  have H2 : ∀ (b : Nat) (w : World), Rd 74 b awakeSt w → Hid (Calls Try.prog 11 #[.pointer (some ⟨b, 0, none⟩), .int .i64 2] w fun e w' => e = .returned (.int .u64 258) ∧ Rd 74 b ⟨⟨#[48, 49, 48, 50]⟩, 4, 0⟩ w' ∧ Kept b w w') := fun b w h => by
    have := readerNumber_any b awakeSt 2 w h (Nat.zero_le _) (by decide)
    rwa [awake_number] at this
  have H3 : ∀ (b : Nat) (w : World), Rd 74 b ⟨⟨#[48, 49, 48, 50]⟩, 4, 0⟩ w → Hid (Calls Try.prog 33 #[.pointer (some ⟨b, 0, none⟩)] w fun e w' => e = .returned (.int .i64 0) ∧ Rd 74 b ⟨⟨#[48, 49, 48, 50]⟩, 4, 0⟩ w' ∧ Kept b w w') := fun b w h => by
    have := end_any b ⟨⟨#[48, 49, 48, 50]⟩, 4, 0⟩ w h (by decide) (by decide)
    rwa [awake_fin] at this
  go_enter Try.func13, Try.ntmps13
  go_wp2_with (first
    | (go_at_call 52; refine (H1.out _).mono ?_; rintro e w1 ⟨rfl, k1⟩)
    | (go_at_call 10; refine (newReader_any _ _).mono ?_; rintro e w2 ⟨rfl, h2, k2⟩)
    | (go_at_call 11; refine (H2 _ _ (by assumption)).out.mono ?_; rintro e w3 ⟨rfl, h3, k3⟩)
    | (go_at_call 33; refine (H3 _ _ (by assumption)).out.mono ?_; rintro e w4 ⟨rfl, h4, k4⟩))
  go_ret
  exact ⟨rfl, k1.trans (((k2.trans k3.below).trans k4.below).mono k1.size)⟩
end Go.Proofs.Ytajbhfejjenloaa
