/- What stands behind a text's bytes ahead of its digest: plain lists. -/
import Derived.Test.YtcfjlnceofdcdaaDoorShaMath
namespace Go.Sha
/-- How many zero bytes follow the mark behind n bytes. -/
def zeros (n : Nat) : Nat := (239 - n % 128) % 128
/-- A text with the mark and the zeros behind it. -/
def marked (l : List UInt8) : List UInt8 := l ++ 128 :: List.replicate (zeros l.length) 0
/-- .. and the count of bits of a text of n bytes. -/
def ended (l : List UInt8) (n : Nat) : List UInt8 := marked l ++ (be 0 8 ++ be (8 * n) 8)
theorem marked_length (l : List UInt8) : (marked l).length = l.length + 1 + zeros l.length := by simp [marked]; omega
theorem marked_mod (l : List UInt8) : (marked l).length % 128 = 112 := by rw [marked_length, zeros]; omega
/-- Part of the zeros. -/
def part (l : List UInt8) (k : Nat) : List UInt8 := l ++ 128 :: List.replicate k 0
theorem part_length (l : List UInt8) (k : Nat) : (part l k).length = l.length + 1 + k := by simp [part]; omega
theorem part_snoc (l : List UInt8) (k : Nat) : part l k ++ [0] = part l (k + 1) := by simp [part, List.replicate_succ']
theorem part_done (l : List UInt8) (k : Nat) (hk : k ≤ zeros l.length) (h : (part l k).length % 128 = 112) : part l k = marked l := by
  rw [part_length] at h
  have : k = zeros l.length := by unfold zeros at *; omega
  rw [this]; rfl
theorem part_more (l : List UInt8) (k : Nat) (hk : k ≤ zeros l.length) (h : (part l k).length % 128 ≠ 112) : k + 1 ≤ zeros l.length := by
  rw [part_length] at h
  unfold zeros at *; omega
theorem ended_append (a b : List UInt8) (n : Nat) (ha : a.length % 128 = 0) : ended (a ++ b) n = a ++ ended b n := by
  have : zeros (a ++ b).length = zeros b.length := by rw [List.length_append]; unfold zeros; omega
  unfold ended marked
  rw [this]
  simp
theorem ended_length (l : List UInt8) (n : Nat) : (ended l n).length % 128 = 0 := by
  unfold ended
  have := marked_mod l
  simp only [List.length_append, be_length]
  omega
/-- The digest of bytes. -/
def out (t : St) : List UInt8 := be t.a 8 ++ be t.b 8 ++ be t.c 8 ++ be t.d 8
def sum (l : List UInt8) : List UInt8 := out (mixAll start (ended l l.length))
theorem sum_parts (l : List UInt8) (k : Nat) (hk : k % 128 = 0) (hl : k ≤ l.length) : mixAll (mixAll start (l.take k)) (ended (l.drop k) l.length) = mixAll start (ended l l.length) := by
  have e : ended l l.length = l.take k ++ ended (l.drop k) l.length := by
    rw [← ended_append _ _ _ (by rw [List.length_take_of_le hl]; exact hk), List.take_append_drop]
  rw [e, mixAll_append _ _ _ (by rw [List.length_take_of_le hl]; exact hk)]
end Go.Sha
