/- The eight numbers told as bytes, one behind the other. -/
import Derived.Test.YtcfjlnceofdcdaaDoorShaMath2
import Derived.KernelRfl
namespace Go.Sha
def St.nth (u : St) (k : Nat) : Int := [u.a, u.b, u.c, u.d, u.e, u.f, u.g, u.h].getD k 0
def outN (u : St) : Nat → List UInt8
  | 0 => []
  | k + 1 => outN u k ++ be (u.nth k) 8
theorem outN_length (u : St) (k : Nat) : (outN u k).length = 8 * k := by
  induction k with
  | zero => rfl
  | succ k ih => simp [outN, ih, be_length]; omega
theorem outN_out (u : St) : (outN u 8).take 32 = out u := by
  have e : outN u 8 = out u ++ (be u.e 8 ++ be u.f 8 ++ be u.g 8 ++ be u.h 8) := by simp [outN, out, St.nth]
  rw [e, List.take_append_of_le_length (by simp [out, be_length]), List.take_of_length_le (by simp [out, be_length])]
theorem out_length (u : St) : (out u).length = 32 := by simp [out, be_length]
theorem sum_length (l : List UInt8) : (sum l).length = 32 := out_length _
theorem sum_two (s : ByteArray) (k : Nat) (hk : k % 128 = 0) (hl : k ≤ s.size) : out (mixAll (mixAll start (s.data.toList.take k)) (ended (s.extract k s.size).data.toList s.size)) = sum s.data.toList := by
  have e : s.data.toList.length = s.size := by simp
  rw [extract_size, sum, ← sum_parts s.data.toList k hk (by omega), e]
theorem app_list (a b : ByteArray) : (a ++ b).data.toList = a.data.toList ++ b.data.toList := by simp
theorem app_size (a b : ByteArray) : (a ++ b).size = a.size + b.size := ByteArray.size_append
theorem ba_ext {a : ByteArray} {l : List UInt8} (h : a.data.toList = l) : a = ⟨l.toArray⟩ := by
  subst h; rfl
theorem be_head (x : Int) (m : Nat) : be x (m + 1) = [byteOf (x / 2 ^ (8 * m))] ++ be x m := rfl
theorem div_next (x : Int) (m : Nat) : x / 2 ^ (8 * m) / 256 = x / 2 ^ (8 * (m + 1)) := by
  rw [Int.ediv_ediv_of_nonneg (Int.pow_nonneg (by decide)), show 8 * (m + 1) = 8 * m + 8 by omega, Int.pow_add]
  rfl
theorem byteOf_mod (y : Int) : byteOf (y % 256) = byteOf y := by unfold byteOf; rw [Int.emod_emod_of_dvd _ (by decide)]
theorem mixN_succ (h : St) (l : List UInt8) (m : Nat) : mixN h l (m + 1) = mix (mixN h l m) ((l.drop (128 * m)).take 128) := by
  induction m generalizing h l with
  | zero => rfl
  | succ m ih =>
    show mixN (mix h (l.take 128)) (l.drop 128) (m + 1) = _
    rw [ih]
    show mix (mixN (mix h (l.take 128)) (l.drop 128) m) _ = mix (mixN (mix h (l.take 128)) (l.drop 128) m) _
    rw [List.drop_drop, show 128 + 128 * m = 128 * (m + 1) by omega]
theorem out_at (u : St) (i : Nat) (h : i < 32) : (out u)[i]? = some (byteOf (u.nth (i / 8) / 2 ^ (56 - i % 8 * 8))) := by
  have e : i = 0 ∨ i = 1 ∨ i = 2 ∨ i = 3 ∨ i = 4 ∨ i = 5 ∨ i = 6 ∨ i = 7 ∨ i = 8 ∨ i = 9 ∨ i = 10 ∨ i = 11 ∨ i = 12 ∨ i = 13 ∨ i = 14 ∨ i = 15 ∨ i = 16 ∨ i = 17 ∨ i = 18 ∨ i = 19 ∨ i = 20 ∨ i = 21 ∨ i = 22 ∨ i = 23 ∨ i = 24 ∨ i = 25 ∨ i = 26 ∨ i = 27 ∨ i = 28 ∨ i = 29 ∨ i = 30 ∨ i = 31 := by omega
  rcases e with rfl | rfl | rfl | rfl | rfl | rfl | rfl | rfl | rfl | rfl | rfl | rfl | rfl | rfl | rfl | rfl | rfl | rfl | rfl | rfl | rfl | rfl | rfl | rfl | rfl | rfl | rfl | rfl | rfl | rfl | rfl | rfl <;> rfl
theorem take_next {l : List UInt8} {i : Nat} {c : UInt8} (h : l[i]? = some c) : l.take (i + 1) = l.take i ++ [c] := by
  rw [List.take_add_one, h]; rfl
theorem cells_nth (u : St) (q : Nat) (h : q < 8) : u.cells[q]? = some (.int .u64 (u.nth q)) := by
  have e : q = 0 ∨ q = 1 ∨ q = 2 ∨ q = 3 ∨ q = 4 ∨ q = 5 ∨ q = 6 ∨ q = 7 := by omega
  rcases e with rfl | rfl | rfl | rfl | rfl | rfl | rfl | rfl <;> rfl
end Go.Sha
