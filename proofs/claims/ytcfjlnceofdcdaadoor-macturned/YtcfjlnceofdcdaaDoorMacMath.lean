/- Tags under keys, as plain lists of bytes; two bytes turned against each other as the walk has it; no program text is named here. -/
import Derived.Test.YtcfjlnceofdcdaaDoorShaMath4
import Derived.Laws.BitsAllLaws
namespace Go.Sha
/-- A key, or the digest of one that is too long. -/
def longKey (k : List UInt8) : List UInt8 := if 128 < k.length then sum k else k
/-- A key as long as a block. -/
def filled (k : List UInt8) : List UInt8 := longKey k ++ List.replicate (128 - (longKey k).length) 0
def turned (t : UInt8) (b : List UInt8) : List UInt8 := b.map fun c => c ^^^ t
/-- The tag of a text under a key. -/
def tag (k s : List UInt8) : List UInt8 := sum (turned 92 (filled k) ++ sum (turned 54 (filled k) ++ s))
/-- The key of a number of a seed. -/
def ringKey (seed : List UInt8) (i : Nat) : List UInt8 := sum (parts 82 [seed, [UInt8.ofNat i]])
theorem longKey_length (k : List UInt8) : (longKey k).length ≤ 128 := by
  unfold longKey
  split
  · rw [sum_length]; decide
  · omega
theorem filled_length (k : List UInt8) : (filled k).length = 128 := by
  have h := longKey_length k
  simp [filled]
  omega
theorem turned_length (t : UInt8) (b : List UInt8) : (turned t b).length = b.length := by simp [turned]
theorem tag_length (k s : List UInt8) : (tag k s).length = 32 := sum_length _
theorem ringKey_length (k : List UInt8) (i : Nat) : (ringKey k i).length = 32 := sum_length _
theorem xor_byte (a b : UInt8) : bits .xor .u8 (a.toNat : Int) (b.toNat : Int) = ((a ^^^ b).toNat : Int) := by
  rw [u8_xor_nat _ _ a.toNat_lt b.toNat_lt, UInt8.toNat_xor]
theorem or_bytes (a b : UInt8) : bits .or .u8 (a.toNat : Int) (b.toNat : Int) = ((a ||| b).toNat : Int) := by
  rw [u8_or_nat _ _ a.toNat_lt b.toNat_lt, UInt8.toNat_or]
theorem or_zero (a b : UInt8) : a ||| b = 0 ↔ a = 0 ∧ b = 0 := by
  rw [← UInt8.toBitVec_inj, ← UInt8.toBitVec_inj, ← UInt8.toBitVec_inj, UInt8.toBitVec_or]
  exact BitVec.or_eq_zero_iff
theorem xor_zero (a b : UInt8) : a ^^^ b = 0 ↔ a = b := UInt8.xor_eq_zero_iff
/-- One byte further: no byte was unlike. -/
theorem unlike_next {a b : List UInt8} {i : Nat} {x y u : UInt8} (ha : a[i]? = some x) (hb : b[i]? = some y) (h : u = 0 ↔ a.take i = b.take i) : u ||| (x ^^^ y) = 0 ↔ a.take (i + 1) = b.take (i + 1) := by
  have hla := (List.getElem?_eq_some_iff.1 ha).1
  have hlb := (List.getElem?_eq_some_iff.1 hb).1
  rw [or_zero, xor_zero, h, take_next ha, take_next hb]
  constructor
  · rintro ⟨h1, rfl⟩; rw [h1]
  · intro h1
    obtain ⟨h2, h3⟩ := List.append_inj h1 (by rw [List.length_take_of_le (by omega), List.length_take_of_le (by omega)])
    exact ⟨h2, by simpa using h3⟩
theorem ba_list {a b : ByteArray} : a.data.toList = b.data.toList ↔ a = b := by
  constructor
  · intro h; cases a; cases b; simp at h; rw [h]
  · intro h; rw [h]
end Go.Sha
