/- What was put is taken again: a reader at bytes and numbers that stand there; no program text is named here. -/
import Derived.Test.YtdcgemaaohldmaaWireMath
namespace Go.Wire
theorem app_list (a b : ByteArray) : (a ++ b).data.toList = a.data.toList ++ b.data.toList := by simp
theorem ext_list {a b : ByteArray} (h : a.data.toList = b.data.toList) : a = b := ByteArray.ext (Array.toList_inj.1 h)
theorem extract_list (s : ByteArray) (a b : Nat) : (s.extract a b).data.toList = (s.data.toList.drop a).take (b - a) := by
  rw [ByteArray.data_extract, Array.toList_extract]
theorem size_list (s : ByteArray) : s.size = s.data.toList.length := by simp
theorem extract_mid (A B C : ByteArray) : (A ++ B ++ C).extract A.size (A.size + B.size) = B := by
  apply ext_list
  rw [extract_list, app_list, app_list, List.append_assoc, size_list A, List.drop_left, Nat.add_sub_cancel_left, size_list B, List.take_left]
theorem extract_end (A B : ByteArray) : (A ++ B).extract A.size (A ++ B).size = B := by
  apply ext_list
  rw [extract_list, app_list, size_list A, List.drop_left, size_list (A ++ B), app_list, List.length_append, Nat.add_sub_cancel_left, List.take_length]
theorem bytes_at {q : St} {A B C : ByteArray} (hs : q.s = A ++ B ++ C) (hp : q.pos = A.size) (he : q.err = 0) (n : Int) (hn : n = B.size) : q.bytes n = (⟨q.s, A.size + B.size, 0⟩, B) := by
  have hz : q.s.size = A.size + B.size + C.size := by rw [hs, ByteArray.size_append, ByteArray.size_append]
  rw [St.bytes_ok q n he (by omega) (by omega), hp, hn, Int.toNat_natCast, hs, extract_mid]
theorem number_at {q : St} {A C : ByteArray} (k n : Nat) (hk : k ≤ 8) (hn : n < 16 ^ (2 * k)) (hs : q.s = A ++ numB (2 * k) n ++ C) (hp : q.pos = A.size) (he : q.err = 0) : q.number k = (⟨q.s, A.size + 2 * k, 0⟩, n) := by
  have hb := bytes_at hs hp he (2 * (k : Int)) (by rw [numB_size]; omega)
  have hv : val (q.bytes (2 * (k : Int))).2.data.toList = some n := by
    rw [hb, numB_list, val_num, Nat.mod_eq_of_lt hn]
  rw [St.number_some q k n (by omega) hv, hb, numB_size]
theorem and_small (n : Int) (c : Nat) (hc : c < 1000) : ∃ m : Nat, m ≤ c ∧ bits .and .i64 n (c : Int) = (m : Int) := by
  have h1 : (BitVec.ofInt 64 n &&& BitVec.ofInt 64 (c : Int)).toNat ≤ c := by
    rw [BitVec.toNat_and]
    refine Nat.le_trans Nat.and_le_right ?_
    simp
    omega
  refine ⟨(BitVec.ofInt 64 n &&& BitVec.ofInt 64 (c : Int)).toNat, h1, ?_⟩
  have e : bits .and .i64 n (c : Int) = IntKind.i64.wrap ((BitVec.ofInt 64 n &&& BitVec.ofInt 64 (c : Int)).toNat : Int) := rfl
  rw [e]
  generalize (BitVec.ofInt 64 n &&& BitVec.ofInt 64 (c : Int)).toNat = m at h1
  simp [IntKind.wrap, IntKind.bits, IntKind.signed]
  omega
end Go.Wire
