/- Several texts in one: WalNames. -/
import Derived.Lib.AtoiAll
import Derived.Lib.ItoaMem
import Derived.Lib.Strings
import Derived.Test.YtoineobjmllicaaGreatDoorDkOne
/- Names of segments and their numbers; plain functions, of no program. -/
namespace Go.Wal
open Go.Dk
/-! ### numbers of segments -/
/-- What stands ahead of a segment's number. -/
def logB : Bs := [108, 111, 103, 46]
def newB : Bs := [108, 111, 103, 46, 110, 101, 119]
def seg (n : Nat) : Bs := logB ++ Lib.decDigits n
theorem parse_snoc (c : UInt8) (hc : 48 ≤ c.toNat ∧ c.toNat ≤ 57) : ∀ (l : Bs) (acc u : Nat), Lib.parseUint10 acc l = .ok u → u < 1844674407370955161 → Lib.parseUint10 acc (l ++ [c]) = .ok (u * 10 + (c.toNat - 48))
  | [], acc, u, h, hu => by
    simp only [Lib.parseUint10, Lib.NumEnd.ok.injEq] at h
    subst h
    simp only [List.nil_append, Lib.parseUint10]
    rw [if_pos hc, if_neg (by omega), if_neg (by omega)]
  | b :: l, acc, u, h, hu => by
    simp only [Lib.parseUint10, List.cons_append] at h ⊢
    split at h
    · split at h
      · cases h
      · split at h
        · cases h
        · rename_i h1 h2 h3
          rw [if_pos h1, if_neg h2, if_neg h3]
          exact parse_snoc c hc l _ u h hu
    · cases h
theorem digit_toNat {d : Nat} (h : d < 10) : (UInt8.ofNat (48 + d)).toNat = 48 + d := by
  rw [UInt8.toNat_ofNat']
  omega
theorem parse_dec (u : Nat) (hu : u < 9223372036854775808) : Lib.parseUint10 0 (Lib.decDigits u) = .ok u := by
  induction u using Nat.strongRecOn with
  | ind u ih =>
    rw [Lib.decDigits]
    split
    · rename_i h
      simp only [Lib.parseUint10]
      rw [digit_toNat h, if_pos (by omega), if_neg (by omega), if_neg (by omega)]
      congr 1
      omega
    · rename_i h
      have hd : u % 10 < 10 := Nat.mod_lt _ (by decide)
      rw [parse_snoc _ (by rw [digit_toNat hd]; omega) _ 0 _ (ih (u / 10) (by omega) (by omega)) (by omega), digit_toNat hd]
      congr 1
      omega
theorem dec_digits (u : Nat) : ∀ c ∈ Lib.decDigits u, 48 ≤ c.toNat ∧ c.toNat ≤ 57 := by
  induction u using Nat.strongRecOn with
  | ind u ih =>
    rw [Lib.decDigits]
    split
    · rename_i h
      intro c hc
      rw [List.mem_singleton] at hc
      subst hc
      rw [digit_toNat h]
      omega
    · intro c hc
      rcases List.mem_append.1 hc with hc | hc
      · exact ih (u / 10) (by omega) c hc
      · rw [List.mem_singleton] at hc
        subst hc
        rw [digit_toNat (Nat.mod_lt _ (by decide))]
        omega
theorem dec_ne (u : Nat) : Lib.decDigits u ≠ [] := by
  rw [Lib.decDigits]
  split <;> simp
theorem atoi_dec (u : Nat) (hu : u < 9223372036854775808) : Lib.atoiAll (Lib.decDigits u) = .ok u := by
  have hp := parse_dec u hu
  have hd := dec_digits u
  have hn := dec_ne u
  cases h : Lib.decDigits u with
  | nil => exact absurd h hn
  | cons c r =>
    have hc := hd c (by rw [h]; simp)
    unfold Lib.atoiAll
    simp only
    rw [if_neg (by omega)]
    unfold Lib.parseMag
    rw [if_neg (by simp), ← h, hp]
    simp only
    rw [if_neg (by omega), if_neg (by omega), if_neg (by omega)]
/-- The number of the segment whose file has a name; 0, if it is none's. -/
def numOf (name : Bs) : Nat := match Lib.atoiAll (Lib.trimPrefix name logB) with
  | .ok v => if 1 ≤ v ∧ logB ++ Lib.itoa v = name then v.toNat else 0
  | _ => 0
theorem trim_log (l : Bs) : Lib.trimPrefix (logB ++ l) logB = l := by
  unfold Lib.trimPrefix Lib.hasPrefix logB
  simp
theorem itoa_nat (n : Nat) : Lib.itoa (n : Int) = Lib.decDigits n := Lib.itoa_nonneg n
theorem numOf_seg (n : Nat) (h1 : 1 ≤ n) (h2 : n < 9223372036854775808) : numOf (seg n) = n := by
  unfold numOf seg
  rw [trim_log, atoi_dec n h2]
  simp only
  rw [itoa_nat, if_pos ⟨by omega, rfl⟩]
  simp
theorem numOf_pos {name : Bs} (h : 0 < numOf name) : name = seg (numOf name) := by
  unfold numOf at h ⊢
  cases ha : Lib.atoiAll (Lib.trimPrefix name logB) with
  | ok v =>
    rw [ha] at h
    simp only at h ⊢
    split at h
    · rename_i hv
      rw [if_pos hv]
      unfold seg
      obtain ⟨n, rfl⟩ := Int.eq_ofNat_of_zero_le (show 0 ≤ v by omega)
      rw [← itoa_nat]
      simpa using hv.2.symm
    · exact absurd h (Nat.lt_irrefl 0)
  | «syntax» => rw [ha] at h; exact absurd h (Nat.lt_irrefl 0)
  | range => rw [ha] at h; exact absurd h (Nat.lt_irrefl 0)
theorem seg_inj {m n : Nat} (hm : m < 9223372036854775808) (hn : n < 9223372036854775808) (h : seg m = seg n) : m = n := by
  have h' := List.append_cancel_left h
  have h1 := atoi_dec m hm
  rw [h', atoi_dec n hn] at h1
  injection h1 with h1
  omega
theorem numOf_new : numOf newB = 0 := by decide
theorem seg_new (n : Nat) : seg n ≠ newB := fun h => by
  have h' : Lib.decDigits n = [110, 101, 119] := List.append_cancel_left (as := logB) h
  have := dec_digits n 110 (by rw [h']; simp)
  exact absurd this.2 (by decide)
theorem dec_short (u : Nat) (hu : u < 10 ^ 20) : (Lib.decDigits u).length ≤ 20 := by
  have : ∀ k u, u < 10 ^ (k + 1) → (Lib.decDigits u).length ≤ k + 1 := fun k => by
    induction k with
    | zero => intro u h; rw [Lib.decDigits, dif_pos (by simpa using h)]; simp
    | succ k ih =>
      intro u h
      rw [Lib.decDigits]
      split
      · simp
      · have := ih (u / 10) (by rw [Nat.pow_succ] at h; omega)
        simp only [List.length_append, List.length_cons, List.length_nil]
        omega
  exact this 19 u hu
theorem seg_length (n : Nat) (h : n < 9223372036854775808) : (seg n).length ≤ 24 := by
  unfold seg
  have := dec_short n (by omega)
  rw [List.length_append]
  have : logB.length = 4 := rfl
  omega
theorem seg_ok (n : Nat) (h : n < 9223372036854775808) : nameOk (seg n) = true := by
  have hl := seg_length n h
  unfold nameOk
  simp only [Bool.and_eq_true, decide_eq_true_eq, List.all_eq_true]
  refine ⟨⟨by unfold seg logB; simp, by omega⟩, fun c hc => ?_⟩
  unfold seg at hc
  rcases List.mem_append.1 hc with hc | hc
  · unfold logB at hc
    simp only [List.mem_cons, List.not_mem_nil, or_false] at hc
    rcases hc with rfl | rfl | rfl | rfl <;> decide
  · have := dec_digits n c hc
    omega
theorem new_ok : nameOk newB = true := by decide
end Go.Wal
