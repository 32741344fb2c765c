/- Paths: the parts of a text between /, and where the last / stands; of no program. -/
import Derived.Test.YtpihgffcfoelbaaDoorNameAwake
import Derived.Lib.LastIndexByte
namespace Go.Names
open Go.RowKit
/-- The parts of a text, between /. -/
def parts : Bs → List Bs
  | [] => [[]]
  | c :: l => if c = 47 then [] :: parts l else match parts l with
    | p :: ps => (c :: p) :: ps
    | [] => [[c]]
theorem parts_ne : ∀ l, parts l ≠ []
  | [] => by simp [parts]
  | c :: l => by
    unfold parts
    split
    · simp
    · split <;> simp
theorem parts_none : ∀ {l : Bs}, 47 ∉ l → parts l = [l]
  | [], _ => rfl
  | c :: l, h => by
    have h1 : c ≠ 47 := fun e => h (by simp [e])
    have h2 := parts_none (l := l) (fun e => h (by simp [e]))
    unfold parts
    rw [if_neg h1, h2]
theorem parts_cut : ∀ {l : Bs} {i : Nat}, Lib.indexByte l 47 = i → parts l = l.take i :: parts (l.drop (i + 1))
  | [], i, h => by simp [Lib.indexByte] at h
  | c :: l, i, h => by
    unfold Lib.indexByte at h
    by_cases hc : c = 47
    · subst hc
      simp at h
      obtain rfl : i = 0 := by omega
      simp [parts]
    · have hc' : (c == 47) = false := by simpa using hc
      simp only [hc', Bool.false_eq_true, if_false] at h
      by_cases h3 : Lib.indexByte l 47 = -1
      · simp [h3] at h
      · have h4 : (Lib.indexByte l 47 == -1) = false := by simpa using h3
        simp only [h4, Bool.false_eq_true, if_false] at h
        obtain ⟨k, rfl⟩ : ∃ k, i = k + 1 := ⟨i - 1, by have := Lib.indexByte_ge l 47; omega⟩
        have ih := parts_cut (l := l) (i := k) (by omega)
        conv => lhs; unfold parts
        rw [if_neg hc, ih]
        rfl
theorem parts_snoc_cut : ∀ (l : Bs), parts (l ++ [47]) = parts l ++ [[]]
  | [] => rfl
  | c :: l => by
    have ih := parts_snoc_cut l
    show parts (c :: (l ++ [47])) = parts (c :: l) ++ [[]]
    unfold parts
    by_cases hc : c = 47
    · rw [if_pos hc, if_pos hc, ih]; rfl
    · rw [if_neg hc, if_neg hc, ih]
      cases h : parts l with
      | nil => exact absurd h (parts_ne l)
      | cons p ps => rfl
/-- One more byte behind the last part. -/
def more1 (c : UInt8) : List Bs → List Bs
  | [] => []
  | [p] => [p ++ [c]]
  | p :: q :: ps => p :: more1 c (q :: ps)
theorem more1_cons {c : UInt8} {p : Bs} {ps : List Bs} (h : ps ≠ []) : more1 c (p :: ps) = p :: more1 c ps := by
  cases ps with
  | nil => exact absurd rfl h
  | cons q ps => rfl
theorem parts_snoc : ∀ (l : Bs) {c : UInt8}, c ≠ 47 → parts (l ++ [c]) = more1 c (parts l)
  | [], c, h => by simp [parts, more1, h]
  | d :: l, c, h => by
    have ih := parts_snoc l h
    show parts (d :: (l ++ [c])) = more1 c (parts (d :: l))
    unfold parts
    by_cases hd : d = 47
    · rw [if_pos hd, if_pos hd, ih, more1_cons (parts_ne l)]
    · rw [if_neg hd, if_neg hd, ih]
      cases h2 : parts l with
      | nil => exact absurd h2 (parts_ne l)
      | cons p ps =>
        cases ps with
        | nil => rfl
        | cons q qs => rfl
theorem more1_at : ∀ {P : List Bs} {k : Nat} {c : UInt8} {p : Bs}, P.length = k + 1 → P[k]? = some p → more1 c P = P.set k (p ++ [c])
  | [], k, c, p, h, _ => by simp at h
  | [q], k, c, p, h, hp => by
    obtain rfl : k = 0 := by simpa using h.symm
    simp at hp
    subst hp
    rfl
  | q :: r :: P, k, c, p, h, hp => by
    obtain ⟨j, rfl⟩ : ∃ j, k = j + 1 := ⟨k - 1, by simp at h; omega⟩
    have := more1_at (P := r :: P) (k := j) (c := c) (p := p) (by simpa using h) (by simpa using hp)
    show q :: more1 c (r :: P) = _
    rw [this]
    rfl
theorem parts_length : ∀ (l : Bs), (parts l).length ≤ l.length + 1
  | [] => by simp [parts]
  | c :: l => by
    have ih := parts_length l
    unfold parts
    split
    · simp; omega
    · split
      · rename_i h; rw [h] at ih; simp at ih ⊢; omega
      · simp
/-- What may be a path. -/
def pathB (l : Bs) : Bool := decide (l.length ≤ 238) && (parts l).all legal
theorem parts_le : ∀ (l : Bs), ∀ p ∈ parts l, p.length ≤ l.length
  | [], p, h => by simp [parts] at h; simp [h]
  | c :: l, p, h => by
    have ih := parts_le l
    unfold parts at h
    split at h
    · rcases List.mem_cons.1 h with rfl | h
      · simp
      · have := ih p h; simp; omega
    · split at h
      · rename_i q qs e
        rw [e] at ih
        rcases List.mem_cons.1 h with rfl | h
        · have := ih q (by simp); simp; omega
        · have := ih p (by simp [h]); simp; omega
      · rw [List.mem_singleton.1 h]; simp
/-- A text, cut at its last /. -/
def lastTo (s : ByteArray) : Nat → Option Nat
  | 0 => none
  | k + 1 => if ((s.data[k]!).toNat : Int) = 47 then some k else lastTo s k
theorem lastIdx_is (s : ByteArray) : ∀ k, Lib.lastIdx s 47 k = match lastTo s k with | none => -1 | some i => (i : Int)
  | 0 => rfl
  | k + 1 => by
    unfold Lib.lastIdx lastTo
    by_cases h : ((s.data[k]!).toNat : Int) = 47
    · rw [if_pos h, if_pos h]
    · rw [if_neg h, if_neg h, lastIdx_is s k]
theorem lastTo_lt (s : ByteArray) : ∀ k i, lastTo s k = some i → i < k
  | 0, i, h => by cases h
  | k + 1, i, h => by
    unfold lastTo at h
    split at h
    · cases h; omega
    · have := lastTo_lt s k i h; omega
def splitB (s : ByteArray) : ByteArray × ByteArray := match lastTo s s.size with
  | none => (⟨#[]⟩, s)
  | some i => (s.extract 0 i, s.extract (i + 1) s.size)
end Go.Names
