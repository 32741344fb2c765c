/- Several texts in one: ChunkMath, ChunkCut, ChunkIter, ChunkFew. -/
import Derived.Test.YtigkemkebceacaaDoorPureSha
import Derived.Test.YtigkemkebceacaaDoorRows
import Derived.WalkKit
import Derived.WalkSpells
import Derived.WalkLawsBesides
import Derived.Deep.QuietTactic
import Derived.Deep.RegionWith
import Derived.BigQuiet
import Derived.RangeFuncNested
import Derived.RangeFuncBound
import Derived.RangeFuncCalls
import Derived.RangeFuncLeaves
import Derived.RangeFuncBox
import Derived.Shelf.Abstract
import Derived.Shelf.RegionOpen
import Derived.OwnWalkIn
import Derived.TacticsInMore
import Derived.LoopNIn
import Derived.LoopIn
/- Plain facts on chunks: a byte's number, the sum that says where a chunk ends, the first chunk, all chunks; no program text is named here. -/
namespace Go.Chunk
abbrev Bs := List UInt8
def two64 : Int := 18446744073709551616
/-- A byte's number. -/
def mixA (x : Int) : Int := IntKind.u64.wrap (x * 11400714819323198485)
def mixB (x : Int) : Int := IntKind.u64.wrap (bits .xor .u64 x (x / 1073741824) * 13787848793156543929)
def mixC (x : Int) : Int := IntKind.u64.wrap (bits .xor .u64 x (x / 134217728) * 10723151780598845931)
def mixD (x : Int) : Int := bits .xor .u64 x (x / 2147483648)
def gear (c : UInt8) : Int := mixD (mixC (mixB (mixA ((c.toNat : Int) + 1))))
theorem wrap_lt (x : Int) : 0 ≤ IntKind.u64.wrap x ∧ IntKind.u64.wrap x < 18446744073709551616 := by
  rw [IntKind.wrap_u64]; omega
theorem xor_lt (x y : Int) : 0 ≤ bits .xor .u64 x y ∧ bits .xor .u64 x y < 18446744073709551616 := wrap_lt _
theorem gear_lt (c : UInt8) : 0 ≤ gear c ∧ gear c < 18446744073709551616 := xor_lt _ _
/-- A product by parts of 32 bits. -/
theorem times_parts (a b : Int) (ha : 0 ≤ a ∧ a < 18446744073709551616) (hb : 0 ≤ b ∧ b < 18446744073709551616) :
    IntKind.u64.wrap (IntKind.u64.wrap (a.tmod 4294967296 * b.tmod 4294967296) + IntKind.u64.wrap ((IntKind.u64.wrap (IntKind.u64.wrap (a.tmod 4294967296 * IntKind.u64.wrap (b.tdiv 4294967296)) + IntKind.u64.wrap (IntKind.u64.wrap (a.tdiv 4294967296) * b.tmod 4294967296))).tmod 4294967296 * 4294967296)) = IntKind.u64.wrap (a * b) := by
  have e1 : a.tmod 4294967296 = a % 4294967296 := Int.tmod_eq_emod_of_nonneg ha.1
  have e2 : b.tmod 4294967296 = b % 4294967296 := Int.tmod_eq_emod_of_nonneg hb.1
  have e3 : a.tdiv 4294967296 = a / 4294967296 := Int.tdiv_eq_ediv_of_nonneg ha.1
  have e4 : b.tdiv 4294967296 = b / 4294967296 := Int.tdiv_eq_ediv_of_nonneg hb.1
  rw [e1, e2, e3, e4]
  have e5 : ∀ x, (IntKind.u64.wrap x).tmod 4294967296 = IntKind.u64.wrap x % 4294967296 := fun x => Int.tmod_eq_emod_of_nonneg (wrap_lt x).1
  rw [e5]
  simp only [IntKind.wrap_u64]
  have e6 : a / 4294967296 % 18446744073709551616 = a / 4294967296 := by omega
  have e7 : b / 4294967296 % 18446744073709551616 = b / 4294967296 := by omega
  rw [e6, e7]
  generalize hl : a % 4294967296 = lo
  generalize hp : b % 4294967296 = p
  generalize hh : a / 4294967296 = hi
  generalize hq : b / 4294967296 = q
  have ea : a = lo + hi * 4294967296 := by omega
  have eb : b = p + q * 4294967296 := by omega
  have eab : a * b = lo * p + (lo * q + hi * p) * 4294967296 + (hi * q) * 18446744073709551616 := by
    rw [ea, eb, Int.add_mul, Int.mul_add, Int.mul_add, Int.add_mul]
    have x1 : lo * (q * 4294967296) = lo * q * 4294967296 := by rw [Int.mul_assoc]
    have x2 : hi * 4294967296 * p = hi * p * 4294967296 := by rw [Int.mul_assoc, Int.mul_comm 4294967296 p, Int.mul_assoc]
    have x3 : hi * 4294967296 * (q * 4294967296) = hi * q * 18446744073709551616 := by
      rw [Int.mul_assoc, Int.mul_left_comm 4294967296 q, Int.mul_assoc hi q]; congr 2
    rw [x1, x2, x3]
    omega
  rw [eab]
  generalize lo * p = P
  generalize lo * q = Q
  generalize hi * p = R
  generalize hi * q = T
  omega
/-- The sum behind bytes. -/
def roll (l : Bs) : Int := l.foldl (fun h c => IntKind.u64.wrap (IntKind.u64.wrap (2 * h) + gear c)) 0
theorem roll_snoc (l : Bs) (c : UInt8) : roll (l ++ [c]) = IntKind.u64.wrap (IntKind.u64.wrap (2 * roll l) + gear c) := by
  unfold roll; rw [List.foldl_append]; rfl
theorem roll_lt (l : Bs) : 0 ≤ roll l ∧ roll l < 18446744073709551616 := by
  rcases List.eq_nil_or_concat l with rfl | ⟨r, c, rfl⟩
  · exact ⟨by decide, by decide⟩
  · rw [List.concat_eq_append, roll_snoc]; exact wrap_lt _
theorem take_snoc' (l : Bs) (k : Nat) (h : k < l.length) : l.take (k + 1) = l.take k ++ [l[k]] := List.take_succ_eq_append_getElem h
/-- The document's sum: the last m bytes of the first n, the last one first, each as often doubled as bytes stand behind it. -/
def wt : Nat → Int
  | 0 => 1
  | m + 1 => IntKind.u64.wrap (wt m + wt m)
theorem wt_lt (m : Nat) : 0 ≤ wt m ∧ wt m < 18446744073709551616 := by
  cases m with
  | zero => exact ⟨by decide, by decide⟩
  | succ m => exact wrap_lt _
theorem wt_64 : wt 64 = 0 := by decide +kernel
def acc (l : Bs) (n : Nat) : Nat → Int
  | 0 => 0
  | m + 1 => IntKind.u64.wrap (acc l n m + IntKind.u64.wrap (gear (l.getD (n - 1 - m) 0) * wt m))
theorem acc_lt (l : Bs) (n m : Nat) : 0 ≤ acc l n m ∧ acc l n m < 18446744073709551616 := by
  cases m with
  | zero => exact ⟨Int.le_refl 0, (by decide : (0 : Int) < 18446744073709551616)⟩
  | succ m => exact wrap_lt _
theorem acc_roll (l : Bs) (n : Nat) (hn : n ≤ l.length) : ∀ m, m ≤ n → (acc l n m + wt m * roll (l.take (n - m))) % 18446744073709551616 = roll (l.take n) := by
  intro m
  induction m with
  | zero =>
    intro _
    have := roll_lt (l.take n)
    simp only [acc, wt, Nat.sub_zero]
    omega
  | succ m ih =>
    intro hm
    have h1 := ih (by omega)
    have e : n - m = n - (m + 1) + 1 := by omega
    have hlt : n - (m + 1) < l.length := by omega
    rw [e, take_snoc' l _ hlt, roll_snoc] at h1
    have eg : l.getD (n - 1 - m) 0 = l[n - (m + 1)] := by
      rw [List.getD_eq_getElem?_getD, show n - 1 - m = n - (m + 1) by omega, List.getElem?_eq_getElem hlt]; rfl
    rw [← h1]
    simp only [acc, wt, eg, IntKind.wrap_u64]
    generalize gear l[n - (m + 1)] = g
    generalize roll (l.take (n - (m + 1))) = h
    generalize acc l n m = a
    generalize wt m = t
    have k1 : t * ((2 * h % 18446744073709551616 + g) % 18446744073709551616) % 18446744073709551616 = (2 * (t * h) + g * t) % 18446744073709551616 := by
      rw [Int.mul_emod, Int.emod_emod_of_dvd _ (Int.dvd_refl _), Int.emod_add_emod, ← Int.mul_emod, Int.mul_add]
      congr 2
      · rw [Int.mul_left_comm]
      · exact Int.mul_comm _ _
    have k2 : (t + t) % 18446744073709551616 * h % 18446744073709551616 = (2 * (t * h)) % 18446744073709551616 := by
      rw [Int.mul_emod, Int.emod_emod_of_dvd _ (Int.dvd_refl _), ← Int.mul_emod]
      congr 1
      rw [Int.add_mul]; omega
    generalize t * ((2 * h % 18446744073709551616 + g) % 18446744073709551616) = X at k1 ⊢
    generalize (t + t) % 18446744073709551616 * h = Y at k2 ⊢
    generalize t * h = Z at k1 k2
    generalize g * t = G at k1 ⊢
    omega
/-- The document's sum is the program's. -/
theorem acc_all (l : Bs) (n m : Nat) (hn : n ≤ l.length) (hm : m = min n 64) : acc l n m = roll (l.take n) := by
  have h1 := acc_roll l n hn m (by omega)
  have h2 := acc_lt l n m
  by_cases h : n ≤ 64
  · have : m = n := by omega
    subst this
    rw [Nat.sub_self, List.take_zero, show roll [] = 0 from rfl, Int.mul_zero] at h1
    omega
  · have : m = 64 := by omega
    subst this
    rw [wt_64, Int.zero_mul] at h1
    omega
/-- Whether a chunk may end behind n bytes. -/
def stop (l : Bs) (n : Nat) : Bool := decide (roll (l.take n) / 4294967296 % 128 = 0)
structure IsCut (l : Bs) (m : Nat) : Prop where
  len : m ≤ l.length
  most : m ≤ 512
  none : ∀ n, 32 ≤ n → n < m → stop l n = false
  ends : m = l.length ∨ m = 512 ∨ (32 ≤ m ∧ stop l m = true)
theorem IsCut.unique {l : Bs} {m n : Nat} (h : IsCut l m) (k : IsCut l n) : m = n := by
  rcases Nat.lt_trichotomy m n with hlt | rfl | hlt
  · have h1 := k.len
    have h2 := k.most
    rcases h.ends with h3 | h3 | ⟨h3, h4⟩
    · omega
    · omega
    · rw [k.none m h3 hlt] at h4; cases h4
  · rfl
  · have h1 := h.len
    have h2 := h.most
    rcases k.ends with h3 | h3 | ⟨h3, h4⟩
    · omega
    · omega
    · rw [h.none n h3 hlt] at h4; cases h4
def cutFrom (l : Bs) : Nat → Nat → Nat
  | 0, n => n
  | k + 1, n => if 32 ≤ n ∧ stop l n = true then n else cutFrom l k (n + 1)
/-- How many bytes the first chunk has. -/
def cut (l : Bs) : Nat := cutFrom l (min l.length 512) 0
theorem cutFrom_is (l : Bs) : ∀ k n, n + k = min l.length 512 → (∀ j, 32 ≤ j → j < n → stop l j = false) → IsCut l (cutFrom l k n) := by
  intro k
  induction k with
  | zero => intro n h1 h2; unfold cutFrom; exact ⟨by omega, by omega, h2, by omega⟩
  | succ k ih =>
    intro n h1 h2
    unfold cutFrom
    split
    · rename_i h; exact ⟨by omega, by omega, h2, .inr (.inr h)⟩
    · rename_i h
      refine ih (n + 1) (by omega) fun j hj hjn => ?_
      by_cases e : j = n
      · subst e
        cases hs : stop l j with
        | false => rfl
        | true => exact absurd ⟨hj, hs⟩ h
      · exact h2 j hj (by omega)
theorem cut_is (l : Bs) : IsCut l (cut l) := cutFrom_is l _ 0 (by omega) fun j _ h => absurd h (Nat.not_lt_zero _)
theorem cut_eq {l : Bs} {m : Nat} (h : IsCut l m) : cut l = m := (cut_is l).unique h
theorem cut_pos (l : Bs) (h : 0 < l.length) : 0 < cut l := by
  rcases (cut_is l).ends with h1 | h1 | ⟨h1, _⟩ <;> omega
theorem cut_short (l : Bs) (h : l.length ≤ 32) : cut l = l.length := cut_eq ⟨Nat.le_refl _, by omega, fun n h1 h2 => by omega, .inl rfl⟩
theorem cut_min (l : Bs) (h : cut l < l.length) : 32 ≤ cut l := by
  rcases (cut_is l).ends with h1 | h1 | ⟨h1, _⟩ <;> omega
theorem stop_take (l r : Bs) (n : Nat) (h : l.take n = r.take n) : stop l n = stop r n := by unfold stop; rw [h]
/-- A chunk of fewer than the most bytes, that is not the last one, ends there with whatever stands behind it. -/
theorem cut_again (l r : Bs) (h1 : cut l < l.length) (h2 : cut l < 512) : cut (l.take (cut l) ++ r) = cut l := by
  have k := cut_is l
  have hl : (l.take (cut l)).length = cut l := List.length_take_of_le (by omega)
  have ht : ∀ n, n ≤ cut l → (l.take (cut l) ++ r).take n = l.take n := fun n hn => by
    rw [List.take_append_of_le_length (by omega), List.take_take, Nat.min_eq_left hn]
  refine cut_eq ⟨by rw [List.length_append, hl]; omega, k.most, fun n a b => ?_, .inr (.inr ?_)⟩
  · rw [stop_take _ l n (ht n (by omega))]; exact k.none n a b
  · rcases k.ends with h | h | ⟨h, h'⟩
    · omega
    · omega
    · exact ⟨h, by rw [stop_take _ l _ (ht _ (Nat.le_refl _))]; exact h'⟩
/-- The last 64 bytes alone say whether a chunk may end. -/
theorem roll_last (a t : Bs) (n : Nat) (h1 : 64 ≤ n) (h2 : n ≤ t.length) : roll ((a ++ t).take (a.length + n)) = roll (t.take n) := by
  have e1 := acc_all (a ++ t) (a.length + n) 64 (by rw [List.length_append]; omega) (by omega)
  have e2 := acc_all t n 64 h2 (by omega)
  rw [← e1, ← e2]
  have : ∀ m, m ≤ 64 → acc (a ++ t) (a.length + n) m = acc t n m := by
    intro m
    induction m with
    | zero => intro _; rfl
    | succ m ih =>
      intro hm
      simp only [acc]
      have e : (a ++ t).getD (a.length + n - 1 - m) 0 = t.getD (n - 1 - m) 0 := by
        rw [List.getD_eq_getElem?_getD, List.getD_eq_getElem?_getD, List.getElem?_append_right (by omega), show a.length + n - 1 - m - a.length = n - 1 - m by omega]
      rw [ih (by omega), e]
  exact this 64 (Nat.le_refl _)
theorem cut_ahead (a t : Bs) (h1 : 64 < cut t) (h2 : cut t < t.length) (h3 : a.length + cut t < 512) : cut (a ++ t) ≤ a.length + cut t := by
  have k := cut_is t
  rcases Nat.lt_or_ge (a.length + cut t) (cut (a ++ t)) with h | h
  · exfalso
    have h4 := (cut_is (a ++ t)).none (a.length + cut t) (by omega) h
    rcases k.ends with h5 | h5 | ⟨_, h5⟩
    · omega
    · omega
    · unfold stop at h4 h5
      rw [roll_last a t (cut t) (by omega) (by omega), h5] at h4
      cases h4
  · exact h
/-- The chunks. -/
def chunksN : Nat → Bs → List Bs
  | 0, _ => []
  | k + 1, l => if l = [] then [] else l.take (cut l) :: chunksN k (l.drop (cut l))
def chunks (l : Bs) : List Bs := chunksN l.length l
theorem chunksN_more : ∀ (k j : Nat) (l : Bs), l.length ≤ k → l.length ≤ j → chunksN k l = chunksN j l := by
  intro k
  induction k with
  | zero =>
    intro j l h _
    have : l = [] := List.length_eq_zero_iff.1 (by omega)
    subst this
    cases j with
    | zero => rfl
    | succ j => simp [chunksN]
  | succ k ih =>
    intro j l h1 h2
    cases j with
    | zero =>
      have : l = [] := List.length_eq_zero_iff.1 (by omega)
      subst this
      simp [chunksN]
    | succ j =>
      simp only [chunksN]
      split
      · rfl
      · rename_i hl
        have := cut_pos l (List.length_pos_iff.2 hl)
        rw [ih j (l.drop (cut l)) (by rw [List.length_drop]; omega) (by rw [List.length_drop]; omega)]
theorem chunks_nil : chunks [] = [] := rfl
theorem chunks_step (l : Bs) (h : l ≠ []) : chunks l = l.take (cut l) :: chunks (l.drop (cut l)) := by
  have hp := List.length_pos_iff.2 h
  have hc := cut_pos l hp
  unfold chunks
  obtain ⟨k, hk⟩ : ∃ k, l.length = k + 1 := ⟨l.length - 1, by omega⟩
  rw [hk]
  simp only [chunksN, if_neg h]
  rw [chunksN_more k (l.drop (cut l)).length _ (by rw [List.length_drop]; omega) (Nat.le_refl _)]
theorem chunks_ind {P : Bs → Prop} (h0 : P []) (h1 : ∀ l, l ≠ [] → P (l.drop (cut l)) → P l) : ∀ l, P l := by
  have : ∀ n, ∀ l : Bs, l.length ≤ n → P l := by
    intro n
    induction n with
    | zero => intro l h; have : l = [] := List.length_eq_zero_iff.1 (by omega); subst this; exact h0
    | succ n ih =>
      intro l h
      by_cases hl : l = []
      · subst hl; exact h0
      · have hp := List.length_pos_iff.2 hl
        have := cut_pos l hp
        exact h1 l hl (ih _ (by rw [List.length_drop]; omega))
  exact fun l => this l.length l (Nat.le_refl _)
theorem chunks_flat (l : Bs) : (chunks l).flatten = l := by
  refine chunks_ind (P := fun l => (chunks l).flatten = l) rfl (fun l h ih => ?_) l
  show (chunks l).flatten = l
  rw [chunks_step l h, List.flatten_cons, ih, List.take_append_drop]
theorem chunks_length (l : Bs) : (chunks l).length ≤ l.length := by
  refine chunks_ind (P := fun l => (chunks l).length ≤ l.length) (Nat.le_refl _) (fun l h ih => ?_) l
  have hp := List.length_pos_iff.2 h
  have := cut_pos l hp
  show (chunks l).length ≤ _
  rw [chunks_step l h, List.length_cons]
  rw [List.length_drop] at ih
  omega
theorem chunks_ne (l : Bs) (h : l ≠ []) : chunks l ≠ [] := by rw [chunks_step l h]; exact List.cons_ne_nil _ _
/-- What each chunk is. -/
theorem chunks_each (l : Bs) : ∀ (i : Nat) (c : Bs), (chunks l)[i]? = some c → 1 ≤ c.length ∧ c.length ≤ 512 ∧ (i + 1 < (chunks l).length → 32 ≤ c.length ∧ (c.length < 512 → ∀ r, cut (c ++ r) = c.length)) := by
  refine chunks_ind (P := fun l => ∀ (i : Nat) (c : Bs), (chunks l)[i]? = some c → 1 ≤ c.length ∧ c.length ≤ 512 ∧ (i + 1 < (chunks l).length → 32 ≤ c.length ∧ (c.length < 512 → ∀ r, cut (c ++ r) = c.length))) ?_ (fun l h ih => ?_) l
  · intro i c hc; simp [chunks_nil] at hc
  · intro i c hc
    have hp := List.length_pos_iff.2 h
    have hcp := cut_pos l hp
    have k := cut_is l
    rw [chunks_step l h] at hc ⊢
    cases i with
    | zero =>
      simp only [List.getElem?_cons_zero, Option.some.injEq] at hc
      subst hc
      have hl : (l.take (cut l)).length = cut l := List.length_take_of_le k.len
      rw [hl]
      refine ⟨hcp, k.most, fun hi => ?_⟩
      have hlt : cut l < l.length := by
        rcases Nat.lt_or_ge (cut l) l.length with h' | h'
        · exact h'
        · rw [List.drop_eq_nil_of_le h', chunks_nil] at hi; simp at hi
      exact ⟨cut_min l hlt, fun h512 r => cut_again l r hlt h512⟩
    | succ i =>
      simp only [List.getElem?_cons_succ] at hc
      obtain ⟨h1, h2, h3⟩ := ih i c hc
      exact ⟨h1, h2, fun hi => h3 (by simp only [List.length_cons] at hi; omega)⟩
end Go.Chunk
/- Contracts: a byte's number, and how many bytes the first chunk has: the program's and the document's. -/
namespace Go.Chunk
open Go.RowKit
/-- A fact that is no rule. -/
theorem hide {p : Prop} (h : p) : Hid p := h
theorem byte_u64 (c : UInt8) : IntKind.u64.wrap ((c.toNat : Nat) : Int) = ((c.toNat : Nat) : Int) := by
  rw [IntKind.wrap_u64]; have := c.toNat_lt; omega
/-- The bits 32 to 38 of a number are nought. -/
theorem ending_bits (h : Int) (h0 : 0 ≤ h ∧ h < 18446744073709551616) : (bits .and .u64 h 545460846592 == 0) = decide (h / 4294967296 % 128 = 0) := by
  obtain ⟨n, rfl⟩ := Int.eq_ofNat_of_zero_le h0.1
  have hn : n < 2 ^ 64 := by omega
  have e1 : bits .and .u64 (n : Int) 545460846592 = ((n &&& 545460846592 : Nat) : Int) := by
    have h1 : (BitVec.ofInt 64 (n : Int)).toNat = n := by rw [BitVec.ofInt_natCast, BitVec.toNat_ofNat]; exact Nat.mod_eq_of_lt hn
    have h2 : (BitVec.ofInt 64 (545460846592 : Int)).toNat = 545460846592 := by decide
    show IntKind.u64.wrap ((BitVec.ofInt 64 (n : Int) &&& BitVec.ofInt 64 545460846592).toNat : Int) = _
    rw [BitVec.toNat_and, h1, h2, IntKind.wrap_u64]
    have : n &&& 545460846592 ≤ n := Nat.and_le_left
    omega
  have e2 : n &&& 545460846592 = n / 4294967296 % 128 * 4294967296 := by
    have a1 : (545460846592 : Nat) = (2 ^ 7 - 1) <<< 32 := by decide
    apply Nat.eq_of_testBit_eq
    intro i
    rw [Nat.testBit_and, a1, Nat.testBit_shiftLeft, Nat.testBit_two_pow_sub_one, show n / 4294967296 % 128 * 4294967296 = (n / 4294967296 % 2 ^ 7) <<< 32 by rw [Nat.shiftLeft_eq], Nat.testBit_shiftLeft, Nat.testBit_mod_two_pow, show n / 4294967296 = n >>> 32 by rw [Nat.shiftRight_eq_div_pow], Nat.testBit_shiftRight]
    by_cases h : 32 ≤ i
    · simp only [h, decide_true, Bool.true_and]
      rw [show 32 + (i - 32) = i by omega, Bool.and_comm]
    · simp [h]
  rw [e1, e2]
  by_cases h : n / 4294967296 % 128 = 0
  · rw [h]
    have : ((n : Int) / 4294967296 % 128 = 0) := by omega
    simp [this]
  · have : ¬ ((n : Int) / 4294967296 % 128 = 0) := by omega
    rw [decide_eq_false this]
    rw [beq_eq_false_iff_ne]
    omega
end Go.Chunk
namespace Go.Proofs.YtigkemkebceacaaDoor
open Go.RowKit Go.Chunk
theorem gear_any (c : UInt8) (w : World) :
    Calls Tryd.prog 69 #[.int .u8 c.toNat] w fun e w' => e = .returned (.int .u64 (gear c)) ∧ w' = w := by
  have hb := byte_u64 c
  have hc : ((c.toNat : Nat) : Int) < 256 := by have := c.toNat_lt; omega
  have HG : Hid (gear c = mixD (mixC (mixB (mixA ((c.toNat : Int) + 1))))) := hide rfl
  generalize gear c = g at *
  go_enter Tryd.func69, Tryd.ntmps69
  go_wp2
  go_ret
  rw [HG.out]
  exact ⟨rfl, rfl⟩
theorem tdiv_u64 (x k : Int) (h : 0 ≤ x ∧ x < 18446744073709551616) (hk : 1 ≤ k) : IntKind.u64.wrap (x.tdiv k) = x / k := by
  rw [Int.tdiv_eq_ediv_of_nonneg h.1, IntKind.wrap_u64]
  have h1 : 0 ≤ x / k := Int.ediv_nonneg h.1 (by omega)
  have h2 : x / k ≤ x := Int.ediv_le_self k h.1
  omega
theorem tdiv_wrap (y k : Int) (hk : 1 ≤ k) : IntKind.u64.wrap ((IntKind.u64.wrap y).tdiv k) = IntKind.u64.wrap y / k := tdiv_u64 _ k (wrap_lt y) hk
theorem take_bytes (s : ByteArray) (k : Nat) (h : k < s.size) : s.data.toList.take (k + 1) = s.data.toList.take k ++ [s[k]] := Sha.take_snoc s k h
set_option maxRecDepth 10000 in
set_option maxHeartbeats 1000000 in
theorem cut_any (s : ByteArray) (w : World) (hs : s.size ≤ maxLen) :
    Calls Tryd.prog 56 #[.string s] w fun e w' => e = .returned (.int .i64 (cut s.data.toList)) ∧ w' = w := by
  unfold maxLen at hs
  have hl : s.data.toList.length = s.size := by simp
  have HL := hide hl
  clear hl
  by_cases hm : s.size ≤ 512
  · have hm' : ((s.size : Int) ≤ 512) := by omega
    go_enter Tryd.func56, Tryd.ntmps56
    go_wp2
    go_loop [4, 10] (fun vh vi => ∃ k : Nat, k ≤ s.size ∧ vi = .int .i64 k ∧ vh = .int .u64 (roll (s.data.toList.take k)) ∧ Hid (∀ n, 32 ≤ n → n ≤ k → stop s.data.toList n = false)) (fun _ vi => s.size - (intOf vi).toNat)
    case atStart => exact ⟨0, Nat.zero_le _, rfl, rfl, fun n h1 h2 => by omega⟩
    case round =>
      obtain ⟨k, hk, rfl, rfl, HN⟩ := hrel
      by_cases hlt : k < s.size
      · have hlt2 : (k : Int) < s.size := by omega
        have hks : k < s.size := by omega
        have HS := hide (take_bytes s k hks)
        have HH := hide (roll_snoc (s.data.toList.take k) s[k])
        have HB := hide (ending_bits (roll (s.data.toList.take (k + 1))) (roll_lt _))
        rw [HS.out, HH.out] at HB
        have HG : Hid (Calls Tryd.prog 69 #[.int .u8 s[k].toNat] w fun e w' => e = .returned (.int .u64 (gear s[k])) ∧ w' = w) := gear_any s[k] w
        have HX : Hid (roll (s.data.toList.take (k + 1)) = IntKind.u64.wrap (IntKind.u64.wrap (2 * roll (s.data.toList.take k)) + gear s[k])) := by show _ = _; rw [HS.out, HH.out]
        have HT : Hid (stop s.data.toList (k + 1) = decide (IntKind.u64.wrap (IntKind.u64.wrap (2 * roll (s.data.toList.take k)) + gear s[k]) / 4294967296 % 128 = 0)) := by show _ = _; unfold stop; rw [HX.out]
        clear HS HH
        generalize roll (s.data.toList.take k) = x at *
        generalize gear s[k] = g at *
        by_cases h32 : 32 ≤ k + 1
        · have h32' : ((k : Int) + 1 ≥ 32) := by omega
          cases hz : decide (IntKind.u64.wrap (IntKind.u64.wrap (2 * x) + g) / 4294967296 % 128 = 0) with
          | true =>
            rw [hz] at HB HT
            have hB := HB.out
            go_wp2_with (go_at_call 69; refine HG.out.mono ?_; rintro e w' ⟨rfl, hw⟩; subst hw)
            go_ret
            refine ⟨?_, rfl⟩
            have e : cut s.data.toList = k + 1 := cut_eq ⟨by rw [HL.out]; omega, by omega, fun n a b => HN.out n a (by omega), .inr (.inr ⟨h32, HT.out⟩)⟩
            rw [e]
            rfl
          | false =>
            rw [hz] at HB HT
            have hB := HB.out
            go_wp2_with (go_at_call 69; refine HG.out.mono ?_; rintro e w' ⟨rfl, hw⟩; subst hw)
            go_round
            case rel => exact ⟨k + 1, by omega, by go_num, by rw [HX.out], fun n a b => by
              by_cases hn : n = k + 1
              · rw [hn]; exact HT.out
              · exact HN.out n a (by omega)⟩
            case measure => simp [intOf]; omega
        · have h32' : ¬ ((k : Int) + 1 ≥ 32) := by omega
          go_wp2_with (go_at_call 69; refine HG.out.mono ?_; rintro e w' ⟨rfl, hw⟩; subst hw)
          go_round
          case rel => exact ⟨k + 1, by omega, by go_num, by rw [HX.out], fun n a b => absurd a (by omega)⟩
          case measure => simp [intOf]; omega
      · have hke : k = s.size := by omega
        have hlt2 : ¬ ((k : Int) < s.size) := by omega
        go_wp2
        go_ret
        refine ⟨?_, rfl⟩
        have e : cut s.data.toList = k := cut_eq ⟨by rw [HL.out]; omega, by omega, fun n a b => HN.out n a (by omega), by rw [HL.out]; omega⟩
        rw [e, hke]
        first | rfl | (rw [hM]; rfl)
  · have hm' : ((512 : Int) < s.size) := by omega
    obtain ⟨M, HM⟩ : ∃ M : Nat, Hid (M = 512) := ⟨512, hide rfl⟩
    have hM : (M : Int) = 512 := by have := HM.out; omega
    have hM2 : M < s.size := by omega
    go_enter Tryd.func56, Tryd.ntmps56
    go_wp2
    go_loop [4, 10] (fun vh vi => ∃ k : Nat, k ≤ M ∧ vi = .int .i64 k ∧ vh = .int .u64 (roll (s.data.toList.take k)) ∧ Hid (∀ n, 32 ≤ n → n ≤ k → stop s.data.toList n = false)) (fun _ vi => s.size - (intOf vi).toNat)
    case atStart => exact ⟨0, Nat.zero_le _, rfl, rfl, fun n h1 h2 => by omega⟩
    case round =>
      obtain ⟨k, hk, rfl, rfl, HN⟩ := hrel
      by_cases hlt : k < M
      · have hlt2 : (k : Int) < 512 := by omega
        have hks : k < s.size := by omega
        have HS := hide (take_bytes s k hks)
        have HH := hide (roll_snoc (s.data.toList.take k) s[k])
        have HB := hide (ending_bits (roll (s.data.toList.take (k + 1))) (roll_lt _))
        rw [HS.out, HH.out] at HB
        have HG : Hid (Calls Tryd.prog 69 #[.int .u8 s[k].toNat] w fun e w' => e = .returned (.int .u64 (gear s[k])) ∧ w' = w) := gear_any s[k] w
        have HX : Hid (roll (s.data.toList.take (k + 1)) = IntKind.u64.wrap (IntKind.u64.wrap (2 * roll (s.data.toList.take k)) + gear s[k])) := by show _ = _; rw [HS.out, HH.out]
        have HT : Hid (stop s.data.toList (k + 1) = decide (IntKind.u64.wrap (IntKind.u64.wrap (2 * roll (s.data.toList.take k)) + gear s[k]) / 4294967296 % 128 = 0)) := by show _ = _; unfold stop; rw [HX.out]
        clear HS HH
        generalize roll (s.data.toList.take k) = x at *
        generalize gear s[k] = g at *
        by_cases h32 : 32 ≤ k + 1
        · have h32' : ((k : Int) + 1 ≥ 32) := by omega
          cases hz : decide (IntKind.u64.wrap (IntKind.u64.wrap (2 * x) + g) / 4294967296 % 128 = 0) with
          | true =>
            rw [hz] at HB HT
            have hB := HB.out
            go_wp2_with (go_at_call 69; refine HG.out.mono ?_; rintro e w' ⟨rfl, hw⟩; subst hw)
            go_ret
            refine ⟨?_, rfl⟩
            have e : cut s.data.toList = k + 1 := cut_eq ⟨by rw [HL.out]; omega, by omega, fun n a b => HN.out n a (by omega), .inr (.inr ⟨h32, HT.out⟩)⟩
            rw [e]
            rfl
          | false =>
            rw [hz] at HB HT
            have hB := HB.out
            go_wp2_with (go_at_call 69; refine HG.out.mono ?_; rintro e w' ⟨rfl, hw⟩; subst hw)
            go_round
            case rel => exact ⟨k + 1, by omega, by go_num, by rw [HX.out], fun n a b => by
              by_cases hn : n = k + 1
              · rw [hn]; exact HT.out
              · exact HN.out n a (by omega)⟩
            case measure => simp [intOf]; omega
        · have h32' : ¬ ((k : Int) + 1 ≥ 32) := by omega
          go_wp2_with (go_at_call 69; refine HG.out.mono ?_; rintro e w' ⟨rfl, hw⟩; subst hw)
          go_round
          case rel => exact ⟨k + 1, by omega, by go_num, by rw [HX.out], fun n a b => absurd a (by omega)⟩
          case measure => simp [intOf]; omega
      · have hke : k = M := by omega
        have hlt2 : ¬ ((k : Int) < 512) := by omega
        go_wp2
        go_ret
        refine ⟨?_, rfl⟩
        have e : cut s.data.toList = k := cut_eq ⟨by rw [HL.out]; omega, by omega, fun n a b => HN.out n a (by omega), by rw [HL.out]; omega⟩
        rw [e, hke]
        first | rfl | (rw [hM]; rfl)
end Go.Proofs.YtigkemkebceacaaDoor
/- Contracts: the chunks of a text, gone over by a function, and listed. -/
namespace Go.Chunk
open Go.RowKit
/-- Chunks as texts. -/
def txt (l : Bs) : ByteArray := ⟨l.toArray⟩
def texts (s : ByteArray) : List ByteArray := (chunks s.data.toList).map txt
theorem txt_data (s : ByteArray) : txt s.data.toList = s := by unfold txt; rfl
theorem data_txt (l : Bs) : (txt l).data.toList = l := rfl
theorem txt_take (s : ByteArray) (n : Nat) : txt (s.data.toList.take n) = s.extract 0 n := by
  have := Sha.extract_list s 0 n
  rw [List.drop_zero, Nat.sub_zero] at this
  rw [← this, txt_data]
theorem txt_drop (s : ByteArray) (n : Nat) : txt (s.data.toList.drop n) = s.extract n s.size := by
  rw [← Sha.extract_size s n, txt_data]
theorem texts_step (s : ByteArray) (h : s.size ≠ 0) : texts s = s.extract 0 (cut s.data.toList) :: texts (s.extract (cut s.data.toList) s.size) := by
  have hne : s.data.toList ≠ [] := fun e => h (by have := congrArg List.length e; simpa using this)
  unfold texts
  rw [chunks_step _ hne, List.map_cons, txt_take, ← txt_drop, data_txt]
theorem texts_nil (s : ByteArray) (h : s.size = 0) : texts s = [] := by
  have : s.data.toList = [] := List.length_eq_zero_iff.1 (by simpa using h)
  unfold texts
  rw [this]; rfl
theorem texts_length (s : ByteArray) : (texts s).length ≤ s.size := by
  unfold texts
  rw [List.length_map]
  have := chunks_length s.data.toList
  simpa using this
theorem cut_bytes (s : ByteArray) : cut s.data.toList ≤ s.size := by have := (cut_is s.data.toList).len; simpa using this
theorem cut_some (s : ByteArray) (h : s.size ≠ 0) : 0 < cut s.data.toList := cut_pos _ (by simp; omega)
theorem empty_yes (s : ByteArray) (h : s.size = 0) : s.toList.isEmpty = true := by
  rw [ByteArray.toList_eq, List.isEmpty_iff]
  exact List.length_eq_zero_iff.1 (by simpa using h)
theorem empty_no (s : ByteArray) (h : s.size ≠ 0) : s.toList.isEmpty = false := by
  rw [ByteArray.toList_eq, List.isEmpty_eq_false_iff]
  intro e
  exact h (by have := congrArg List.length e; simpa using this)
end Go.Chunk
namespace Go.Proofs.YtigkemkebceacaaDoor
open Go.RowKit Go.Shelf Go.Chunk
attribute [local go_sem] Oper.semAt_some
theorem all_any (s : ByteArray) (w : World) : Calls Tryd.prog 42 #[.string s] w fun e w' => e = .returned (.func (.func 55) #[] #[.pointer (some ⟨w.heap.size, 0, none⟩)]) ∧ w' = w.alloc (.cells #[.string s] 9) := by
  go_enter Tryd.func42, Tryd.ntmps42
  go_wp2
  go_ret
  exact ⟨rfl, rfl⟩
theorem grown_of {w w' : World} (h : Below w.heap.size w w') : w.grownBy w' none := ⟨h.os, h.tape, h.output, h.size, fun k hk _ => h.block k hk⟩
set_option maxHeartbeats 2000000 in
theorem all_in (s : ByteArray) (bx m : Nat) (w0 : World) (hs : s.size ≤ maxLen) (hbx : w0.cell? ⟨bx, 0, none⟩ = some (.string s)) :
    SeqStopsK Fence.wide m Tryd.prog 55 #[.pointer (some ⟨bx, 0, none⟩)] (fun x : ByteArray => #[.string x]) (fun _ _ => True) (fun xs => xs = texts s) (fun pre => pre <+: texts s) (texts s).length w0 := by
  intro l J Jx W hW hJ hJx hY h0
  refine callsIn_of_wp Tryd.func55 rfl trivial ?_ rfl
  simp only [Tryd.ntmps55, List.size_toArray, List.length_cons, List.length_nil, Nat.reduceAdd, Nat.reduceSub, Array.replicate_succ, Array.replicate_zero, List.push_toArray, List.append_toArray, List.nil_append, List.cons_append]
  have hlt : bx < w0.heap.size := by
    rcases Nat.lt_or_ge bx w0.heap.size with h | h
    · exact h
    · simp [World.cell?, Array.getElem?_eq_none h] at hbx
  have hb1 : W.cell? ⟨bx, 0, none⟩ = some (.string s) := (hW.cell (p := ⟨bx, 0, none⟩) hlt).trans hbx
  have HY := hide hY
  have H0 := hide h0
  clear hY h0 hbx
  gi_wp2_with fail
  gi_loopw [3] (fun vs wr => ∃ (r : ByteArray) (pre : List ByteArray), vs = .string r ∧ r.size ≤ s.size ∧ Hid (pre ++ texts r = texts s ∧ J pre wr)) (fun vs _ => match vs with | .string r => r.size | _ => 0)
  case atStart => exact ⟨s, [], rfl, Nat.le_refl _, rfl, H0.out⟩
  case round =>
    obtain ⟨r, pre, rfl, hr, HP⟩ := hrel
    by_cases h0 : r.size = 0
    · have he := empty_yes r h0
      gi_wp2_with fail
      go_end0
      refine ⟨⟨_, rfl⟩, .inl ⟨pre, ?_, HP.out.2⟩⟩
      have := HP.out.1
      rwa [texts_nil r h0, List.append_nil] at this
    · have he := empty_no r h0
      have HCUT := hide (cut_any r wr (by omega))
      have HST := hide (texts_step r h0)
      have hc1 := cut_bytes r
      have hc2 := cut_some r h0
      have hc3 : (cut r.data.toList : Int) ≤ r.size := by omega
      generalize cut r.data.toList = n at *
      have hpl : pre.length < (texts s).length := by
        have := congrArg List.length HP.out.1
        rw [HST.out, List.length_append, List.length_cons] at this
        omega
      obtain ⟨fn, tmps, assign, body, hy, hR⟩ := HY.out pre (r.extract 0 n) wr HP.out.2 hpl
      have hn0 : (0 : Int) ≤ n := by omega
      gi_wp2_with (refine ⟨trivial, fun h => (by cases h), ?_⟩; gi_at_call 56; refine (callsIn_wide.2 HCUT.out).mono ?_; rintro e w1 ⟨rfl, hw⟩; subst hw)
      refine ⟨fun h => (by cases h), hR.mono ?_⟩
      rintro e W3 (⟨rfl, hJ3, hk3⟩ | ⟨rfl, hJx3⟩)
      · have HG := hide hJ3
        clear hJ3 hk3 hR hy
        gi_wp2_with fail
        go_roundw
        case rel =>
          refine ⟨r.extract n r.size, pre ++ [r.extract 0 n], rfl, by simp; omega, ?_, HG.out⟩
          rw [List.append_assoc, List.singleton_append, ← HST.out, HP.out.1]
        case measure => simp; omega
      · clear hR hy
        gi_wp2_with fail
        refine bodyPost_ret (results_none rfl _ _ _) rfl ?_
        refine ⟨⟨_, rfl⟩, .inr ⟨pre ++ [r.extract 0 n], ?_, hJx3⟩⟩
        rw [← HP.out.1, HST.out]
        exact ⟨texts (r.extract n r.size), by rw [List.append_assoc]; rfl⟩
theorem ciInfo9 : (Tryd.prog.info? 9).map (fun i => (i.zero, i.size, i.bytes)) = some (some (.string ⟨#[]⟩), 1, 16) := by kernel_rfl
theorem ciUnder24 : Tryd.prog.underlying 22 = some (.slice 9) := by kernel_rfl
/-- What List keeps between two rounds: a box that holds a slice of its own, with what has come. -/
structure Ls (w : World) (B : Nat) (xs : List ByteArray) (W : World) : Prop where
  box : ∃ v, Boxed W B 22 v ∧ W.ownsRow w.heap.size 9 1 v xs.length (xs.map Value.string)
  below : Below w.heap.size w W
theorem Ls.turned {w : World} {B b : Nat} {xs : List ByteArray} {W W' : World} {row : Option Nat} (h : Ls w B xs W) (hg : W.grownBy W' row) (hr : ∀ r, row = some r → b ≤ r ∧ ∃ o : Obj, W.heap[r]? = some o ∧ o.isCells = false) (hb : w.heap.size ≤ b) : Ls w B xs W' := by
  obtain ⟨v, hv, ho⟩ := h.box
  obtain ⟨v', h1, h2, _⟩ := holdsRow_own (β := Unit) w.heap.size B 22 9 1 (fun _ => xs.length) (fun _ => xs.map Value.string) (fun _ _ => True) () W W' row ⟨v, hv, ho, trivial⟩ hg (fun r e => (hr r e).2)
  exact ⟨⟨v', h1, h2⟩, h.below.grown hg h.below.size fun k e => Nat.le_trans hb (hr k e).1⟩
set_option maxHeartbeats 2000000 in
set_option maxRecDepth 100000 in
theorem list_any (s : ByteArray) (w : World) (hs : s.size ≤ 1000000) :
    Calls Tryd.prog 26 #[.string s] w fun e w' => ∃ v, e = .returned v ∧ w'.ownsRow w.heap.size 9 1 v (texts s).length ((texts s).map Value.string) ∧ Below w.heap.size w w' := by
  obtain ⟨i9, hi9, hz0, hz1, hz2⟩ := info_parts ciInfo9
  have htl := texts_length s
  refine (callsIn_wide (n := 9)).1 ?_
  refine callsIn_of_wp_marks Tryd.func26 rfl trivial ?_ rfl
  simp only [Tryd.ntmps26, List.size_toArray, List.length_cons, List.length_nil, Nat.reduceAdd, Nat.reduceSub, Array.replicate_succ, Array.replicate_zero, List.push_toArray, List.append_toArray, List.nil_append, List.cons_append]
  gi_wp2_with (refine ⟨trivial, ?_⟩; gi_at_call 42; refine (callsIn_wide.2 (all_any s _)).mono ?_; rintro e w1 ⟨rfl, rfl⟩)
  have c3 := (Boxed.new (w.alloc (.cells #[.slice none 0 0] 22)) 9 (.string s)).cell
  simp only [World.size_alloc] at c3
  refine wpIn_rangeFunc_ownF rfl (by decide) (gf := 55) (lb := #[.pointer (some ⟨w.heap.size + 1, 0, none⟩)]) rfl trivial (enters_of Tryd.func55 (by kernel_rfl) rfl)
    (all_in s (w.heap.size + 1) 8 _ (by unfold maxLen; omega) c3) (fun _ _ => trivial) (fun _ _ _ _ _ _ _ _ => trivial) (Below.refl _ _) (fun _ => rfl)
    (fun pre W => Ls w w.heap.size pre W)
    (fun c pre W => False)
    (fun s A B row hs hg hr => hs.turned hg hr (by simp; omega))
    (fun c s A B row hs hg hr => hs)
    ⟨⟨.slice none 0 0, ((Boxed.new w 22 _).alloc _), World.ownsRow_nil _ _ _ _⟩, ((Below.refl _ w).alloc (Nat.le_refl _) _).alloc (by simp) _⟩
    (fun x => { tmps := #[.string s, undef, .slice none 0 0, .pointer (some ⟨w.heap.size, 0, none⟩), .string x, .string s, .func (.func 55) #[] #[.pointer (some ⟨w.heap.size + 1, 0, none⟩)], .string x, undef, undef, undef, undef, undef], defers := [] }) ?assign ?body ?done ?stop
  case assign =>
    intro l x W K hK
    gi_wp2
    exact hK
  case body =>
    rintro l pre x W hL hlen
    obtain ⟨v, hv, hrow⟩ := hL.box
    have q0 := hv.cell
    have f0 := hv.frozen
    obtain ⟨va, vc, rfl⟩ : ∃ a c, v = .slice a pre.length c := by
      rcases hrow.2 with ⟨h1, h2⟩ | ⟨g, cap, cur, h1, _⟩
      · exact ⟨none, 0, by rw [h1, h2]⟩
      · exact ⟨_, _, h1⟩
    have HL := hide hL
    have HR := hide hrow
    have HV := hide hv
    clear hL hrow hv
    gi_wp2_with (gi_at_builtin; refine wpListIn_append_own _ rfl _ _ 22 rfl w.heap.size 9 i9 (.string ⟨#[]⟩) 1 16 ciUnder24 hi9 hz0 hz1 hz2 rfl (by decide) _ _ _ rfl (HR.out.alloc _) ⟨W.heap.size, 0, none⟩ 1 1 [.string x] rfl rfl (cell_one_new _ _ _) ?a2 ?a3 ?a4 ?a5 ?_)
    case a2 => intro u hu; simp at hu; subst hu; rfl
    case a3 => unfold maxLen; omega
    case a4 => omega
    case a5 => have h1 := HL.out.below.size; simp; omega
    intro v' w3 hown hgrow _
    obtain ⟨g, cap, rfl⟩ := ownsRow_succ hown
    have hsz := HL.out.below.size
    obtain ⟨b1, b2, b3, b4, b5⟩ := Boxed.appended HV.out (by decide) HR.out hsz (Nat.le_refl _) hown hgrow
    have t0 := b1.cell
    have g0 := b1.frozen
    have HB := hide (And.intro b2 (And.intro b3 (And.intro b4 b5)))
    clear b1 b2 b3 b4 b5 hown hgrow q0 f0
    gi_wp2_with fail
    refine ⟨HB.out.2.2.1, trivial, ⟨⟨_, HB.out.1, ?_⟩, HL.out.below.trans HB.out.2.2.2⟩⟩
    have h := HB.out.2.1
    rw [List.length_append, List.map_append]
    exact h
  case done =>
    rintro D ys W hD rfl hL hK
    obtain ⟨v, hv, hrow⟩ := hL.box
    have q0 := hv.cell
    have f0 := hv.frozen
    obtain ⟨va, vc, rfl⟩ : ∃ a c, v = .slice a (texts s).length c := by
      rcases hrow.2 with ⟨h1, h2⟩ | ⟨g, cap, cur, h1, _⟩
      · exact ⟨none, 0, by rw [h1, h2]⟩
      · exact ⟨_, _, h1⟩
    have HL := hide hL
    have HR := hide hrow
    have HV := hide hv
    clear hL hrow hv
    gi_wp2
    refine ⟨by simp, .inl ⟨_, _, rfl, run_takeDeferred hK, ?_⟩⟩
    have HL' := hide (HL.out.turned (grownBy_putObj' _ D (.deferred none)) (fun r e => by cases e; exact ⟨hD, _, hK, rfl⟩) (by simp; omega))
    refine ⟨.slice va (texts s).length vc, ?_, _, rfl, ownsRow_putObj HR.out _ hK rfl, HL'.out.below⟩
    simp [results, Tryd.f26, go_sem]
  case stop => rintro D c pre W hD hpre h hK; exact h.elim
theorem own_ge {W : World} {base : Nat} {v : Value} {k j : Nat} {xs : List Value} (h : W.ownsRow base 9 1 v k xs) (e : v.ownBlock = some j) : base ≤ j := by
  rcases h.2 with ⟨rfl, _⟩ | ⟨g, cap, cur, rfl, h1, _⟩
  · simp [Value.ownBlock] at e
  · obtain rfl : g = j := by simpa [Value.ownBlock] using e
    exact h1
theorem own_slice {W : World} {base e : Nat} {v : Value} {k : Nat} {xs : List Value} (h : W.ownsRow base e 1 v k xs) : ∃ a c, v = .slice a k c := by
  rcases h.2 with ⟨h1, h2⟩ | ⟨g, cap, cur, h1, _⟩
  · exact ⟨none, 0, by rw [h1, h2]⟩
  · exact ⟨_, _, h1⟩
end Go.Proofs.YtigkemkebceacaaDoor
/- How many chunks some bytes have, and how long they are (as in MerkleFilesWalk and MerkleAwake, for seats without these). -/
namespace Go.Chunk
theorem chunks_few (l : Bs) : 32 * (chunks l).length ≤ l.length + 31 := by
  refine chunks_ind (P := fun l => 32 * (chunks l).length ≤ l.length + 31) (by decide) (fun l h ih => ?_) l
  have hp := List.length_pos_iff.2 h
  rw [chunks_step l h, List.length_cons]
  rw [List.length_drop] at ih
  by_cases hc : cut l < l.length
  · have := cut_min l hc; omega
  · have he : l.drop (cut l) = [] := List.drop_eq_nil_iff.2 (by omega)
    rw [he]
    show 32 * (0 + 1) ≤ _
    omega
theorem chunks_most (l : Bs) : l.length ≤ 512 * (chunks l).length := by
  refine chunks_ind (P := fun l => l.length ≤ 512 * (chunks l).length) (Nat.zero_le _) (fun l h ih => ?_) l
  have := (cut_is l).most
  rw [chunks_step l h, List.length_cons]
  rw [List.length_drop] at ih
  omega
theorem texts_few (s : ByteArray) : 32 * (texts s).length ≤ s.size + 31 := by
  have := chunks_few s.data.toList
  unfold texts
  rw [List.length_map]
  simpa using this
theorem texts_most (s : ByteArray) : s.size ≤ 512 * (texts s).length := by
  have := chunks_most s.data.toList
  unfold texts
  rw [List.length_map]
  simpa using this
theorem texts_size (s : ByteArray) : ∀ x ∈ texts s, x.size ≤ 512 := by
  unfold texts
  refine chunks_ind (P := fun l => ∀ x ∈ (chunks l).map txt, x.size ≤ 512) (fun x hx => by rw [show chunks [] = [] from rfl] at hx; cases hx) (fun l h ih => ?_) s.data.toList
  intro x hx
  rw [chunks_step l h, List.map_cons] at hx
  rcases List.mem_cons.1 hx with rfl | hx
  · have := (cut_is l).most
    show (l.take (cut l)).toArray.size ≤ 512
    rw [List.size_toArray, List.length_take]
    omega
  · exact ih x hx
theorem texts_short (s : ByteArray) (h1 : s.size ≠ 0) (h2 : s.size ≤ 32) : texts s = [s] := by
  rw [texts_step s h1]
  have hc : cut s.data.toList = s.size := by rw [cut_short _ (by simpa using h2)]; simp
  rw [hc, texts_nil _ (by simp)]
  congr 1
  have := txt_take s s.size
  rw [← this, List.take_of_length_le (by simp), txt_data]
end Go.Chunk
