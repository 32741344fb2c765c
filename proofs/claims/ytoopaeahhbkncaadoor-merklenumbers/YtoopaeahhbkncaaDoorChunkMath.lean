/- Plain facts on chunks: a byte's number, the sum that says where a chunk ends, the first chunk, all chunks; no program text is named here. -/
import Derived.Test.YtoopaeahhbkncaaDoorPureSha
namespace Go.Chunk
abbrev Bs := List UInt8
def two64 : Int := 18446744073709551616
/-- A byte's number. -/
def mixA (x : Int) : Int := IntKind.u64.wrap (x * 11400714819323198485)
def mixB (x : Int) : Int := IntKind.u64.wrap (bits .xor .u64 x (x / 1073741824) * 13787848793156543929)
def mixC (x : Int) : Int := IntKind.u64.wrap (bits .xor .u64 x (x / 134217728) * 10723151780598845931)
def mixD (x : Int) : Int := bits .xor .u64 x (x / 2147483648)
def gear (c : UInt8) : Int := mixD (mixC (mixB (mixA ((c.toNat : Int) + 1))))
theorem wrap_lt (x : Int) : 0 ≤ IntKind.u64.wrap x ∧ IntKind.u64.wrap x < 18446744073709551616 := by
  rw [IntKind.wrap_u64]; omega
theorem xor_lt (x y : Int) : 0 ≤ bits .xor .u64 x y ∧ bits .xor .u64 x y < 18446744073709551616 := wrap_lt _
theorem gear_lt (c : UInt8) : 0 ≤ gear c ∧ gear c < 18446744073709551616 := xor_lt _ _
/-- A product by parts of 32 bits. -/
theorem times_parts (a b : Int) (ha : 0 ≤ a ∧ a < 18446744073709551616) (hb : 0 ≤ b ∧ b < 18446744073709551616) :
    IntKind.u64.wrap (IntKind.u64.wrap (a.tmod 4294967296 * b.tmod 4294967296) + IntKind.u64.wrap ((IntKind.u64.wrap (IntKind.u64.wrap (a.tmod 4294967296 * IntKind.u64.wrap (b.tdiv 4294967296)) + IntKind.u64.wrap (IntKind.u64.wrap (a.tdiv 4294967296) * b.tmod 4294967296))).tmod 4294967296 * 4294967296)) = IntKind.u64.wrap (a * b) := by
  have e1 : a.tmod 4294967296 = a % 4294967296 := Int.tmod_eq_emod_of_nonneg ha.1
  have e2 : b.tmod 4294967296 = b % 4294967296 := Int.tmod_eq_emod_of_nonneg hb.1
  have e3 : a.tdiv 4294967296 = a / 4294967296 := Int.tdiv_eq_ediv_of_nonneg ha.1
  have e4 : b.tdiv 4294967296 = b / 4294967296 := Int.tdiv_eq_ediv_of_nonneg hb.1
  rw [e1, e2, e3, e4]
  have e5 : ∀ x, (IntKind.u64.wrap x).tmod 4294967296 = IntKind.u64.wrap x % 4294967296 := fun x => Int.tmod_eq_emod_of_nonneg (wrap_lt x).1
  rw [e5]
  simp only [IntKind.wrap_u64]
  have e6 : a / 4294967296 % 18446744073709551616 = a / 4294967296 := by omega
  have e7 : b / 4294967296 % 18446744073709551616 = b / 4294967296 := by omega
  rw [e6, e7]
  generalize hl : a % 4294967296 = lo
  generalize hp : b % 4294967296 = p
  generalize hh : a / 4294967296 = hi
  generalize hq : b / 4294967296 = q
  have ea : a = lo + hi * 4294967296 := by omega
  have eb : b = p + q * 4294967296 := by omega
  have eab : a * b = lo * p + (lo * q + hi * p) * 4294967296 + (hi * q) * 18446744073709551616 := by
    rw [ea, eb, Int.add_mul, Int.mul_add, Int.mul_add, Int.add_mul]
    have x1 : lo * (q * 4294967296) = lo * q * 4294967296 := by rw [Int.mul_assoc]
    have x2 : hi * 4294967296 * p = hi * p * 4294967296 := by rw [Int.mul_assoc, Int.mul_comm 4294967296 p, Int.mul_assoc]
    have x3 : hi * 4294967296 * (q * 4294967296) = hi * q * 18446744073709551616 := by
      rw [Int.mul_assoc, Int.mul_left_comm 4294967296 q, Int.mul_assoc hi q]; congr 2
    rw [x1, x2, x3]
    omega
  rw [eab]
  generalize lo * p = P
  generalize lo * q = Q
  generalize hi * p = R
  generalize hi * q = T
  omega
/-- The sum behind bytes. -/
def roll (l : Bs) : Int := l.foldl (fun h c => IntKind.u64.wrap (IntKind.u64.wrap (2 * h) + gear c)) 0
theorem roll_snoc (l : Bs) (c : UInt8) : roll (l ++ [c]) = IntKind.u64.wrap (IntKind.u64.wrap (2 * roll l) + gear c) := by
  unfold roll; rw [List.foldl_append]; rfl
theorem roll_lt (l : Bs) : 0 ≤ roll l ∧ roll l < 18446744073709551616 := by
  rcases List.eq_nil_or_concat l with rfl | ⟨r, c, rfl⟩
  · exact ⟨by decide, by decide⟩
  · rw [List.concat_eq_append, roll_snoc]; exact wrap_lt _
theorem take_snoc' (l : Bs) (k : Nat) (h : k < l.length) : l.take (k + 1) = l.take k ++ [l[k]] := List.take_succ_eq_append_getElem h
/-- The document's sum: the last m bytes of the first n, the last one first, each as often doubled as bytes stand behind it. -/
def wt : Nat → Int
  | 0 => 1
  | m + 1 => IntKind.u64.wrap (wt m + wt m)
theorem wt_lt (m : Nat) : 0 ≤ wt m ∧ wt m < 18446744073709551616 := by
  cases m with
  | zero => exact ⟨by decide, by decide⟩
  | succ m => exact wrap_lt _
theorem wt_64 : wt 64 = 0 := by decide +kernel
def acc (l : Bs) (n : Nat) : Nat → Int
  | 0 => 0
  | m + 1 => IntKind.u64.wrap (acc l n m + IntKind.u64.wrap (gear (l.getD (n - 1 - m) 0) * wt m))
theorem acc_lt (l : Bs) (n m : Nat) : 0 ≤ acc l n m ∧ acc l n m < 18446744073709551616 := by
  cases m with
  | zero => exact ⟨Int.le_refl 0, (by decide : (0 : Int) < 18446744073709551616)⟩
  | succ m => exact wrap_lt _
theorem acc_roll (l : Bs) (n : Nat) (hn : n ≤ l.length) : ∀ m, m ≤ n → (acc l n m + wt m * roll (l.take (n - m))) % 18446744073709551616 = roll (l.take n) := by
  intro m
  induction m with
  | zero =>
    intro _
    have := roll_lt (l.take n)
    simp only [acc, wt, Nat.sub_zero]
    omega
  | succ m ih =>
    intro hm
    have h1 := ih (by omega)
    have e : n - m = n - (m + 1) + 1 := by omega
    have hlt : n - (m + 1) < l.length := by omega
    rw [e, take_snoc' l _ hlt, roll_snoc] at h1
    have eg : l.getD (n - 1 - m) 0 = l[n - (m + 1)] := by
      rw [List.getD_eq_getElem?_getD, show n - 1 - m = n - (m + 1) by omega, List.getElem?_eq_getElem hlt]; rfl
    rw [← h1]
    simp only [acc, wt, eg, IntKind.wrap_u64]
    generalize gear l[n - (m + 1)] = g
    generalize roll (l.take (n - (m + 1))) = h
    generalize acc l n m = a
    generalize wt m = t
    have k1 : t * ((2 * h % 18446744073709551616 + g) % 18446744073709551616) % 18446744073709551616 = (2 * (t * h) + g * t) % 18446744073709551616 := by
      rw [Int.mul_emod, Int.emod_emod_of_dvd _ (Int.dvd_refl _), Int.emod_add_emod, ← Int.mul_emod, Int.mul_add]
      congr 2
      · rw [Int.mul_left_comm]
      · exact Int.mul_comm _ _
    have k2 : (t + t) % 18446744073709551616 * h % 18446744073709551616 = (2 * (t * h)) % 18446744073709551616 := by
      rw [Int.mul_emod, Int.emod_emod_of_dvd _ (Int.dvd_refl _), ← Int.mul_emod]
      congr 1
      rw [Int.add_mul]; omega
    generalize t * ((2 * h % 18446744073709551616 + g) % 18446744073709551616) = X at k1 ⊢
    generalize (t + t) % 18446744073709551616 * h = Y at k2 ⊢
    generalize t * h = Z at k1 k2
    generalize g * t = G at k1 ⊢
    omega
/-- The document's sum is the program's. -/
theorem acc_all (l : Bs) (n m : Nat) (hn : n ≤ l.length) (hm : m = min n 64) : acc l n m = roll (l.take n) := by
  have h1 := acc_roll l n hn m (by omega)
  have h2 := acc_lt l n m
  by_cases h : n ≤ 64
  · have : m = n := by omega
    subst this
    rw [Nat.sub_self, List.take_zero, show roll [] = 0 from rfl, Int.mul_zero] at h1
    omega
  · have : m = 64 := by omega
    subst this
    rw [wt_64, Int.zero_mul] at h1
    omega
/-- Whether a chunk may end behind n bytes. -/
def stop (l : Bs) (n : Nat) : Bool := decide (roll (l.take n) / 4294967296 % 128 = 0)
structure IsCut (l : Bs) (m : Nat) : Prop where
  len : m ≤ l.length
  most : m ≤ 512
  none : ∀ n, 32 ≤ n → n < m → stop l n = false
  ends : m = l.length ∨ m = 512 ∨ (32 ≤ m ∧ stop l m = true)
theorem IsCut.unique {l : Bs} {m n : Nat} (h : IsCut l m) (k : IsCut l n) : m = n := by
  rcases Nat.lt_trichotomy m n with hlt | rfl | hlt
  · have h1 := k.len
    have h2 := k.most
    rcases h.ends with h3 | h3 | ⟨h3, h4⟩
    · omega
    · omega
    · rw [k.none m h3 hlt] at h4; cases h4
  · rfl
  · have h1 := h.len
    have h2 := h.most
    rcases k.ends with h3 | h3 | ⟨h3, h4⟩
    · omega
    · omega
    · rw [h.none n h3 hlt] at h4; cases h4
def cutFrom (l : Bs) : Nat → Nat → Nat
  | 0, n => n
  | k + 1, n => if 32 ≤ n ∧ stop l n = true then n else cutFrom l k (n + 1)
/-- How many bytes the first chunk has. -/
def cut (l : Bs) : Nat := cutFrom l (min l.length 512) 0
theorem cutFrom_is (l : Bs) : ∀ k n, n + k = min l.length 512 → (∀ j, 32 ≤ j → j < n → stop l j = false) → IsCut l (cutFrom l k n) := by
  intro k
  induction k with
  | zero => intro n h1 h2; unfold cutFrom; exact ⟨by omega, by omega, h2, by omega⟩
  | succ k ih =>
    intro n h1 h2
    unfold cutFrom
    split
    · rename_i h; exact ⟨by omega, by omega, h2, .inr (.inr h)⟩
    · rename_i h
      refine ih (n + 1) (by omega) fun j hj hjn => ?_
      by_cases e : j = n
      · subst e
        cases hs : stop l j with
        | false => rfl
        | true => exact absurd ⟨hj, hs⟩ h
      · exact h2 j hj (by omega)
theorem cut_is (l : Bs) : IsCut l (cut l) := cutFrom_is l _ 0 (by omega) fun j _ h => absurd h (Nat.not_lt_zero _)
theorem cut_eq {l : Bs} {m : Nat} (h : IsCut l m) : cut l = m := (cut_is l).unique h
theorem cut_pos (l : Bs) (h : 0 < l.length) : 0 < cut l := by
  rcases (cut_is l).ends with h1 | h1 | ⟨h1, _⟩ <;> omega
theorem cut_short (l : Bs) (h : l.length ≤ 32) : cut l = l.length := cut_eq ⟨Nat.le_refl _, by omega, fun n h1 h2 => by omega, .inl rfl⟩
theorem cut_min (l : Bs) (h : cut l < l.length) : 32 ≤ cut l := by
  rcases (cut_is l).ends with h1 | h1 | ⟨h1, _⟩ <;> omega
theorem stop_take (l r : Bs) (n : Nat) (h : l.take n = r.take n) : stop l n = stop r n := by unfold stop; rw [h]
/-- A chunk of fewer than the most bytes, that is not the last one, ends there with whatever stands behind it. -/
theorem cut_again (l r : Bs) (h1 : cut l < l.length) (h2 : cut l < 512) : cut (l.take (cut l) ++ r) = cut l := by
  have k := cut_is l
  have hl : (l.take (cut l)).length = cut l := List.length_take_of_le (by omega)
  have ht : ∀ n, n ≤ cut l → (l.take (cut l) ++ r).take n = l.take n := fun n hn => by
    rw [List.take_append_of_le_length (by omega), List.take_take, Nat.min_eq_left hn]
  refine cut_eq ⟨by rw [List.length_append, hl]; omega, k.most, fun n a b => ?_, .inr (.inr ?_)⟩
  · rw [stop_take _ l n (ht n (by omega))]; exact k.none n a b
  · rcases k.ends with h | h | ⟨h, h'⟩
    · omega
    · omega
    · exact ⟨h, by rw [stop_take _ l _ (ht _ (Nat.le_refl _))]; exact h'⟩
/-- The last 64 bytes alone say whether a chunk may end. -/
theorem roll_last (a t : Bs) (n : Nat) (h1 : 64 ≤ n) (h2 : n ≤ t.length) : roll ((a ++ t).take (a.length + n)) = roll (t.take n) := by
  have e1 := acc_all (a ++ t) (a.length + n) 64 (by rw [List.length_append]; omega) (by omega)
  have e2 := acc_all t n 64 h2 (by omega)
  rw [← e1, ← e2]
  have : ∀ m, m ≤ 64 → acc (a ++ t) (a.length + n) m = acc t n m := by
    intro m
    induction m with
    | zero => intro _; rfl
    | succ m ih =>
      intro hm
      simp only [acc]
      have e : (a ++ t).getD (a.length + n - 1 - m) 0 = t.getD (n - 1 - m) 0 := by
        rw [List.getD_eq_getElem?_getD, List.getD_eq_getElem?_getD, List.getElem?_append_right (by omega), show a.length + n - 1 - m - a.length = n - 1 - m by omega]
      rw [ih (by omega), e]
  exact this 64 (Nat.le_refl _)
theorem cut_ahead (a t : Bs) (h1 : 64 < cut t) (h2 : cut t < t.length) (h3 : a.length + cut t < 512) : cut (a ++ t) ≤ a.length + cut t := by
  have k := cut_is t
  rcases Nat.lt_or_ge (a.length + cut t) (cut (a ++ t)) with h | h
  · exfalso
    have h4 := (cut_is (a ++ t)).none (a.length + cut t) (by omega) h
    rcases k.ends with h5 | h5 | ⟨_, h5⟩
    · omega
    · omega
    · unfold stop at h4 h5
      rw [roll_last a t (cut t) (by omega) (by omega), h5] at h4
      cases h4
  · exact h
/-- The chunks. -/
def chunksN : Nat → Bs → List Bs
  | 0, _ => []
  | k + 1, l => if l = [] then [] else l.take (cut l) :: chunksN k (l.drop (cut l))
def chunks (l : Bs) : List Bs := chunksN l.length l
theorem chunksN_more : ∀ (k j : Nat) (l : Bs), l.length ≤ k → l.length ≤ j → chunksN k l = chunksN j l := by
  intro k
  induction k with
  | zero =>
    intro j l h _
    have : l = [] := List.length_eq_zero_iff.1 (by omega)
    subst this
    cases j with
    | zero => rfl
    | succ j => simp [chunksN]
  | succ k ih =>
    intro j l h1 h2
    cases j with
    | zero =>
      have : l = [] := List.length_eq_zero_iff.1 (by omega)
      subst this
      simp [chunksN]
    | succ j =>
      simp only [chunksN]
      split
      · rfl
      · rename_i hl
        have := cut_pos l (List.length_pos_iff.2 hl)
        rw [ih j (l.drop (cut l)) (by rw [List.length_drop]; omega) (by rw [List.length_drop]; omega)]
theorem chunks_nil : chunks [] = [] := rfl
theorem chunks_step (l : Bs) (h : l ≠ []) : chunks l = l.take (cut l) :: chunks (l.drop (cut l)) := by
  have hp := List.length_pos_iff.2 h
  have hc := cut_pos l hp
  unfold chunks
  obtain ⟨k, hk⟩ : ∃ k, l.length = k + 1 := ⟨l.length - 1, by omega⟩
  rw [hk]
  simp only [chunksN, if_neg h]
  rw [chunksN_more k (l.drop (cut l)).length _ (by rw [List.length_drop]; omega) (Nat.le_refl _)]
theorem chunks_ind {P : Bs → Prop} (h0 : P []) (h1 : ∀ l, l ≠ [] → P (l.drop (cut l)) → P l) : ∀ l, P l := by
  have : ∀ n, ∀ l : Bs, l.length ≤ n → P l := by
    intro n
    induction n with
    | zero => intro l h; have : l = [] := List.length_eq_zero_iff.1 (by omega); subst this; exact h0
    | succ n ih =>
      intro l h
      by_cases hl : l = []
      · subst hl; exact h0
      · have hp := List.length_pos_iff.2 hl
        have := cut_pos l hp
        exact h1 l hl (ih _ (by rw [List.length_drop]; omega))
  exact fun l => this l.length l (Nat.le_refl _)
theorem chunks_flat (l : Bs) : (chunks l).flatten = l := by
  refine chunks_ind (P := fun l => (chunks l).flatten = l) rfl (fun l h ih => ?_) l
  show (chunks l).flatten = l
  rw [chunks_step l h, List.flatten_cons, ih, List.take_append_drop]
theorem chunks_length (l : Bs) : (chunks l).length ≤ l.length := by
  refine chunks_ind (P := fun l => (chunks l).length ≤ l.length) (Nat.le_refl _) (fun l h ih => ?_) l
  have hp := List.length_pos_iff.2 h
  have := cut_pos l hp
  show (chunks l).length ≤ _
  rw [chunks_step l h, List.length_cons]
  rw [List.length_drop] at ih
  omega
theorem chunks_ne (l : Bs) (h : l ≠ []) : chunks l ≠ [] := by rw [chunks_step l h]; exact List.cons_ne_nil _ _
/-- What each chunk is. -/
theorem chunks_each (l : Bs) : ∀ (i : Nat) (c : Bs), (chunks l)[i]? = some c → 1 ≤ c.length ∧ c.length ≤ 512 ∧ (i + 1 < (chunks l).length → 32 ≤ c.length ∧ (c.length < 512 → ∀ r, cut (c ++ r) = c.length)) := by
  refine chunks_ind (P := fun l => ∀ (i : Nat) (c : Bs), (chunks l)[i]? = some c → 1 ≤ c.length ∧ c.length ≤ 512 ∧ (i + 1 < (chunks l).length → 32 ≤ c.length ∧ (c.length < 512 → ∀ r, cut (c ++ r) = c.length))) ?_ (fun l h ih => ?_) l
  · intro i c hc; simp [chunks_nil] at hc
  · intro i c hc
    have hp := List.length_pos_iff.2 h
    have hcp := cut_pos l hp
    have k := cut_is l
    rw [chunks_step l h] at hc ⊢
    cases i with
    | zero =>
      simp only [List.getElem?_cons_zero, Option.some.injEq] at hc
      subst hc
      have hl : (l.take (cut l)).length = cut l := List.length_take_of_le k.len
      rw [hl]
      refine ⟨hcp, k.most, fun hi => ?_⟩
      have hlt : cut l < l.length := by
        rcases Nat.lt_or_ge (cut l) l.length with h' | h'
        · exact h'
        · rw [List.drop_eq_nil_of_le h', chunks_nil] at hi; simp at hi
      exact ⟨cut_min l hlt, fun h512 r => cut_again l r hlt h512⟩
    | succ i =>
      simp only [List.getElem?_cons_succ] at hc
      obtain ⟨h1, h2, h3⟩ := ih i c hc
      exact ⟨h1, h2, fun hi => h3 (by simp only [List.length_cons] at hi; omega)⟩
end Go.Chunk
