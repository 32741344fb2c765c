/- Files' digests by trees, of no program: where a list is cut, roots, ways up, shares. -/
import Derived.Test.YtoopaeahhbkncaaDoorPureSha
import Derived.Test.YtoopaeahhbkncaaDoorWirePure
namespace Go.Mk
/-- The digest of parts for a purpose. -/
def tag (p : UInt8) (xs : List ByteArray) : ByteArray := ⟨(Sha.sum (Sha.parts p (xs.map fun s => s.data.toList))).toArray⟩
theorem tag_size (p : UInt8) (xs : List ByteArray) : (tag p xs).size = 32 := by
  show (Sha.sum _).toArray.size = 32
  rw [List.size_toArray, Sha.sum_length]
/-- The greatest power of two below n. -/
def kc (n : Nat) : Nat := 2 ^ Nat.log2 (n - 1)
theorem kc_pos (n : Nat) : 1 ≤ kc n := Nat.one_le_two_pow
theorem kc_lt {n : Nat} (h : 2 ≤ n) : kc n < n := by
  have := Nat.log2_self_le (n := n - 1) (by omega)
  unfold kc; omega
theorem kc_half {n : Nat} (h : 2 ≤ n) : n ≤ 2 * kc n := by
  have := Nat.lt_log2_self (n := n - 1)
  unfold kc
  rw [Nat.pow_succ] at this; omega
theorem kc_is {n j : Nat} (h : 2 ≤ n) (h1 : 2 ^ j < n) (h2 : n ≤ 2 * 2 ^ j) : 2 ^ j = kc n := by
  unfold kc
  rw [(Nat.log2_eq_iff (n := n - 1) (k := j) (by omega)).2 ⟨by omega, by rw [Nat.pow_succ]; omega⟩]
/-- The root, reckoned in so many steps at most. -/
def rootF : Nat → List ByteArray → ByteArray
  | 0, _ => tag 69 []
  | f + 1, l => if 2 ≤ l.length then tag 74 [rootF f (l.take (kc l.length)), rootF f (l.drop (kc l.length))] else match l with
    | x :: _ => x
    | [] => tag 69 []
theorem rootF_same : ∀ (f g : Nat) (l : List ByteArray), l.length ≤ f → l.length ≤ g → rootF f l = rootF g l
  | 0, 0, _, _, _ => rfl
  | 0, _ + 1, l, h, _ => by
    obtain rfl : l = [] := List.length_eq_zero_iff.1 (by omega)
    rfl
  | _ + 1, 0, l, _, h => by
    obtain rfl : l = [] := List.length_eq_zero_iff.1 (by omega)
    rfl
  | f + 1, g + 1, l, h1, h2 => by
    unfold rootF
    by_cases h : 2 ≤ l.length
    · have k1 := kc_pos l.length
      have k2 := kc_lt h
      rw [if_pos h, if_pos h, rootF_same f g (l.take (kc l.length)) (by rw [List.length_take]; omega) (by rw [List.length_take]; omega), rootF_same f g (l.drop (kc l.length)) (by rw [List.length_drop]; omega) (by rw [List.length_drop]; omega)]
    · rw [if_neg h, if_neg h]
def root (l : List ByteArray) : ByteArray := rootF l.length l
theorem root_nil : root [] = tag 69 [] := rfl
theorem root_one (x : ByteArray) : root [x] = x := rfl
theorem root_more (l : List ByteArray) (h : 2 ≤ l.length) : root l = tag 74 [root (l.take (kc l.length)), root (l.drop (kc l.length))] := by
  have k1 := kc_pos l.length
  have k2 := kc_lt h
  obtain ⟨f, hf⟩ : ∃ f, l.length = f + 1 := ⟨l.length - 1, by omega⟩
  have e : root l = rootF (f + 1) l := rootF_same _ _ l (Nat.le_refl _) (by omega)
  rw [e]
  unfold rootF
  rw [if_pos h]
  unfold root
  rw [rootF_same f _ (l.take (kc l.length)) (by rw [List.length_take]; omega) (Nat.le_refl _), rootF_same f _ (l.drop (kc l.length)) (by rw [List.length_drop]; omega) (Nat.le_refl _)]
theorem root_size (l : List ByteArray) (h : ∀ x ∈ l, x.size = 32) : (root l).size = 32 := by
  by_cases h2 : 2 ≤ l.length
  · rw [root_more l h2]; exact tag_size _ _
  · match l, h with
    | [], _ => rw [root_nil]; exact tag_size _ _
    | [x], h => rw [root_one]; exact h x (by simp)
    | _ :: _ :: _, _ => exact absurd (by simp) h2
/-- The digests beside the way up from a place. -/
def pathF : Nat → List ByteArray → Nat → List ByteArray
  | 0, _, _ => []
  | f + 1, l, i =>
    if 2 ≤ l.length then
      if i < kc l.length then pathF f (l.take (kc l.length)) i ++ [root (l.drop (kc l.length))]
      else pathF f (l.drop (kc l.length)) (i - kc l.length) ++ [root (l.take (kc l.length))]
    else []
theorem pathF_same : ∀ (f g : Nat) (l : List ByteArray) (i : Nat), l.length ≤ f → l.length ≤ g → pathF f l i = pathF g l i
  | 0, 0, _, _, _, _ => rfl
  | 0, _ + 1, l, _, h, _ => by
    obtain rfl : l = [] := List.length_eq_zero_iff.1 (by omega)
    rfl
  | _ + 1, 0, l, _, _, h => by
    obtain rfl : l = [] := List.length_eq_zero_iff.1 (by omega)
    rfl
  | f + 1, g + 1, l, i, h1, h2 => by
    unfold pathF
    by_cases h : 2 ≤ l.length
    · have k1 := kc_pos l.length
      have k2 := kc_lt h
      rw [if_pos h, if_pos h, pathF_same f g (l.take (kc l.length)) i (by rw [List.length_take]; omega) (by rw [List.length_take]; omega), pathF_same f g (l.drop (kc l.length)) (i - kc l.length) (by rw [List.length_drop]; omega) (by rw [List.length_drop]; omega)]
    · rw [if_neg h, if_neg h]
def path (l : List ByteArray) (i : Nat) : List ByteArray := pathF l.length l i
theorem path_step (l : List ByteArray) (i : Nat) (h : 2 ≤ l.length) : path l i = if i < kc l.length then path (l.take (kc l.length)) i ++ [root (l.drop (kc l.length))] else path (l.drop (kc l.length)) (i - kc l.length) ++ [root (l.take (kc l.length))] := by
  have k1 := kc_pos l.length
  have k2 := kc_lt h
  obtain ⟨f, hf⟩ : ∃ f, l.length = f + 1 := ⟨l.length - 1, by omega⟩
  have e : path l i = pathF (f + 1) l i := pathF_same _ _ l i (Nat.le_refl _) (by omega)
  rw [e]
  unfold pathF
  rw [if_pos h]
  unfold path
  rw [pathF_same f _ (l.take (kc l.length)) i (by rw [List.length_take]; omega) (Nat.le_refl _), pathF_same f _ (l.drop (kc l.length)) (i - kc l.length) (by rw [List.length_drop]; omega) (Nat.le_refl _)]
theorem path_few (l : List ByteArray) (i : Nat) (h : l.length < 2) : path l i = [] := by
  match l, h with
  | [], _ => rfl
  | [_], _ => rfl
theorem path_left (l : List ByteArray) (i : Nat) (h : 2 ≤ l.length) (hi : i < kc l.length) : path l i = path (l.take (kc l.length)) i ++ [root (l.drop (kc l.length))] := by rw [path_step l i h, if_pos hi]
theorem path_right (l : List ByteArray) (i : Nat) (h : 2 ≤ l.length) (hi : ¬ i < kc l.length) : path l i = path (l.drop (kc l.length)) (i - kc l.length) ++ [root (l.take (kc l.length))] := by rw [path_step l i h, if_neg hi]
/-- How many steps it is up. -/
def wayF : Nat → Nat → Nat → Nat
  | 0, _, _ => 0
  | f + 1, i, n => if 2 ≤ n then (if i < kc n then 1 + wayF f i (kc n) else 1 + wayF f (i - kc n) (n - kc n)) else 0
theorem wayF_same : ∀ (f g i n : Nat), n ≤ f → n ≤ g → wayF f i n = wayF g i n
  | 0, 0, _, _, _, _ => rfl
  | 0, _ + 1, _, n, h, _ => by
    obtain rfl : n = 0 := by omega
    rfl
  | _ + 1, 0, _, n, _, h => by
    obtain rfl : n = 0 := by omega
    rfl
  | f + 1, g + 1, i, n, h1, h2 => by
    unfold wayF
    by_cases h : 2 ≤ n
    · have k1 := kc_pos n
      have k2 := kc_lt h
      rw [if_pos h, if_pos h, wayF_same f g i (kc n) (by omega) (by omega), wayF_same f g (i - kc n) (n - kc n) (by omega) (by omega)]
    · rw [if_neg h, if_neg h]
def way (i n : Nat) : Nat := wayF n i n
theorem way_step (i n : Nat) (h : 2 ≤ n) : way i n = if i < kc n then 1 + way i (kc n) else 1 + way (i - kc n) (n - kc n) := by
  have k1 := kc_pos n
  have k2 := kc_lt h
  obtain ⟨f, rfl⟩ : ∃ f, n = f + 1 := ⟨n - 1, by omega⟩
  show wayF (f + 1) i (f + 1) = _
  unfold wayF
  rw [if_pos h]
  unfold way
  rw [wayF_same f _ i (kc (f + 1)) (by omega) (Nat.le_refl _), wayF_same f _ (i - kc (f + 1)) (f + 1 - kc (f + 1)) (by omega) (Nat.le_refl _)]
theorem way_one (i n : Nat) (h : n < 2) : way i n = 0 := by
  match n, h with
  | 0, _ => rfl
  | 1, _ => rfl
theorem way_left (i n : Nat) (h : 2 ≤ n) (hi : i < kc n) : way i n = 1 + way i (kc n) := by rw [way_step i n h, if_pos hi]
theorem way_right (i n : Nat) (h : 2 ≤ n) (hi : ¬ i < kc n) : way i n = 1 + way (i - kc n) (n - kc n) := by rw [way_step i n h, if_neg hi]
theorem way_lt (i n : Nat) (h : 1 ≤ n) : way i n < n := by
  induction n using Nat.strongRecOn generalizing i with
  | _ n ih =>
    by_cases h2 : 2 ≤ n
    · have k1 := kc_pos n
      have k2 := kc_lt h2
      by_cases hi : i < kc n
      · have := ih (kc n) k2 i k1; rw [way_left i n h2 hi]; omega
      · have := ih (n - kc n) (by omega) (i - kc n) (by omega); rw [way_right i n h2 hi]; omega
    · rw [way_one i n (by omega)]; omega
theorem way_log (n : Nat) : ∀ j i, n ≤ 2 ^ j → 1 ≤ n → way i n ≤ j := by
  induction n using Nat.strongRecOn with
  | _ n ih =>
    intro j i hj hn
    by_cases h2 : 2 ≤ n
    · have k1 := kc_pos n
      have k2 := kc_lt h2
      have k3 := kc_half h2
      match j with
      | 0 => simp at hj; omega
      | j + 1 =>
        have hk : kc n ≤ 2 ^ j := by
          unfold kc
          refine Nat.pow_le_pow_right (by omega) ?_
          have : 2 ^ Nat.log2 (n - 1) < 2 ^ (j + 1) := Nat.lt_of_le_of_lt (Nat.log2_self_le (by omega)) (by omega)
          have := (Nat.pow_lt_pow_iff_right (a := 2) (by omega)).1 this
          omega
        by_cases hi : i < kc n
        · have := ih (kc n) k2 j i hk k1; rw [way_left i n h2 hi]; omega
        · have := ih (n - kc n) (by omega) j (i - kc n) (by omega) (by omega); rw [way_right i n h2 hi]; omega
    · rw [way_one i n (by omega)]; omega
theorem way_eight (i n : Nat) (h : 1 ≤ n) (h2 : n ≤ 256) : way i n ≤ 8 := way_log n 8 i (by simpa using h2) h
theorem path_length (l : List ByteArray) (i : Nat) : (path l i).length = way i l.length := by
  generalize hn : l.length = n
  induction n using Nat.strongRecOn generalizing l i with
  | _ n ih =>
    subst hn
    by_cases h2 : 2 ≤ l.length
    · have k1 := kc_pos l.length
      have k2 := kc_lt h2
      by_cases hi : i < kc l.length
      · rw [path_left l i h2 hi, way_left i _ h2 hi, List.length_append, ih (kc l.length) k2 (l.take (kc l.length)) i (by rw [List.length_take]; omega)]
        simp; omega
      · rw [path_right l i h2 hi, way_right i _ h2 hi, List.length_append, ih (l.length - kc l.length) (by omega) (l.drop (kc l.length)) (i - kc l.length) (by rw [List.length_drop])]
        simp; omega
    · rw [path_few l i (by omega), way_one i _ (by omega)]; rfl
theorem path_sizes (l : List ByteArray) (i : Nat) (h : ∀ x ∈ l, x.size = 32) : ∀ x ∈ path l i, x.size = 32 := by
  generalize hn : l.length = n
  induction n using Nat.strongRecOn generalizing l i with
  | _ n ih =>
    subst hn
    have ht : ∀ k, ∀ x ∈ l.take k, x.size = 32 := fun k x hx => h x (List.mem_of_mem_take hx)
    have hd : ∀ k, ∀ x ∈ l.drop k, x.size = 32 := fun k x hx => h x (List.mem_of_mem_drop hx)
    by_cases h2 : 2 ≤ l.length
    · have k1 := kc_pos l.length
      have k2 := kc_lt h2
      by_cases hi : i < kc l.length
      · rw [path_left l i h2 hi]
        intro x hx
        rcases List.mem_append.1 hx with hx | hx
        · exact ih (kc l.length) k2 (l.take (kc l.length)) i (ht _) (by rw [List.length_take]; omega) x hx
        · simp at hx; subst hx; exact root_size _ (hd _)
      · rw [path_right l i h2 hi]
        intro x hx
        rcases List.mem_append.1 hx with hx | hx
        · exact ih (l.length - kc l.length) (by omega) (l.drop (kc l.length)) (i - kc l.length) (hd _) (by rw [List.length_drop]) x hx
        · simp at hx; subst hx; exact root_size _ (ht _)
    · rw [path_few l i (by omega)]; intro x hx; cases hx
/-- The root, by one digest at a place and those beside its way up. -/
def climbF : Nat → ByteArray → Nat → Nat → List ByteArray → ByteArray
  | 0, h, _, _, _ => h
  | f + 1, h, i, n, p =>
    if 2 ≤ n then
      if i < kc n then tag 74 [climbF f h i (kc n) p.dropLast, p.getLast?.getD ⟨#[]⟩]
      else tag 74 [p.getLast?.getD ⟨#[]⟩, climbF f h (i - kc n) (n - kc n) p.dropLast]
    else h
theorem climbF_same : ∀ (f g : Nat) (h : ByteArray) (i n : Nat) (p : List ByteArray), n ≤ f → n ≤ g → climbF f h i n p = climbF g h i n p
  | 0, 0, _, _, _, _, _, _ => rfl
  | 0, _ + 1, _, _, n, _, h, _ => by
    obtain rfl : n = 0 := by omega
    rfl
  | _ + 1, 0, _, _, n, _, _, h => by
    obtain rfl : n = 0 := by omega
    rfl
  | f + 1, g + 1, h, i, n, p, h1, h2 => by
    unfold climbF
    by_cases hn : 2 ≤ n
    · have k1 := kc_pos n
      have k2 := kc_lt hn
      rw [if_pos hn, if_pos hn, climbF_same f g h i (kc n) p.dropLast (by omega) (by omega), climbF_same f g h (i - kc n) (n - kc n) p.dropLast (by omega) (by omega)]
    · rw [if_neg hn, if_neg hn]
def climb (h : ByteArray) (i n : Nat) (p : List ByteArray) : ByteArray := climbF n h i n p
theorem climb_step (h : ByteArray) (i n : Nat) (p : List ByteArray) (hn : 2 ≤ n) : climb h i n p = if i < kc n then tag 74 [climb h i (kc n) p.dropLast, p.getLast?.getD ⟨#[]⟩] else tag 74 [p.getLast?.getD ⟨#[]⟩, climb h (i - kc n) (n - kc n) p.dropLast] := by
  have k1 := kc_pos n
  have k2 := kc_lt hn
  obtain ⟨f, rfl⟩ : ∃ f, n = f + 1 := ⟨n - 1, by omega⟩
  show climbF (f + 1) h i (f + 1) p = _
  unfold climbF
  rw [if_pos hn]
  unfold climb
  rw [climbF_same f _ h i (kc (f + 1)) p.dropLast (by omega) (Nat.le_refl _), climbF_same f _ h (i - kc (f + 1)) (f + 1 - kc (f + 1)) p.dropLast (by omega) (Nat.le_refl _)]
theorem climb_one (h : ByteArray) (i n : Nat) (p : List ByteArray) (hn : n < 2) : climb h i n p = h := by
  match n, hn with
  | 0, _ => rfl
  | 1, _ => rfl
theorem climb_left (h : ByteArray) (i n : Nat) (p : List ByteArray) (hn : 2 ≤ n) (hi : i < kc n) : climb h i n p = tag 74 [climb h i (kc n) p.dropLast, p.getLast?.getD ⟨#[]⟩] := by rw [climb_step h i n p hn, if_pos hi]
theorem climb_right (h : ByteArray) (i n : Nat) (p : List ByteArray) (hn : 2 ≤ n) (hi : ¬ i < kc n) : climb h i n p = tag 74 [p.getLast?.getD ⟨#[]⟩, climb h (i - kc n) (n - kc n) p.dropLast] := by rw [climb_step h i n p hn, if_neg hi]
theorem climb_size (h : ByteArray) (i n : Nat) (p : List ByteArray) (hh : h.size = 32) : (climb h i n p).size = 32 := by
  by_cases hn : 2 ≤ n
  · by_cases hi : i < kc n
    · rw [climb_left h i n p hn hi]; exact tag_size _ _
    · rw [climb_right h i n p hn hi]; exact tag_size _ _
  · rw [climb_one h i n p (by omega)]; exact hh
/-- What is shown comes to the root. -/
theorem climb_path (l : List ByteArray) (i : Nat) (x : ByteArray) (hx : l[i]? = some x) : climb x i l.length (path l i) = root l := by
  generalize hn : l.length = n
  induction n using Nat.strongRecOn generalizing l i with
  | _ n ih =>
    subst hn
    have hil : i < l.length := (List.getElem?_eq_some_iff.1 hx).1
    by_cases h2 : 2 ≤ l.length
    · have k1 := kc_pos l.length
      have k2 := kc_lt h2
      rw [root_more l h2]
      by_cases hi : i < kc l.length
      · rw [climb_left _ _ _ _ h2 hi, path_left l i h2 hi, List.dropLast_concat, List.getLast?_concat]
        have e : (l.take (kc l.length)).length = kc l.length := by rw [List.length_take]; omega
        have := ih (kc l.length) k2 (l.take (kc l.length)) i (by rw [List.getElem?_take_of_lt hi]; exact hx) e
        rw [this]; rfl
      · rw [climb_right _ _ _ _ h2 hi, path_right l i h2 hi, List.dropLast_concat, List.getLast?_concat]
        have e : (l.drop (kc l.length)).length = l.length - kc l.length := by rw [List.length_drop]
        have := ih (l.length - kc l.length) (by omega) (l.drop (kc l.length)) (i - kc l.length) (by rw [List.getElem?_drop, show kc l.length + (i - kc l.length) = i by omega]; exact hx) e
        rw [this]; rfl
    · obtain ⟨y, rfl⟩ : ∃ y, l = [y] := by
        match l, hil with
        | [y], _ => exact ⟨y, rfl⟩
        | _ :: _ :: _, _ => exact absurd (by simp) h2
      have : i = 0 := by simp at hil; omega
      subst this
      simp at hx; subst hx
      rw [climb_one _ _ _ _ (by simp), root_one]
/-- A file's digest, of its root. -/
def named (size many : Nat) (r : ByteArray) : ByteArray := tag 70 [Wire.numB 8 size, Wire.numB 8 many, r]
/-- May a file of so many bytes have so many chunks? -/
abbrev Sized (size many : Int) : Prop := many ≤ 256 ∧ size ≤ 8192 ∧ many ≤ size ∧ size ≤ 512 * many
def digest (s : ByteArray) : ByteArray := tag 75 [s]
theorem digest_size (s : ByteArray) : (digest s).size = 32 := tag_size _ _
/-- A share. -/
structure Sh where
  dg : ByteArray
  sz : Int
  mn : Int
  at_ : Int
  ck : ByteArray
  pa : List ByteArray
/-- What a share says may be. -/
abbrev Sh.Claims (x : Sh) : Prop := 1 ≤ x.mn ∧ x.mn ≤ 256 ∧ 0 ≤ x.at_ ∧ x.at_ < x.mn ∧ Sized x.sz x.mn ∧ 1 ≤ x.ck.size ∧ x.ck.size ≤ 512
/-- Its digests come to the file's. -/
abbrev Sh.Proves (x : Sh) : Prop := x.pa.length = way x.at_.toNat x.mn.toNat ∧ (∀ h ∈ x.pa, h.size = 32) ∧ named x.sz.toNat x.mn.toNat (climb (digest x.ck) x.at_.toNat x.mn.toNat x.pa) = x.dg
/-- Zero, or why not. -/
def Sh.verdict (x : Sh) : Int := if x.Claims then (if x.Proves then 0 else 90) else 1
end Go.Mk
