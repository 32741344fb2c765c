/- Several texts in one: NameParts, ImageIn, ImageFolder, ImageJoin, ImageNames. -/
import Derived.Test.YtmnenamdjkjlaaaGreatDoorRunAP
import Derived.Lib.LastIndexByte
import Derived.Test.YtmnenamdjkjlaaaGreatDoorRunAH
import Derived.Test.YtmnenamdjkjlaaaGreatDoorRunAT
/- Paths: the parts of a text between /, and where the last / stands; of no program. -/
namespace Go.Names
open Go.RowKit
/-- The parts of a text, between /. -/
def parts : Bs → List Bs
  | [] => [[]]
  | c :: l => if c = 47 then [] :: parts l else match parts l with
    | p :: ps => (c :: p) :: ps
    | [] => [[c]]
theorem parts_ne : ∀ l, parts l ≠ []
  | [] => by simp [parts]
  | c :: l => by
    unfold parts
    split
    · simp
    · split <;> simp
theorem parts_none : ∀ {l : Bs}, 47 ∉ l → parts l = [l]
  | [], _ => rfl
  | c :: l, h => by
    have h1 : c ≠ 47 := fun e => h (by simp [e])
    have h2 := parts_none (l := l) (fun e => h (by simp [e]))
    unfold parts
    rw [if_neg h1, h2]
theorem parts_cut : ∀ {l : Bs} {i : Nat}, Lib.indexByte l 47 = i → parts l = l.take i :: parts (l.drop (i + 1))
  | [], i, h => by simp [Lib.indexByte] at h
  | c :: l, i, h => by
    unfold Lib.indexByte at h
    by_cases hc : c = 47
    · subst hc
      simp at h
      obtain rfl : i = 0 := by omega
      simp [parts]
    · have hc' : (c == 47) = false := by simpa using hc
      simp only [hc', Bool.false_eq_true, if_false] at h
      by_cases h3 : Lib.indexByte l 47 = -1
      · simp [h3] at h
      · have h4 : (Lib.indexByte l 47 == -1) = false := by simpa using h3
        simp only [h4, Bool.false_eq_true, if_false] at h
        obtain ⟨k, rfl⟩ : ∃ k, i = k + 1 := ⟨i - 1, by have := Lib.indexByte_ge l 47; omega⟩
        have ih := parts_cut (l := l) (i := k) (by omega)
        conv => lhs; unfold parts
        rw [if_neg hc, ih]
        rfl
theorem parts_snoc_cut : ∀ (l : Bs), parts (l ++ [47]) = parts l ++ [[]]
  | [] => rfl
  | c :: l => by
    have ih := parts_snoc_cut l
    show parts (c :: (l ++ [47])) = parts (c :: l) ++ [[]]
    unfold parts
    by_cases hc : c = 47
    · rw [if_pos hc, if_pos hc, ih]; rfl
    · rw [if_neg hc, if_neg hc, ih]
      cases h : parts l with
      | nil => exact absurd h (parts_ne l)
      | cons p ps => rfl
/-- One more byte behind the last part. -/
def more1 (c : UInt8) : List Bs → List Bs
  | [] => []
  | [p] => [p ++ [c]]
  | p :: q :: ps => p :: more1 c (q :: ps)
theorem more1_cons {c : UInt8} {p : Bs} {ps : List Bs} (h : ps ≠ []) : more1 c (p :: ps) = p :: more1 c ps := by
  cases ps with
  | nil => exact absurd rfl h
  | cons q ps => rfl
theorem parts_snoc : ∀ (l : Bs) {c : UInt8}, c ≠ 47 → parts (l ++ [c]) = more1 c (parts l)
  | [], c, h => by simp [parts, more1, h]
  | d :: l, c, h => by
    have ih := parts_snoc l h
    show parts (d :: (l ++ [c])) = more1 c (parts (d :: l))
    unfold parts
    by_cases hd : d = 47
    · rw [if_pos hd, if_pos hd, ih, more1_cons (parts_ne l)]
    · rw [if_neg hd, if_neg hd, ih]
      cases h2 : parts l with
      | nil => exact absurd h2 (parts_ne l)
      | cons p ps =>
        cases ps with
        | nil => rfl
        | cons q qs => rfl
theorem more1_at : ∀ {P : List Bs} {k : Nat} {c : UInt8} {p : Bs}, P.length = k + 1 → P[k]? = some p → more1 c P = P.set k (p ++ [c])
  | [], k, c, p, h, _ => by simp at h
  | [q], k, c, p, h, hp => by
    obtain rfl : k = 0 := by simpa using h.symm
    simp at hp
    subst hp
    rfl
  | q :: r :: P, k, c, p, h, hp => by
    obtain ⟨j, rfl⟩ : ∃ j, k = j + 1 := ⟨k - 1, by simp at h; omega⟩
    have := more1_at (P := r :: P) (k := j) (c := c) (p := p) (by simpa using h) (by simpa using hp)
    show q :: more1 c (r :: P) = _
    rw [this]
    rfl
theorem parts_length : ∀ (l : Bs), (parts l).length ≤ l.length + 1
  | [] => by simp [parts]
  | c :: l => by
    have ih := parts_length l
    unfold parts
    split
    · simp; omega
    · split
      · rename_i h; rw [h] at ih; simp at ih ⊢; omega
      · simp
/-- What may be a path. -/
def pathB (l : Bs) : Bool := decide (l.length ≤ 238) && (parts l).all legal
theorem parts_le : ∀ (l : Bs), ∀ p ∈ parts l, p.length ≤ l.length
  | [], p, h => by simp [parts] at h; simp [h]
  | c :: l, p, h => by
    have ih := parts_le l
    unfold parts at h
    split at h
    · rcases List.mem_cons.1 h with rfl | h
      · simp
      · have := ih p h; simp; omega
    · split at h
      · rename_i q qs e
        rw [e] at ih
        rcases List.mem_cons.1 h with rfl | h
        · have := ih q (by simp); simp; omega
        · have := ih p (by simp [h]); simp; omega
      · rw [List.mem_singleton.1 h]; simp
/-- A text, cut at its last /. -/
def lastTo (s : ByteArray) : Nat → Option Nat
  | 0 => none
  | k + 1 => if ((s.data[k]!).toNat : Int) = 47 then some k else lastTo s k
theorem lastIdx_is (s : ByteArray) : ∀ k, Lib.lastIdx s 47 k = match lastTo s k with | none => -1 | some i => (i : Int)
  | 0 => rfl
  | k + 1 => by
    unfold Lib.lastIdx lastTo
    by_cases h : ((s.data[k]!).toNat : Int) = 47
    · rw [if_pos h, if_pos h]
    · rw [if_neg h, if_neg h, lastIdx_is s k]
theorem lastTo_lt (s : ByteArray) : ∀ k i, lastTo s k = some i → i < k
  | 0, i, h => by cases h
  | k + 1, i, h => by
    unfold lastTo at h
    split at h
    · cases h; omega
    · have := lastTo_lt s k i h; omega
def splitB (s : ByteArray) : ByteArray × ByteArray := match lastTo s s.size with
  | none => (⟨#[]⟩, s)
  | some i => (s.extract 0 i, s.extract (i + 1) s.size)
end Go.Names
/- Names with no slash in them stand, by the order of paths, as their bytes stand; no program text is named here. -/
namespace Go.Img
theorem ky_lt {a b : UInt8} (ha : a ≠ 47) (hb : b ≠ 47) : ky a < ky b ↔ a < b := by
  unfold ky
  rw [if_neg ha, if_neg hb, UInt8.lt_iff_toNat_lt]
  omega
theorem cmpP_bytes : ∀ {a b : List UInt8}, 47 ∉ a → 47 ∉ b → (cmpP a b < 0 ↔ a < b)
  | [], [], _, _ => by simp [cmpP]
  | [], _ :: _, _, _ => by simp [cmpP]
  | _ :: _, [], _, _ => by simp [cmpP]
  | a :: x, b :: y, ha, hb => by
    have ha1 : a ≠ 47 := fun e => ha (by rw [e]; simp)
    have hb1 : b ≠ 47 := fun e => hb (by rw [e]; simp)
    have ih := cmpP_bytes (a := x) (b := y) (fun h => ha (by simp [h])) (fun h => hb (by simp [h]))
    unfold cmpP
    rw [List.cons_lt_cons_iff]
    by_cases e : a = b
    · rw [if_pos e, ih]
      constructor
      · intro h; exact .inr ⟨e, h⟩
      · rintro (h | ⟨_, h⟩)
        · rw [e, UInt8.lt_iff_toNat_lt] at h
          omega
        · exact h
    · rw [if_neg e]
      by_cases h : ky a < ky b
      · rw [if_pos h]
        exact ⟨fun _ => .inl ((ky_lt ha1 hb1).1 h), fun _ => by decide⟩
      · rw [if_neg h]
        constructor
        · intro h1; omega
        · rintro (h1 | ⟨h1, _⟩)
          · exact absurd ((ky_lt ha1 hb1).2 h1) h
          · exact absurd h1 e
theorem cmpP_under (d : List UInt8) (a b : List UInt8) : cmpP (d ++ a) (d ++ b) = cmpP a b := by
  induction d with
  | nil => rfl
  | cons c d ih =>
    show (if c = c then cmpP (d ++ a) (d ++ b) else _) = _
    rw [if_pos rfl, ih]
end Go.Img
/- A path, cut at its last slash: the folder, a slash, a name with none in it; no program text is named here. -/
namespace Go.Img
open Go.Names
theorem lastTo_none (s : ByteArray) : ∀ k, lastTo s k = none → ∀ j, j < k → s.data[j]! ≠ 47
  | 0, _, j, h => absurd h (Nat.not_lt_zero _)
  | k + 1, h, j, hj => by
    unfold lastTo at h
    split at h
    · cases h
    · rename_i hn
      rcases Nat.lt_or_ge j k with h1 | h1
      · exact lastTo_none s k h j h1
      · obtain rfl : j = k := by omega
        intro e
        rw [e] at hn
        exact hn rfl
theorem lastTo_some (s : ByteArray) : ∀ k i, lastTo s k = some i → i < k ∧ s.data[i]! = 47 ∧ ∀ j, i < j → j < k → s.data[j]! ≠ 47
  | 0, _, h => by cases h
  | k + 1, i, h => by
    unfold lastTo at h
    split at h
    · rename_i hy
      cases h
      refine ⟨by omega, ?_, fun j h1 h2 => by omega⟩
      have : (s.data[k]!).toNat = (47 : UInt8).toNat := by
        have : (47 : UInt8).toNat = 47 := rfl
        omega
      exact UInt8.toNat_inj.1 this
    · rename_i hn
      obtain ⟨h1, h2, h3⟩ := lastTo_some s k i h
      refine ⟨by omega, h2, fun j h4 h5 => ?_⟩
      rcases Nat.lt_or_ge j k with h6 | h6
      · exact h3 j h4 h6
      · obtain rfl : j = k := by omega
        intro e
        rw [e] at hn
        exact hn rfl
theorem split_flat {s : ByteArray} (h : lastTo s s.size = none) : 47 ∉ s.data.toList := by
  intro hm
  obtain ⟨j, hj, e⟩ := List.mem_iff_getElem.1 hm
  have hs : j < s.data.size := by simpa using hj
  have := lastTo_none s s.size h j hs
  rw [getElem!_pos s.data j hs] at this
  exact this (by simpa using e)
theorem split_deep {s : ByteArray} {i : Nat} (h : lastTo s s.size = some i) : s.data.toList = s.data.toList.take i ++ 47 :: s.data.toList.drop (i + 1) ∧ 47 ∉ s.data.toList.drop (i + 1) := by
  obtain ⟨h1, h2, h3⟩ := lastTo_some s s.size i h
  have hs : i < s.data.size := h1
  have hl : i < s.data.toList.length := by simpa using hs
  have e : s.data.toList[i] = 47 := by rw [getElem!_pos s.data i hs] at h2; simpa using h2
  constructor
  · rw [← e, ← List.drop_eq_getElem_cons hl, List.take_append_drop]
  · intro hm
    obtain ⟨j, hj, e2⟩ := List.mem_iff_getElem.1 hm
    rw [List.getElem_drop] at e2
    rw [List.length_drop] at hj
    have hs2 : i + 1 + j < s.data.size := by
      have : s.data.toList.length = s.data.size := by simp
      omega
    have := h3 (i + 1 + j) (by omega) hs2
    rw [getElem!_pos s.data (i + 1 + j) hs2] at this
    exact this (by simpa using e2)
theorem extract_list (s : ByteArray) (i j : Nat) : (s.extract i j).data.toList = (s.data.toList.drop i).take (j - i) := by
  rw [ByteArray.data_extract, Array.toList_extract, List.extract_eq_take_drop]
/-- Two paths in one folder (both with a slash, or both with none) stand as their names stand by their bytes. -/
theorem folder_cmp {s t : ByteArray} (h1 : (lastTo s s.size).isSome = (lastTo t t.size).isSome) (h2 : (splitB s).1 = (splitB t).1) : cmpP s.data.toList t.data.toList < 0 ↔ (splitB s).2.data.toList < (splitB t).2.data.toList := by
  cases hs : lastTo s s.size with
  | none =>
    cases ht : lastTo t t.size with
    | none =>
      have e1 : splitB s = (⟨#[]⟩, s) := by unfold splitB; rw [hs]
      have e2 : splitB t = (⟨#[]⟩, t) := by unfold splitB; rw [ht]
      rw [e1, e2]
      exact cmpP_bytes (split_flat hs) (split_flat ht)
    | some j => rw [hs, ht] at h1; cases h1
  | some i =>
    cases ht : lastTo t t.size with
    | none => rw [hs, ht] at h1; cases h1
    | some j =>
      have e1 : splitB s = (s.extract 0 i, s.extract (i + 1) s.size) := by unfold splitB; rw [hs]
      have e2 : splitB t = (t.extract 0 j, t.extract (j + 1) t.size) := by unfold splitB; rw [ht]
      rw [e1, e2] at h2 ⊢
      dsimp only at h2 ⊢
      obtain ⟨p1, q1⟩ := split_deep hs
      obtain ⟨p2, q2⟩ := split_deep ht
      have hd := congrArg (fun x : ByteArray => x.data.toList) h2
      rw [extract_list, extract_list, List.drop_zero, List.drop_zero, Nat.sub_zero, Nat.sub_zero] at hd
      have n1 : (s.extract (i + 1) s.size).data.toList = s.data.toList.drop (i + 1) := by
        rw [extract_list]
        refine List.take_of_length_le ?_
        rw [List.length_drop]
        have : s.data.toList.length = s.size := by rw [Array.length_toList]; rfl
        omega
      have n2 : (t.extract (j + 1) t.size).data.toList = t.data.toList.drop (j + 1) := by
        rw [extract_list]
        refine List.take_of_length_le ?_
        rw [List.length_drop]
        have : t.data.toList.length = t.size := by rw [Array.length_toList]; rfl
        omega
      rw [n1, n2, ← cmpP_bytes q1 q2]
      conv => lhs; rw [p1, p2, hd, cmpP_under]
      show (if (47 : UInt8) = 47 then cmpP _ _ else _) < 0 ↔ _
      rw [if_pos rfl]
end Go.Img
/- A path of a folder and a name, cut again; no program text is named here. -/
namespace Go.Img
open Go.Names
theorem lastTo_no {s : ByteArray} : ∀ {k}, (∀ j, j < k → s.data[j]! ≠ 47) → lastTo s k = none
  | 0, _ => rfl
  | k + 1, h => by
    unfold lastTo
    rw [if_neg (fun e => h k (by omega) (UInt8.toNat_inj.1 (by have : (47 : UInt8).toNat = 47 := rfl; omega)))]
    exact lastTo_no fun j hj => h j (by omega)
theorem lastTo_yes {s : ByteArray} {i : Nat} : ∀ {k}, i < k → s.data[i]! = 47 → (∀ j, i < j → j < k → s.data[j]! ≠ 47) → lastTo s k = some i
  | 0, h, _, _ => absurd h (Nat.not_lt_zero _)
  | k + 1, h, e, hn => by
    unfold lastTo
    rcases Nat.lt_or_ge i k with h1 | h1
    · rw [if_neg (fun e2 => hn k h1 (by omega) (UInt8.toNat_inj.1 (by have : (47 : UInt8).toNat = 47 := rfl; omega)))]
      exact lastTo_yes h1 e fun j h2 h3 => hn j h2 (by omega)
    · obtain rfl : i = k := by omega
      rw [if_pos (by rw [e]; rfl)]
theorem at_list (l : List UInt8) (j : Nat) (h : j < l.length) : (⟨l.toArray⟩ : ByteArray).data[j]! = l[j] := by
  have hd : j < (⟨l.toArray⟩ : ByteArray).data.size := by simpa using h
  rw [getElem!_pos _ j hd]
  simp
/-- The path of a name in a folder has a slash if the folder is not the whole, and is cut at it. -/
theorem split_join {d n : List UInt8} (h : 47 ∉ n) : splitB ⟨(join d n).toArray⟩ = (⟨d.toArray⟩, ⟨n.toArray⟩) ∧ (lastTo ⟨(join d n).toArray⟩ (join d n).length).isSome = decide (d ≠ []) := by
  have hsz : (⟨(join d n).toArray⟩ : ByteArray).size = (join d n).length := by show (join d n).toArray.size = _; simp
  by_cases hd : d = []
  · subst hd
    have e : join [] n = n := by unfold join; rw [if_pos rfl]
    rw [e] at hsz ⊢
    have hl : lastTo (⟨n.toArray⟩ : ByteArray) n.length = none := lastTo_no fun j hj e2 => by
      rw [at_list n j hj] at e2
      exact h (by rw [← e2]; exact List.getElem_mem _)
    refine ⟨?_, by rw [hl]; rfl⟩
    unfold splitB
    rw [hsz, hl]
  · have e : join d n = d ++ 47 :: n := by unfold join; rw [if_neg hd]
    rw [e] at hsz ⊢
    have hlen : (d ++ 47 :: n).length = d.length + n.length + 1 := by simp; omega
    have hl : lastTo (⟨(d ++ 47 :: n).toArray⟩ : ByteArray) (d ++ 47 :: n).length = some d.length := by
      refine lastTo_yes (by omega) ?_ fun j h1 h2 e2 => ?_
      · rw [at_list _ _ (by omega)]; simp
      · rw [at_list _ _ h2, List.getElem_append_right (by omega)] at e2
        obtain ⟨q, hq⟩ : ∃ q, j - d.length = q + 1 := ⟨j - d.length - 1, by omega⟩
        simp only [hq, List.getElem_cons_succ] at e2
        exact h (by rw [← e2]; exact List.getElem_mem _)
    refine ⟨?_, by rw [hl]; simp [hd]⟩
    unfold splitB
    rw [hsz, hl]
    dsimp only
    refine Prod.ext ?_ ?_
    · apply ByteArray.ext
      apply Array.toList_inj.1
      rw [extract_list]
      simp
    · apply ByteArray.ext
      apply Array.toList_inj.1
      rw [extract_list]
      simp
      rw [show d.length + (n.length + 1) - (d.length + 1) = n.length by omega, List.take_length]
end Go.Img
/- The names in a folder of an image, in the image's order, rise by their bytes; no program text is named here. -/
namespace Go.Img
open Go.Names
def bsOf (f : Fi) : ByteArray := ⟨f.path.toArray⟩
def nmOf (f : Fi) : List UInt8 := (splitB (bsOf f)).2.data.toList
def inDir (s : ByteArray) (f : Fi) : Bool := (splitB (bsOf f)).1.toList == s.toList
def namesIn (l : List Fi) (s : ByteArray) : List (List UInt8) := (l.filter (inDir s)).map nmOf
theorem bsOf_size (f : Fi) : (bsOf f).size = f.path.length := by show f.path.toArray.size = _; simp
theorem split_kind {f : Fi} (h : okPath f.path = true) : (lastTo (bsOf f) (bsOf f).size).isSome = decide ((splitB (bsOf f)).1.data.toList ≠ []) := by
  cases hs : lastTo (bsOf f) (bsOf f).size with
  | none =>
    have e1 : splitB (bsOf f) = (⟨#[]⟩, bsOf f) := by unfold splitB; rw [hs]
    rw [e1]
    rfl
  | some i =>
    have e1 : splitB (bsOf f) = ((bsOf f).extract 0 i, (bsOf f).extract (i + 1) (bsOf f).size) := by unfold splitB; rw [hs]
    rw [e1]
    dsimp only
    rw [extract_list, List.drop_zero, Nat.sub_zero]
    obtain ⟨h1, _⟩ := split_deep hs
    have h2 : (bsOf f).data.toList = f.path := by unfold bsOf; simp
    rw [h2] at h1 ⊢
    rw [Option.isSome_some, eq_comm, decide_eq_true_iff]
    intro h3
    rw [h3, List.nil_append] at h1
    unfold okPath at h
    rw [h1] at h
    simp only [Bool.and_eq_true] at h
    have h4 := h.2
    unfold pts at h4
    rw [if_pos rfl] at h4
    simp [legal] at h4
theorem names_rise {l : List Fi} (hs : Srt l) (hp : ∀ f ∈ l, okPath f.path = true) (s : ByteArray) : (namesIn l s).Pairwise (· ≤ ·) := by
  unfold namesIn
  rw [List.pairwise_map]
  refine ((hs.imp_of_mem (R := fun a b => ltF b a = false) (S := fun a b => inDir s a = true → inDir s b = true → nmOf a ≤ nmOf b) ?_).filter _).imp_of_mem ?_
  · intro a b ha hb h i1 i2
    unfold inDir at i1 i2
    have h1 : (splitB (bsOf b)).1.toList = (splitB (bsOf a)).1.toList := by rw [eq_of_beq i1, eq_of_beq i2]
    have h2 : (splitB (bsOf b)).1 = (splitB (bsOf a)).1 := by
      apply ByteArray.ext
      apply Array.toList_inj.1
      rw [ByteArray.toList_eq, ByteArray.toList_eq] at h1
      exact h1
    have h3 := folder_cmp (s := bsOf b) (t := bsOf a) (by rw [split_kind (hp a ha), split_kind (hp b hb), h2]) h2
    unfold nmOf
    rw [← List.not_lt, ← h3]
    unfold ltF cmpF at h
    have e1 : ∀ f : Fi, (bsOf f).data.toList = f.path := fun f => by unfold bsOf; simp
    rw [e1, e1]
    simpa using h
  · intro a b ha hb h
    exact h (List.mem_filter.1 ha).2 (List.mem_filter.1 hb).2
theorem names_sorted {l : List Fi} (hs : Srt l) (hp : ∀ f ∈ l, okPath f.path = true) (s : ByteArray) : (namesIn l s).mergeSort (fun x y => decide (x ≤ y)) = namesIn l s := by
  refine List.mergeSort_of_pairwise ?_
  exact (names_rise hs hp s).imp fun h => by simpa using h
end Go.Img
