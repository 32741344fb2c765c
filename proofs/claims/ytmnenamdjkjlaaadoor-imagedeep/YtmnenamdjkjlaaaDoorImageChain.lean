/- Folders within folders, one each: the image is the folders up to so many bytes; no program text is named here. -/
import Derived.Test.YtmnenamdjkjlaaaDoorRunAI
import Derived.Test.YtmnenamdjkjlaaaDoorRunAT
import Derived.Test.YtmnenamdjkjlaaaDoorRunAJ
import Derived.Test.YtmnenamdjkjlaaaDoorRunAS
namespace Go.Img
open Go.RowKit Go.Opn
open Go.Mov hiding fold
def aes (k : Nat) : List UInt8 := List.replicate k 97
def nmA (k : Nat) : ByteArray := ⟨(aes k).toArray⟩
def chE (k : Nat) (i : Int) : En := ⟨⟨1, ⟨i, 0⟩, 16 * i, 16 * (i - 1), nmA k, true, ⟨#[]⟩, 0⟩, ⟨#[104]⟩⟩
def chT (k : Nat) (i : Int) : Th := ⟨16 * i, 16 * (i - 1), nmA k, true, ⟨#[]⟩, 0⟩
def chEs (k m : Nat) : List En := (List.range m).map fun (j : Nat) => chE k ((j : Int) + 1)
def chain (k m : Nat) : Ths := (List.range m).map fun (j : Nat) => chT k ((j : Int) + 1)
theorem chEs_next (k m : Nat) : chEs k (m + 1) = chEs k m ++ [chE k ((m : Int) + 1)] := by unfold chEs; rw [List.range_succ, List.map_append]; rfl
theorem chain_next (k m : Nat) : chain k (m + 1) = chain k m ++ [chT k ((m : Int) + 1)] := by unfold chain; rw [List.range_succ, List.map_append]; rfl
theorem addE_end {l : List En} {e : En} (h : ∀ x ∈ l, Bf x e) : addE l e = l ++ [e] := by
  have hp : place l e = l.length := by
    unfold place
    rw [List.countP_eq_length]
    intro x hx
    exact decide_eq_true (cmpE_lt.2 (h x hx))
  unfold addE known ins
  rw [hp, List.getElem?_eq_none (Nat.le_refl _)]
  simp
theorem chE_bf {k : Nat} {i j : Int} (h : i < j) : Bf (chE k i) (chE k j) := .inl (.inl h)
theorem adds_ch (k : Nat) : ∀ m, (addsU (chEs k m)).1 = chEs k m
  | 0 => rfl
  | m + 1 => by
    rw [chEs_next, addsU_snoc]
    show addE (addsU (chEs k m)).1 _ = _
    rw [adds_ch k m]
    refine addE_end fun x hx => ?_
    unfold chEs at hx
    obtain ⟨j, hj, rfl⟩ := List.mem_map.1 hx
    have := List.mem_range.1 hj
    exact chE_bf (by omega)
theorem put_end {l : Ths} {x : Th} (h : ∀ y ∈ l, y.id < x.id) : Mov.put l x = l ++ [x] := by
  induction l with
  | nil => rfl
  | cons y r ih =>
    have hy := h y (by simp)
    unfold Mov.put
    rw [if_neg (by omega), if_neg (by omega), ih fun z hz => h z (by simp [hz])]
    rfl
theorem chain_mem {k m : Nat} {x : Th} (h : x ∈ chain k m) : ∃ j : Nat, j < m ∧ x = chT k ((j : Int) + 1) := by
  unfold chain at h
  obtain ⟨j, hj, rfl⟩ := List.mem_map.1 h
  exact ⟨j, List.mem_range.1 hj, rfl⟩
theorem look_end {l : Ths} {x : Th} (h : ∀ y ∈ l, y.id ≠ x.id) : Mov.look (l ++ [x]) x.id = some x := by
  induction l with
  | nil => show (if x.id = x.id then some x else _) = _; rw [if_pos rfl]
  | cons y r ih =>
    show (if x.id = y.id then some y else Mov.look (r ++ [x]) x.id) = _
    rw [if_neg (fun e => h y (by simp) e.symm), ih fun z hz => h z (by simp [hz])]
theorem made_ch (k m : Nat) : Mov.made (chain k m) (chE k ((m : Int) + 1)).op = chain k (m + 1) := by
  have hl : Mov.look (chain k m) (16 * ((m : Int) + 1)) = none := look_none.2 fun x hx => by
    obtain ⟨j, hj, rfl⟩ := chain_mem hx
    show 16 * ((j : Int) + 1) ≠ _
    omega
  have hf : Mov.fold (chain k m) (16 * ((m : Int) + 1 - 1)) = true := by
    unfold Mov.fold
    cases m with
    | zero => rfl
    | succ m =>
      have e : 16 * (((m + 1 : Nat) : Int) + 1 - 1) = (chT k ((m : Int) + 1)).id := by show _ = 16 * ((m : Int) + 1); omega
      rw [chain_next, e, look_end (fun y hy => by
        obtain ⟨j, hj, rfl⟩ := chain_mem hy
        show 16 * ((j : Int) + 1) ≠ 16 * ((m : Int) + 1)
        omega)]
      simp [chT]
  have hn : Mov.now (chain k m).length (chain k m) (chE k ((m : Int) + 1)).op = some (chT k ((m : Int) + 1)) := by
    unfold Mov.now chE
    dsimp only
    have ht : Mov.top (16 * ((m : Int) + 1)) = false := by
      unfold Mov.top
      have h1 : ((16 * ((m : Int) + 1)) == 0) = false := by rw [beq_eq_false_iff_ne]; omega
      have h2 : ((16 * ((m : Int) + 1)) == 1) = false := by rw [beq_eq_false_iff_ne]; omega
      rw [h1, h2]; rfl
    rw [if_pos rfl, hl, hf, ht]
    rfl
  unfold Mov.made
  rw [hn, chain_next]
  refine put_end fun y hy => ?_
  obtain ⟨j, hj, rfl⟩ := chain_mem hy
  show 16 * ((j : Int) + 1) < 16 * ((m : Int) + 1)
  omega
theorem ths_ch (k : Nat) : ∀ m, ths [] (chEs k m) = chain k m
  | 0 => rfl
  | m + 1 => by rw [chEs_next, ths_append, ths_ch k m, ths_one, made_ch]
theorem kids_ch (k : Nat) (i : Nat) : ∀ m : Nat, kidsOf (chain k m) (16 * (i : Int)) = if i < m then [chT k ((i : Int) + 1)] else []
  | 0 => rfl
  | m + 1 => by
    have ih := kids_ch k i m
    rw [chain_next]
    unfold kidsOf at *
    rw [List.filter_append, ih]
    by_cases e : m = i
    · subst e
      rw [if_neg (by omega), if_pos (by omega), List.filter_cons_of_pos (by rw [decide_eq_true_iff]; show 16 * ((m : Int) + 1 - 1) = _; omega)]
      rfl
    · rw [List.filter_cons_of_neg (by rw [decide_eq_true_iff]; show ¬ 16 * ((m : Int) + 1 - 1) = _; omega)]
      by_cases h : i < m
      · rw [if_pos h, if_pos (by omega)]; rfl
      · rw [if_neg h, if_neg (by omega)]; rfl
theorem legal_aes {k : Nat} (h1 : 1 ≤ k) (h2 : k ≤ 32) : Names.legal (aes k) = true := by
  unfold Names.legal
  simp only [Bool.and_eq_true, decide_eq_true_eq]
  refine ⟨⟨⟨by unfold aes; rw [List.length_replicate]; exact h1, by unfold aes; rw [List.length_replicate]; exact h2⟩, ?_⟩, ?_⟩
  · refine List.all_eq_true.2 fun x hx => ?_
    unfold aes at hx
    rw [(List.mem_replicate.1 hx).2]
    decide
  · unfold Names.endsWell aes
    obtain ⟨j, rfl⟩ : ∃ j, k = j + 1 := ⟨k - 1, by omega⟩
    rw [List.replicate_succ', List.getLast?_append]
    rfl
def pathA (k : Nat) : Nat → List UInt8
  | 0 => []
  | j + 1 => join (pathA k j) (aes k)
theorem pathA_len {k : Nat} (h : 1 ≤ k) : ∀ j, (pathA k (j + 1)).length = (j + 1) * (k + 1) - 1
  | 0 => by
    show (join [] (aes k)).length = _
    unfold join aes
    rw [if_pos rfl, List.length_replicate]; omega
  | j + 1 => by
    have ih := pathA_len h j
    have hne : pathA k (j + 1) ≠ [] := fun e => by
      rw [e] at ih
      have : 1 * 2 ≤ (j + 1) * (k + 1) := Nat.mul_le_mul (by omega) (by omega)
      simp at ih; omega
    show (join (pathA k (j + 1)) (aes k)).length = _
    unfold join
    rw [if_neg hne, List.length_append, List.length_cons, ih]
    unfold aes
    rw [List.length_replicate]
    have e1 : (j + 1 + 1) * (k + 1) = (j + 1) * (k + 1) + (k + 1) := by rw [Nat.add_mul]; omega
    have : 1 * 2 ≤ (j + 1) * (k + 1) := Nat.mul_le_mul (by omega) (by omega)
    omega
theorem pathA_next {k : Nat} (h : 1 ≤ k) (j : Nat) : ∃ r, r ≠ [] ∧ pathA k (j + 1) = pathA k j ++ r := by
  have hk : aes k ≠ [] := by unfold aes; intro e; have := congrArg List.length e; simp at this; omega
  cases hp : pathA k j with
  | nil => exact ⟨aes k, hk, by show join (pathA k j) (aes k) = _; rw [hp]; rfl⟩
  | cons c r => exact ⟨47 :: aes k, by simp, by show join (pathA k j) (aes k) = _; rw [hp]; rfl⟩
theorem pathA_pre {k : Nat} (h : 1 ≤ k) (i : Nat) : ∀ d, ∃ r, pathA k (i + d) = pathA k i ++ r
  | 0 => ⟨[], by simp⟩
  | d + 1 => by
    obtain ⟨r, hr⟩ := pathA_pre h i d
    obtain ⟨s, _, hs⟩ := pathA_next h (i + d)
    exact ⟨r ++ s, by rw [← Nat.add_assoc, hs, hr, List.append_assoc]⟩
def fiA (k j : Nat) : Fi := ⟨pathA k (j + 1), true, 16 * ((j : Int) + 1), ⟨#[]⟩, 0⟩
def fsA (k n : Nat) : List Fi := (List.range n).map (fiA k)
theorem fsA_next (k n : Nat) : fsA k (n + 1) = fsA k n ++ [fiA k n] := by unfold fsA; rw [List.range_succ, List.map_append]; rfl
theorem fsA_len (k n : Nat) : (fsA k n).length = n := by unfold fsA; simp
theorem fsA_at {k n i : Nat} (h : i < n) : (fsA k n)[i]? = some (fiA k i) := by unfold fsA; rw [List.getElem?_map, List.getElem?_range h]; rfl
/-- How many folders have paths that are not too long. -/
def manyA (k m : Nat) : Nat := min m (239 / (k + 1))
theorem many_iff {k m i : Nat} (hk : 1 ≤ k) : i < manyA k m ↔ i < m ∧ (i + 1) * (k + 1) - 1 ≤ 238 := by
  unfold manyA
  rw [Nat.lt_min]
  constructor
  · rintro ⟨h1, h2⟩
    have := (Nat.le_div_iff_mul_le (show 0 < k + 1 by omega)).1 (show i + 1 ≤ 239 / (k + 1) by omega)
    exact ⟨h1, by omega⟩
  · rintro ⟨h1, h2⟩
    have h3 : (i + 1) * (k + 1) ≤ 239 := by omega
    have := (Nat.le_div_iff_mul_le (show 0 < k + 1 by omega)).2 h3
    exact ⟨h1, by omega⟩
theorem asg_one {n : List UInt8} (h : Names.legal n = true) : Names.asg [n] = [n] := by
  show [Names.pick [] (Names.fix n)] = [n]
  rw [Names.fix_legal h]
  rfl
theorem named_ch {k m : Nat} (h1 : 1 ≤ k) (h2 : k ≤ 32) (i : Nat) : named (pathA k i) (kidsOf (chain k m) (16 * (i : Int))) = if i < manyA k m then [fiA k i] else [] := by
  rw [kids_ch]
  have e1 : nameOf (chT k ((i : Int) + 1)) = aes k := rfl
  by_cases h : i < m
  · rw [if_pos h]
    unfold named
    rw [List.map_cons, List.map_nil, e1, asg_one (legal_aes h1 h2)]
    show (fileAt (chT k ((i : Int) + 1)) (join (pathA k i) (aes k))).toList = _
    have e2 : join (pathA k i) (aes k) = pathA k (i + 1) := rfl
    rw [e2]
    unfold fileAt
    rw [pathA_len h1]
    by_cases h3 : (i + 1) * (k + 1) - 1 ≤ 238
    · rw [if_pos h3, if_pos ((many_iff h1).2 ⟨h, h3⟩)]
      rfl
    · rw [if_neg h3, if_neg (fun h4 => h3 ((many_iff h1).1 h4).2)]
      rfl
  · rw [if_neg h, if_neg (fun h4 => h ((many_iff h1).1 h4).1)]
    rfl
theorem min_next {k w i : Nat} : fsA k (min w i) ++ (if i < w then [fiA k i] else []) = fsA k (min w (i + 1)) := by
  by_cases h : i < w
  · rw [if_pos h, show min w i = i by omega, show min w (i + 1) = i + 1 by omega, fsA_next]
  · rw [if_neg h, show min w i = w by omega, show min w (i + 1) = w by omega, List.append_nil]
theorem grown_ch {k m : Nat} (h1 : 1 ≤ k) (h2 : k ≤ 32) (hf : Fine (chain k m)) : ∀ i, i ≤ manyA k m → Gw (chain k m) i (fsA k (min (manyA k m) (i + 1))) ∧ Cl (chain k m) i (fsA k (min (manyA k m) (i + 1)))
  | 0, _ => by
    have e : start (chain k m) = fsA k (min (manyA k m) 1) := by
      have := named_ch (m := m) h1 h2 0
      show named [] (kidsOf (chain k m) 0) = _
      rw [← min_next, show min (manyA k m) 0 = 0 by omega]
      exact this
    rw [← e]
    exact ⟨Gw.start hf, Cl.start _⟩
  | i + 1, hi => by
    obtain ⟨g, c⟩ := grown_ch h1 h2 hf i (by omega)
    have hat : (fsA k (min (manyA k m) (i + 1)))[i]? = some (fiA k i) := fsA_at (by omega)
    have e : fsA k (min (manyA k m) (i + 1)) ++ named (fiA k i).path (kidsOf (chain k m) (fiA k i).id) = fsA k (min (manyA k m) (i + 1 + 1)) := by
      rw [← min_next (i := i + 1)]
      have := named_ch (m := m) h1 h2 (i + 1)
      rw [Int.natCast_add] at this
      exact congrArg (fsA k (min (manyA k m) (i + 1)) ++ ·) this
    rw [← e]
    exact ⟨g.next hf hat, c.next hat⟩
theorem srt_ch {k : Nat} (h1 : 1 ≤ k) (n : Nat) : Srt (fsA k n) := by
  unfold Srt fsA
  rw [List.pairwise_map]
  refine (List.pairwise_lt_range (n := n)).imp fun {a b} hab => ?_
  unfold ltF cmpF
  obtain ⟨r, hr⟩ := pathA_pre h1 (a + 1) (b - a)
  have e : a + 1 + (b - a) = b + 1 := by omega
  rw [e] at hr
  show decide (cmpP (pathA k (b + 1)) (pathA k (a + 1)) < 0) = false
  rw [hr]
  conv => lhs; rw [← List.append_nil (pathA k (a + 1))]
  rw [List.append_assoc, cmpP_app]
  cases r <;> rfl
theorem before_ch {k : Nat} (h1 : 1 ≤ k) (j : Nat) : befP (pts (pathA k j)) (pts (pathA k (j + 1))) = true := by
  rw [befP_cmp]
  obtain ⟨r, hne, hr⟩ := pathA_next h1 j
  rw [hr]
  conv => lhs; rw [← List.append_nil (pathA k j)]
  rw [List.append_assoc, cmpP_app]
  cases r with
  | nil => exact absurd rfl hne
  | cons c r => rfl
theorem chE_fits {k : Nat} (hk : k ≤ 32) {i : Int} (h1 : 1 ≤ i) (h2 : i ≤ 200) : (chE k i).Fits :=
  ⟨⟨⟨by show _ ≤ (1 : Int); decide, by show (1 : Int) ≤ _; decide⟩, ⟨by show (0 : Int) ≤ i; omega, by show i ≤ _; omega, by show _ ≤ (0 : Int); decide, by show (0 : Int) ≤ _; decide⟩, ⟨by show (0 : Int) ≤ 16 * i; omega, by show 16 * i ≤ _; omega⟩, ⟨by show (0 : Int) ≤ 16 * (i - 1); omega, by show 16 * (i - 1) ≤ _; omega⟩, by show (nmA k).size ≤ _; show (aes k).toArray.size ≤ _; unfold aes; simp; omega, by show (0 : Nat) ≤ _; decide, ⟨by show _ ≤ (0 : Int); decide, by show (0 : Int) ≤ _; decide⟩⟩, by show (1 : Nat) ≤ _; decide⟩
theorem chEs_fits {k m : Nat} (hk : k ≤ 32) (hm : m ≤ 150) : ∀ e ∈ chEs k m, e.Fits := fun e he => by
  unfold chEs at he
  obtain ⟨j, hj, rfl⟩ := List.mem_map.1 he
  have := List.mem_range.1 hj
  exact chE_fits hk (by omega) (by omega)
/-- The image of folders within folders. -/
theorem img_ch {k m : Nat} (h1 : 1 ≤ k) (h2 : k ≤ 32) (hm : m ≤ 150) : img (chain k m) = fsA k (manyA k m) := by
  have hf : Fine (chain k m) := by rw [← ths_ch]; exact ths_fine Fine.nil (chEs_fits h2 hm)
  have hd : Dirs (chain k m) := by rw [← ths_ch]; exact dirs_ths _ Fine.nil Dirs.nil (chEs_fits h2 hm)
  obtain ⟨g, c⟩ := grown_ch h1 h2 hf (manyA k m) (Nat.le_refl _)
  have e : min (manyA k m) (manyA k m + 1) = manyA k m := by omega
  rw [e] at g c
  have hl : (fsA k (manyA k m)).length = manyA k m := fsA_len _ _
  refine (img_is hf hd (by unfold chain; simp; omega) (l := fsA k (manyA k m)) (by rw [hl]; exact g) (by rw [hl]; exact c) (List.Perm.refl _) (srt_ch h1 _)).symm
end Go.Img
