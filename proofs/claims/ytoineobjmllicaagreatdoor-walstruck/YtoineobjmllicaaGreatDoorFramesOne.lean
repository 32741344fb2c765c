/- Several texts in one: WalFrames, WalTake. -/
import Derived.Test.YtoineobjmllicaaGreatDoorUnframeOne
import Derived.Test.YtoineobjmllicaaGreatDoorDkOne
import Derived.Test.YtoineobjmllicaaGreatDoorFileOne
import Derived.Test.YtoineobjmllicaaGreatDoorWirFive
import Derived.Deep.AppendLies
import Derived.WalkKit
/- Frames one behind the other, as bytes: what a segment's bytes say; plain data and functions, of no program. -/
namespace Go.Wal
open Go.Wire
open Go.Dk (Bs)
/-- A frame. -/
def fr (t : Bs) : Bs := num 8 t.length ++ num 8 (fnv (num 8 t.length ++ t)) ++ t
theorem fr_length (t : Bs) : (fr t).length = 16 + t.length := by simp [fr, num_length]; omega
theorem hexd_dig {c : UInt8} {d : Nat} (h : dig c = some d) : hexd d = c := by
  have hc := c.toNat_lt
  unfold dig at h
  split at h
  · rename_i h'
    cases h
    unfold hexd
    rw [if_pos (by omega), show 48 + (c.toNat - 48) = c.toNat by omega]
    simp
  · split at h
    · rename_i h'
      cases h
      unfold hexd
      rw [if_neg (by omega), show 87 + (c.toNat - 87) = c.toNat by omega]
      simp
    · cases h
theorem num_val : ∀ (k : Nat) (l : Bs) (n : Nat), l.length = k → val l = some n → l = num k n
  | 0, l, n, hl, _ => by rw [List.length_eq_zero_iff.1 hl]; rfl
  | k + 1, l, n, hl, hv => by
    rcases List.eq_nil_or_concat l with rfl | ⟨l', c, rfl⟩
    · cases hl
    · rw [List.concat_eq_append] at hv hl ⊢
      rw [val_snoc] at hv
      unfold vstep at hv
      cases hm : val l' with
      | none => rw [hm] at hv; cases hv
      | some m =>
        rw [hm] at hv
        simp only [Option.bind_some] at hv
        cases hd : dig c with
        | none => rw [hd] at hv; cases hv
        | some d =>
          rw [hd] at hv
          simp only [Option.map_some, Option.some.injEq] at hv
          have hd16 := dig_lt hd
          have h1 : n / 16 = m := by omega
          have h2 : n % 16 = d := by omega
          rw [num, h1, h2, hexd_dig hd, ← num_val k l' m (by simpa using hl) hm]
theorem val_num8 {n : Nat} (h : n < 4294967296) : val (num 8 n) = some n := by
  rw [val_num, Nat.mod_eq_of_lt (by simpa using h)]
/-- The text of the frame that bytes begin with. -/
def unf1 (s : Bs) : Option Bs :=
  match val (s.take 8) with
  | none => none
  | some n => if s.length < 16 + n ∨ 2147483647 < n then none else if val ((s.drop 8).take 8) = some (fnv (num 8 n ++ (s.drop 16).take n)) then some ((s.drop 16).take n) else none
theorem unf1_fr (t r : Bs) (ht : t.length ≤ 2147483647) : unf1 (fr t ++ r) = some t := by
  have h1 : (fr t ++ r).take 8 = num 8 t.length := by
    unfold fr
    rw [List.append_assoc, List.append_assoc, List.take_append_of_le_length (by rw [num_length]; exact Nat.le_refl _), List.take_of_length_le (by rw [num_length]; exact Nat.le_refl _)]
  have h8 : (fr t ++ r).drop 8 = num 8 (fnv (num 8 t.length ++ t)) ++ (t ++ r) := by
    unfold fr
    rw [List.append_assoc, List.append_assoc, List.drop_left' (num_length _ _)]
  have h16 : (fr t ++ r).drop 16 = t ++ r := by
    rw [show 16 = 8 + 8 from rfl, ← List.drop_drop, h8, List.drop_left' (num_length _ _)]
  unfold unf1
  rw [h1, val_num8 (by omega)]
  show (if _ then _ else _) = _
  rw [if_neg (by rw [List.length_append, fr_length]; omega), h16, List.take_left, h8, List.take_append_of_le_length (by rw [num_length]; exact Nat.le_refl _), List.take_of_length_le (by rw [num_length]; exact Nat.le_refl _), val_num8 (fnv_lt _), if_pos rfl]
theorem unf1_some {s t : Bs} (h : unf1 s = some t) : t.length ≤ 2147483647 ∧ ∃ r, s = fr t ++ r := by
  unfold unf1 at h
  cases hv : val (s.take 8) with
  | none => rw [hv] at h; cases h
  | some n =>
    rw [hv] at h
    simp only at h
    split at h
    · cases h
    · rename_i hn
      split at h
      · rename_i hc
        cases h
        have hl : s.length ≥ 16 + n := by omega
        have ht : ((s.drop 16).take n).length = n := by simp; omega
        refine ⟨by rw [ht]; omega, s.drop (16 + n), ?_⟩
        unfold fr
        rw [ht, ← num_val 8 _ _ (by simp; omega) hc, ← num_val 8 _ n (by simp; omega) hv]
        rw [show s.drop (16 + n) = (s.drop 16).drop n by rw [List.drop_drop], List.append_assoc, List.take_append_drop, show s.drop 16 = (s.drop 8).drop 8 by rw [List.drop_drop], List.append_assoc, List.take_append_drop, List.take_append_drop]
      · cases h
/-- What is no whole frame ahead: too short. -/
theorem unf1_short {t : Bs} {m : Nat} (hm : m < (fr t).length) (ht : t.length ≤ 2147483647) : unf1 ((fr t).take m) = none := by
  rw [fr_length] at hm
  unfold unf1
  cases hv : val (((fr t).take m).take 8) with
  | none => rfl
  | some n =>
    simp only
    have hl : ((fr t).take m).length = m := by simp [fr_length]; omega
    rw [hl]
    by_cases h8 : m < 16
    · rw [if_pos (by omega)]
    · have h1 : ((fr t).take m).take 8 = num 8 t.length := by
        rw [List.take_take, Nat.min_eq_left (by omega)]
        unfold fr
        rw [List.append_assoc, List.take_append_of_le_length (by rw [num_length]; exact Nat.le_refl _), List.take_of_length_le (by rw [num_length]; exact Nat.le_refl _)]
      rw [h1, val_num8 (by omega)] at hv
      cases hv
      rw [if_pos (by omega)]
theorem ext_list (s : ByteArray) (a b : Nat) : (s.extract a b).data.toList = (s.data.toList.drop a).take (b - a) := by
  rw [ByteArray.data_extract, Array.toList_extract, List.extract_eq_take_drop]
theorem unf_none {q : St} {p : Int} (h : q.f3.1.err ≠ 0) : ∃ e, e ≠ 0 ∧ unf q p = (⟨#[]⟩, 0, e) := ⟨_, h, by unfold unf; rw [if_pos h]⟩
theorem f3_of_f2 {q : St} (h : q.f2.1.err ≠ 0) : q.f3.1.err ≠ 0 := by unfold St.f3; rw [St.bytes_err _ _ h]; exact h
theorem f2_of_f1 {q : St} (h : q.f1.1.err ≠ 0) : q.f2.1.err ≠ 0 := by unfold St.f2; rw [St.err_keeps _ h]; exact h
theorem unf_is (x : ByteArray) (p : Nat) : (∃ t, unf1 x.data.toList = some t ∧ unf ⟨x, 0, 0⟩ p = (⟨t.toArray⟩, ((p + (16 + t.length) : Nat) : Int), 0)) ∨ (unf1 x.data.toList = none ∧ ∃ e, e ≠ 0 ∧ unf ⟨x, 0, 0⟩ p = (⟨#[]⟩, 0, e)) := by
  have hsz : x.data.toList.length = x.size := by simp
  by_cases h8 : x.size < 8
  · refine .inr ⟨?_, unf_none (f3_of_f2 (f2_of_f1 ?_))⟩
    · unfold unf1
      cases val (x.data.toList.take 8) with
      | none => rfl
      | some n => simp only; rw [if_pos (by omega)]
    · have hb := St.bytes_cut ⟨x, 0, 0⟩ (2 * 4) (by decide) (by show (x.size : Int) - (0 : Nat) < 2 * 4; omega)
      have hn : (St.number ⟨x, 0, 0⟩ 4).1.err ≠ 0 := by
        rw [St.number_some ⟨x, 0, 0⟩ 4 0 (by decide) (by rw [hb]; rfl), hb]
        exact St.fail_ne _ _ (by decide)
      unfold St.f1
      rw [St.count]
      rw [if_neg (fun h => hn h.1)]
      exact hn
  have hb := St.bytes_ok ⟨x, 0, 0⟩ (2 * 4) rfl (by decide) (by show ¬ (x.size : Int) - (0 : Nat) < 2 * 4; omega)
  have hl8 : (x.extract 0 8).data.toList = x.data.toList.take 8 := by rw [ext_list]; rfl
  have hbt : (St.bytes ⟨x, 0, 0⟩ (2 * 4)).2.data.toList = x.data.toList.take 8 := by rw [hb]; exact hl8
  cases hv : val (x.data.toList.take 8) with
  | none =>
    refine .inr ⟨by unfold unf1; rw [hv], unf_none (f3_of_f2 (f2_of_f1 ?_))⟩
    have hn : (St.number ⟨x, 0, 0⟩ 4).1.err ≠ 0 := by
      rw [St.number_none ⟨x, 0, 0⟩ 4 (by decide) (by rw [hbt]; exact hv)]
      exact St.back_ne _ _ _ (by decide)
    unfold St.f1
    rw [St.count, if_neg (fun h => hn h.1)]
    exact hn
  | some n =>
    have hnum : St.number ⟨x, 0, 0⟩ 4 = (⟨x, 8, 0⟩, n) := by rw [St.number_some ⟨x, 0, 0⟩ 4 n (by decide) (by rw [hbt]; exact hv), hb]; rfl
    by_cases hbig : 2147483647 < n
    · refine .inr ⟨by unfold unf1; rw [hv]; simp only; rw [if_pos (.inr hbig)], unf_none (f3_of_f2 (f2_of_f1 ?_))⟩
      unfold St.f1
      rw [St.count_no _ _ (.inr (by rw [hnum]; show (2147483647 : Int) < (n : Int); omega))]
      exact St.back_ne _ _ _ (by decide)
    have hf1 : St.f1 ⟨x, 0, 0⟩ = (⟨x, 8, 0⟩, n) := by
      unfold St.f1
      rw [St.count_yes _ _ (by rw [hnum]; show ¬ ((2147483647 : Int) < 0 ∨ (2147483647 : Int) < (n : Int)); omega)]
      exact hnum
    by_cases h16 : x.size < 16
    · refine .inr ⟨by unfold unf1; rw [hv]; simp only; rw [if_pos (.inl (by omega))], unf_none (f3_of_f2 ?_)⟩
      have hb2 := St.bytes_cut ⟨x, 8, 0⟩ (2 * 4) (by decide) (by show (x.size : Int) - (8 : Nat) < 2 * 4; omega)
      unfold St.f2
      rw [hf1]
      show (St.number ⟨x, 8, 0⟩ 4).1.err ≠ 0
      rw [St.number_some ⟨x, 8, 0⟩ 4 0 (by decide) (by rw [hb2]; rfl), hb2]
      exact St.fail_ne _ _ (by decide)
    have hb2 := St.bytes_ok ⟨x, 8, 0⟩ (2 * 4) rfl (by decide) (by show ¬ (x.size : Int) - (8 : Nat) < 2 * 4; omega)
    have hbt2 : (St.bytes ⟨x, 8, 0⟩ (2 * 4)).2.data.toList = (x.data.toList.drop 8).take 8 := by rw [hb2]; exact ext_list x 8 16
    cases hc : val ((x.data.toList.drop 8).take 8) with
    | none =>
      refine .inr ⟨by unfold unf1; rw [hv, hc]; simp, unf_none (f3_of_f2 ?_)⟩
      unfold St.f2
      rw [hf1]
      show (St.number ⟨x, 8, 0⟩ 4).1.err ≠ 0
      rw [St.number_none ⟨x, 8, 0⟩ 4 (by decide) (by rw [hbt2]; exact hc)]
      exact St.back_ne _ _ _ (by decide)
    | some c =>
      have hf2 : St.f2 ⟨x, 0, 0⟩ = (⟨x, 16, 0⟩, c) := by
        unfold St.f2
        rw [hf1]
        show St.number ⟨x, 8, 0⟩ 4 = _
        rw [St.number_some ⟨x, 8, 0⟩ 4 c (by decide) (by rw [hbt2]; exact hc), hb2]
        rfl
      by_cases hlen : x.size < 16 + n
      · refine .inr ⟨by unfold unf1; rw [hv]; simp only; rw [if_pos (.inl (by omega))], unf_none ?_⟩
        unfold St.f3
        rw [hf1, hf2]
        show (St.bytes ⟨x, 16, 0⟩ n).1.err ≠ 0
        rw [St.bytes_cut _ _ (by omega) (by show (x.size : Int) - (16 : Nat) < n; omega)]
        exact St.fail_ne _ _ (by decide)
      have hf3 : St.f3 ⟨x, 0, 0⟩ = (⟨x, 16 + n, 0⟩, x.extract 16 (16 + n)) := by
        unfold St.f3
        rw [hf1, hf2]
        show St.bytes ⟨x, 16, 0⟩ n = _
        rw [St.bytes_ok _ _ rfl (by omega) (by show ¬ (x.size : Int) - (16 : Nat) < n; omega)]
        simp
      have ht : (x.extract 16 (16 + n)).data.toList = (x.data.toList.drop 16).take n := by rw [ext_list, Nat.add_sub_cancel_left]
      have htl : ((x.data.toList.drop 16).take n).length = n := by simp only [List.length_take, List.length_drop]; omega
      have htx : (textB (x.extract 16 (16 + n))).data.toList = num 8 n ++ (x.data.toList.drop 16).take n := by
        unfold textB
        have hxs : (x.extract 16 (16 + n)).size = n := by rw [ByteArray.size_extract]; omega
        rw [ByteArray.data_append, Array.toList_append, ht, numB_list, hxs]
      by_cases hck : c = fnv (num 8 n ++ (x.data.toList.drop 16).take n)
      · refine .inl ⟨(x.data.toList.drop 16).take n, ?_, ?_⟩
        · unfold unf1; rw [hv, hc]; simp only; rw [if_neg (by omega), if_pos (by rw [hck])]
        · unfold unf
          rw [hf3, hf2]
          simp only [ne_eq, not_true_eq_false, if_false]
          rw [htx, if_neg (by simpa using hck), htl]
          refine Prod.ext ?_ (Prod.ext ?_ rfl)
          · show x.extract 16 (16 + n) = _
            rw [← ht, Array.toArray_toList]
          · show (p : Int) + ((16 + n : Nat) : Int) = ((p + (16 + n) : Nat) : Int)
            omega
      · refine .inr ⟨?_, 6, by decide, ?_⟩
        · unfold unf1; rw [hv, hc]; simp only; rw [if_neg (by omega), if_neg (by simpa using hck)]
        · unfold unf
          rw [hf3, hf2]
          simp only [ne_eq, not_true_eq_false, if_false]
          rw [htx, if_pos (by simpa using hck)]
theorem unframe_is (s : ByteArray) (p : Nat) (hp : p ≤ s.size) : (∃ t, unf1 (s.data.toList.drop p) = some t ∧ unframe s p = (⟨t.toArray⟩, ((p + (16 + t.length) : Nat) : Int), 0)) ∨ (unf1 (s.data.toList.drop p) = none ∧ ∃ e, e ≠ 0 ∧ unframe s p = (⟨#[]⟩, 0, e)) := by
  have h := unf_is (s.extract p s.size) p
  rw [ext_list, List.take_of_length_le (by simp)] at h
  unfold unframe
  rw [if_neg (by omega), Int.toNat_natCast]
  exact h
/-! ### records -/
def frs : List Bs → Bs
  | [] => []
  | r :: l => fr (114 :: r) ++ frs l
theorem frs_append (l m : List Bs) : frs (l ++ m) = frs l ++ frs m := by
  induction l with
  | nil => rfl
  | cons r l ih => show fr (114 :: r) ++ frs (l ++ m) = _; rw [ih, ← List.append_assoc]; rfl
def recsF : Nat → Bs → List Bs
  | 0, _ => []
  | k + 1, s => match unf1 s with
    | some (c :: r) => if c = 114 then r :: recsF k (s.drop (17 + r.length)) else []
    | _ => []
/-- The records that bytes begin with. -/
def recs (s : Bs) : List Bs := recsF s.length s
theorem recsF_nil (k : Nat) : recsF k [] = [] := by cases k <;> rfl
theorem recsF_more : ∀ (k : Nat) (s : Bs), s.length ≤ k → recsF (k + 1) s = recsF k s
  | 0, s, h => by rw [List.length_eq_zero_iff.1 (Nat.le_zero.1 h)]; rfl
  | k + 1, s, h => by
    show (match unf1 s with | some (c :: r) => if c = 114 then r :: recsF (k + 1) (s.drop (17 + r.length)) else [] | _ => []) = (match unf1 s with | some (c :: r) => if c = 114 then r :: recsF k (s.drop (17 + r.length)) else [] | _ => [])
    split
    · rename_i c r _
      rw [recsF_more k _ (by simp; omega)]
    · rfl
theorem recsF_enough {k : Nat} {s : Bs} (h : s.length ≤ k) : recsF k s = recs s := by
  obtain ⟨j, rfl⟩ := Nat.exists_eq_add_of_le h
  clear h
  induction j with
  | zero => rfl
  | succ j ih => rw [← Nat.add_assoc, recsF_more _ _ (by omega), ih]
theorem recs_eq (s : Bs) : recs s = match unf1 s with | some (c :: r) => if c = 114 then r :: recs (s.drop (17 + r.length)) else [] | _ => [] := by
  rw [← recsF_enough (Nat.le_succ s.length)]
  show (match unf1 s with | some (c :: r) => if c = 114 then r :: recsF s.length (s.drop (17 + r.length)) else [] | _ => []) = _
  split
  · rename_i c r _
    rw [recsF_enough (by simp)]
  · rfl
theorem recs_none {s : Bs} (h : unf1 s = none) : recs s = [] := by rw [recs_eq, h]
theorem recs_other {s t : Bs} (h : unf1 s = some t) (ht : ∀ r, t ≠ 114 :: r) : recs s = [] := by
  rw [recs_eq, h]
  cases t with
  | nil => rfl
  | cons c r => simp only; rw [if_neg (fun e => ht r (by rw [e]))]
theorem recs_some {s r : Bs} (h : unf1 s = some (114 :: r)) : recs s = r :: recs (s.drop (17 + r.length)) := by
  rw [recs_eq, h]; simp
theorem recs_cons (r s : Bs) (hr : r.length < 2147483647) : recs (fr (114 :: r) ++ s) = r :: recs s := by
  rw [recs_some (unf1_fr _ _ (by simp; omega)), List.drop_left' (by rw [fr_length]; simp; omega)]
theorem recs_frs : ∀ (l : List Bs) (s : Bs), (∀ r ∈ l, r.length < 2147483647) → recs (frs l ++ s) = l ++ recs s
  | [], _, _ => rfl
  | r :: l, s, h => by
    show recs (fr (114 :: r) ++ frs l ++ s) = _
    rw [List.append_assoc, recs_cons _ _ (h r (by simp)), recs_frs l s fun x hx => h x (by simp [hx])]
    rfl
/-- Bytes are the frames of their records, and something behind of which there is none. -/
theorem recs_pre : ∀ (k : Nat) (s : Bs), s.length ≤ k → (∀ r ∈ recs s, r.length < 2147483647) ∧ ∃ rest, s = frs (recs s) ++ rest ∧ recs rest = []
  | 0, s, h => by rw [List.length_eq_zero_iff.1 (Nat.le_zero.1 h)]; exact ⟨by simp [recs, recsF], [], rfl, rfl⟩
  | k + 1, s, h => by
    cases hu : unf1 s with
    | none => rw [recs_none hu]; exact ⟨by simp, s, rfl, recs_none hu⟩
    | some t =>
      by_cases ht : ∃ r, t = 114 :: r
      · obtain ⟨r, rfl⟩ := ht
        obtain ⟨hl, rest, hs⟩ := unf1_some hu
        have hd : s.drop (17 + r.length) = rest := by rw [hs, List.drop_left' (by rw [fr_length]; simp; omega)]
        have hlr : rest.length ≤ k := by rw [hs, List.length_append, fr_length] at h; omega
        obtain ⟨h1, rest', h2, h3⟩ := recs_pre k rest hlr
        rw [recs_some hu, hd]
        refine ⟨fun x hx => ?_, rest', ?_, h3⟩
        · rcases List.mem_cons.1 hx with rfl | hx
          · have : (114 :: x).length = x.length + 1 := rfl
            omega
          · exact h1 x hx
        · show s = fr (114 :: r) ++ frs (recs rest) ++ rest'
          rw [List.append_assoc, ← h2]; exact hs
      · have := recs_other hu fun r e => ht ⟨r, e⟩
        rw [this]
        exact ⟨by simp, s, rfl, this⟩
theorem recs_spec (s : Bs) : ∃ rest, s = frs (recs s) ++ rest ∧ recs rest = [] := (recs_pre _ s (Nat.le_refl _)).2
theorem recs_small (s : Bs) : ∀ r ∈ recs s, r.length < 2147483647 := (recs_pre _ s (Nat.le_refl _)).1
/-- What is left of frames when they are cut: the first records. -/
theorem recs_take : ∀ (l : List Bs) (m : Nat), (∀ r ∈ l, r.length < 2147483647) → ∃ j, recs ((frs l).take m) = l.take j
  | [], m, _ => ⟨0, by simp [frs, recs, recsF]⟩
  | r :: l, m, h => by
    show ∃ j, recs ((fr (114 :: r) ++ frs l).take m) = _
    by_cases hm : m < (fr (114 :: r)).length
    · refine ⟨0, ?_⟩
      rw [List.take_append_of_le_length (by omega), recs_none (unf1_short hm (by have := h r (by simp); simp; omega))]
      rfl
    · obtain ⟨j, hj⟩ := recs_take l (m - (fr (114 :: r)).length) fun x hx => h x (by simp [hx])
      refine ⟨j + 1, ?_⟩
      rw [List.take_append, List.take_of_length_le (by omega), recs_cons _ _ (h r (by simp)), hj]
      rfl
/-! ### heads -/
def hd (b : Bool) : Bs := fr (if b = true then [66] else [71])
theorem hd_length (b : Bool) : (hd b).length = 17 := by unfold hd; rw [fr_length]; cases b <;> rfl
def head (s : Bs) : Option Bool := match unf1 s with | some t => if t = [66] then some true else if t = [71] then some false else none | none => none
theorem head_hd (b : Bool) (s : Bs) : head (hd b ++ s) = some b := by
  unfold head hd
  rw [unf1_fr _ _ (by cases b <;> decide)]
  cases b <;> rfl
theorem head_some {s : Bs} {b : Bool} (h : head s = some b) : ∃ rest, s = hd b ++ rest := by
  unfold head at h
  cases hu : unf1 s with
  | none => rw [hu] at h; cases h
  | some t =>
    rw [hu] at h
    obtain ⟨_, rest, hs⟩ := unf1_some hu
    simp only at h
    split at h
    · rename_i ht
      cases h
      exact ⟨rest, by rw [hs, ht]; rfl⟩
    · split at h
      · rename_i ht
        cases h
        exact ⟨rest, by rw [hs, ht]; rfl⟩
      · cases h
theorem head_short {b : Bool} {m : Nat} (hm : m < 17) : head ((hd b).take m) = none := by
  unfold head hd
  rw [unf1_short (by rw [fr_length]; cases b <;> exact hm) (by cases b <;> decide)]
/-- Records of a segment, and how many of its bytes count. -/
def body (s : Bs) : List Bs := recs (s.drop 17)
def whole (s : Bs) : Nat := 17 + (frs (body s)).length
theorem whole_le {s : Bs} {b : Bool} (h : head s = some b) : whole s ≤ s.length := by
  obtain ⟨rest, rfl⟩ := head_some h
  unfold whole body
  rw [List.drop_left' (hd_length b)]
  obtain ⟨r2, h2, _⟩ := recs_spec rest
  have := congrArg List.length h2
  simp only [List.length_append, hd_length] at this ⊢
  omega
/-- What counts of a segment. -/
theorem take_whole {s : Bs} {b : Bool} (h : head s = some b) : s.take (whole s) = hd b ++ frs (body s) := by
  obtain ⟨rest, rfl⟩ := head_some h
  unfold whole body
  rw [List.drop_left' (hd_length b)]
  obtain ⟨r2, h2, _⟩ := recs_spec rest
  rw [List.take_append, List.take_of_length_le (by rw [hd_length]; omega), hd_length, Nat.add_sub_cancel_left]
  congr 1
  generalize frs (recs rest) = f at h2
  rw [h2, List.take_left]
theorem body_laid (b : Bool) (l : List Bs) (h : ∀ r ∈ l, r.length < 2147483647) : body (hd b ++ frs l) = l := by
  unfold body
  rw [List.drop_left' (hd_length b)]
  have := recs_frs l [] h
  rw [List.append_nil] at this
  rw [this]
  simp [recs, recsF]
theorem whole_laid (b : Bool) (l : List Bs) (h : ∀ r ∈ l, r.length < 2147483647) : whole (hd b ++ frs l) = (hd b ++ frs l).length := by
  unfold whole
  rw [body_laid b l h, List.length_append, hd_length]
end Go.Wal
/- Contracts: records as frames; the head and the records that bytes begin with. -/
namespace Go.Wal
open Go.RowKit Go.Dk Go.Wire
/-- The slice value v holds these texts. -/
def Texts (w : World) (v : Value) (ls : List Bs) : Prop :=
  ∃ a c, v = .slice a ls.length c ∧ ls.length ≤ c ∧ ∀ j l, ls[j]? = some l → ∃ b off, a = some ⟨b, off, none⟩ ∧ w.cell? ⟨b, off + j, none⟩ = some (.string ⟨l.toArray⟩)
theorem cell_lt {w : World} {b k : Nat} {v : Value} (h : w.cell? ⟨b, k, none⟩ = some v) : b < w.heap.size := by
  unfold World.cell? at h
  rcases Nat.lt_or_ge b w.heap.size with h' | h'
  · exact h'
  · simp [Array.getElem?_eq_none h'] at h
theorem Texts.below {w w' : World} {v : Value} {ls : List Bs} (h : Texts w v ls) (hb : Below w.heap.size w w') : Texts w' v ls := by
  obtain ⟨a, c, h1, h2, h3⟩ := h
  refine ⟨a, c, h1, h2, fun j l hj => ?_⟩
  obtain ⟨b, off, hb1, hb2⟩ := h3 j l hj
  exact ⟨b, off, hb1, (hb.cell (p := ⟨b, off + j, none⟩) (cell_lt hb2)).trans hb2⟩
theorem Texts.of_own {w : World} {base : Nat} {v : Value} {ls : List Bs} (h : w.ownsRow base 9 1 v ls.length (ls.map fun l => Value.string ⟨l.toArray⟩)) : Texts w v ls := by
  rcases h.2 with ⟨h1, h2⟩ | ⟨g, cap, cur, h1, _, h3, h4, _, h6, h7⟩
  · have : ls = [] := List.length_eq_zero_iff.1 h2
    subst this
    exact ⟨none, 0, h1, Nat.le_refl _, fun j l hj => by simp at hj⟩
  · refine ⟨_, cap, h1, h4, fun j l hj => ⟨g, 0, rfl, ?_⟩⟩
    have hjl := (List.getElem?_eq_some_iff.1 hj).1
    rw [Nat.zero_add, cell_of_row _ _ _ _ _ _ h3, ← Array.getElem?_toList]
    have : (cur.toList.take (ls.length * 1))[j]? = cur.toList[j]? := List.getElem?_take_of_lt (by omega)
    rw [← this, h7, List.getElem?_map, hj]
    rfl
theorem own_form {w : World} {base e k n : Nat} {v : Value} {xs : List Value} (h : w.ownsRow base e k v n xs) : ∃ a c, v = .slice a n c := by
  rcases h.2 with ⟨h1, h2⟩ | ⟨g, cap, cur, h1, _⟩
  · exact ⟨none, 0, by rw [h2]; exact h1⟩
  · exact ⟨_, _, h1⟩
theorem own_below {w w' : World} {base e k n : Nat} {v : Value} {xs : List Value} (h : w.ownsRow base e k v n xs) (hb : Below w.heap.size w w') : w'.ownsRow base e k v n xs :=
  ownsRow_kept h fun g hg => hb.block g (by obtain ⟨cur, hc⟩ := ownsRow_tag h hg; exact block_lt hc)
theorem has_r {t : Bs} (h : Lib.hasPrefix t [114] = true) : ∃ r, t = 114 :: r := by
  cases t with
  | nil => cases h
  | cons c r =>
    unfold Lib.hasPrefix at h
    simp only [List.isPrefixOf, Bool.and_true, beq_iff_eq] at h
    exact ⟨r, by rw [h]⟩
theorem has_no {t : Bs} (h : Lib.hasPrefix t [114] = false) : ∀ r, t ≠ 114 :: r := fun r e => by
  rw [e] at h
  unfold Lib.hasPrefix at h
  simp [List.isPrefixOf] at h
theorem frs_take (ls : List Bs) (i : Nat) (l : Bs) (h : ls[i]? = some l) : frs (ls.take (i + 1)) = frs (ls.take i) ++ fr (114 :: l) := by
  rw [List.take_add_one, h, frs_append]
  show frs (ls.take i) ++ (fr (114 :: l) ++ []) = _
  rw [List.append_nil]
theorem frs_length {M : Nat} : ∀ (ls : List Bs), (∀ l ∈ ls, l.length ≤ M) → (frs ls).length ≤ ls.length * (M + 17)
  | [], _ => Nat.zero_le _
  | l :: ls, h => by
    show (fr (114 :: l) ++ frs ls).length ≤ _
    have h1 := frs_length ls fun x hx => h x (by simp [hx])
    have h2 := h l (by simp)
    rw [List.length_append, fr_length, List.length_cons, List.length_cons, Nat.add_mul]
    omega
theorem frame_fr (t : Bs) : (frameB ⟨t.toArray⟩) = ⟨(fr t).toArray⟩ := by
  apply ByteArray.ext
  unfold frameB fr textB numB
  simp only [ByteArray.data_append, ByteArray.size, List.append_toArray, List.size_toArray]
end Go.Wal
namespace Go.Proofs.YtoineobjmllicaaGreatDoor
open Go.RowKit Go.Dk Go.Wire Go.Wal
set_option maxHeartbeats 1000000 in
theorem frames_any (v : Value) (ls : List Bs) (w : World) (h : Texts w v ls) (hs : ∀ l ∈ ls, l.length ≤ 1000) (hn : ls.length ≤ 1000) :
    Calls Tryz.prog 42 #[v] w fun e w' => e = .returned (.string ⟨(frs ls).toArray⟩) ∧ Below w.heap.size w w' := by
  obtain ⟨a, c, rfl, hc, hcells⟩ := h
  have HC := hide hcells
  have HS := hide hs
  clear hs hcells
  go_enter Tryz.func42, Tryz.ntmps42
  go_wp2_with (go_at_call 74; refine (newWriter_any _).mono ?_; rintro e w1 ⟨rfl, h1, k1⟩; have H1 := hide (And.intro h1 k1); clear h1 k1)
  go_loopw [9] (fun vi wr => ∃ i : Nat, i ≤ ls.length ∧ vi = .int .i64 i ∧ Hid (Wr 144 w.heap.size w.heap.size (frs (ls.take i)) wr ∧ Below w.heap.size w wr)) (fun vi _ => ls.length - (intOf vi).toNat)
  case atStart => exact ⟨0, Nat.zero_le _, rfl, H1.out⟩
  case round =>
    obtain ⟨i, hi, rfl, HH⟩ := hrel
    by_cases hlt : i < ls.length
    · obtain ⟨l, hl⟩ : ∃ l, ls[i]? = some l := ⟨_, List.getElem?_eq_getElem hlt⟩
      obtain ⟨b, off, rfl, hcell⟩ := HC.out i l hl
      have hll := HS.out l (List.mem_of_getElem? hl)
      have q0 : wr.cell? ⟨b, off + i, none⟩ = some (.string ⟨l.toArray⟩) := (HH.out.2.cell (p := ⟨b, off + i, none⟩) (cell_lt hcell)).trans hcell
      have hlz : (⟨l.toArray⟩ : ByteArray).size ≤ 1000 := by rw [ba_size]; exact hll
      have HF : Hid (∀ w2, Calls Tryz.prog 41 #[.string (⟨#[114]⟩ ++ ⟨l.toArray⟩)] w2 fun e w' => e = .returned (.string ⟨(fr (114 :: l)).toArray⟩) ∧ Below w2.heap.size w2 w') := fun w2 => by
        have hx : (⟨#[114]⟩ : ByteArray) ++ ⟨l.toArray⟩ = ⟨(114 :: l).toArray⟩ := ba_append [114] l
        rw [hx, ← frame_fr]
        exact frame_any _ w2 (by rw [ba_size, List.length_cons]; omega)
      have HB : Hid (∀ w2, Below wr.heap.size wr w2 → Calls Tryz.prog 75 #[.pointer (some ⟨w.heap.size, 0, none⟩), .string ⟨(fr (114 :: l)).toArray⟩] w2 fun e w' => e = .returned (.tuple #[]) ∧ Wr 144 w.heap.size w.heap.size (frs (ls.take (i + 1))) w' ∧ Below w.heap.size w w') := fun w2 h2 => by
        have hlen : (frs (ls.take i)).length ≤ 1000 * 1017 := Nat.le_trans (frs_length (M := 1000) _ fun x hx => HS.out x (List.mem_of_mem_take hx)) (Nat.mul_le_mul (by rw [List.length_take]; omega) (Nat.le_refl _))
        have hb2 := HH.out.2.trans (h2.mono HH.out.2.size)
        refine (wbytes_any w.heap.size _ _ _ w2 (.inr ⟨_, rfl, HH.out.1.below h2⟩) (.inr (by rw [ba_size, fr_length, List.length_cons]; omega)) hb2.size).mono ?_
        rintro e w' ⟨he, h3, k3⟩
        refine ⟨he, ?_, hb2.trans k3⟩
        rcases h3 with h3 | ⟨b3, h3, h4⟩
        · cases h3
        · cases h3
          rw [frs_take ls i l hl]
          exact h4
      clear hcell hl
      go_wp2_with (first
        | (go_at_call 41; refine (HF.out _).mono ?_; rintro e w2 ⟨rfl, k2⟩; have K2 := hide k2; clear k2)
        | (go_at_call 75; refine (HB.out _ K2.out).mono ?_; rintro e w3 ⟨rfl, h3, k3⟩; have H3 := hide (And.intro h3 k3); clear h3 k3))
      exact ⟨⟨i + 1, by omega, by go_num, H3.out⟩, by simp [intOf]; omega⟩
    · have he : i = ls.length := by omega
      subst he
      have HALL : Hid (Calls Tryz.prog 76 #[.pointer (some ⟨w.heap.size, 0, none⟩)] wr fun e w' => e = .returned (.string ⟨(frs ls).toArray⟩) ∧ Below w.heap.size w w') := by
        have hw := HH.out.1
        rw [List.take_length] at hw
        exact (all_any w.heap.size _ _ wr HH.out.2.size hw).mono fun e w' ⟨he, _, k⟩ => ⟨he, HH.out.2.trans k⟩
      go_wp2_with (go_at_call 76; refine (HALL.out).mono ?_; rintro e w2 ⟨rfl, k2⟩)
      go_ret
      exact ⟨rfl, k2⟩
theorem unframe_l (s : Bs) (p : Nat) (w : World) (hs : s.length ≤ 1000000) (hp : p ≤ s.length) :
    (∃ t, unf1 (s.drop p) = some t ∧ t.length ≤ s.length ∧ Calls Tryz.prog 111 #[.string ⟨s.toArray⟩, .int .i64 p] w fun e w' => e = .returned (.tuple #[.string ⟨t.toArray⟩, .int .i64 ((p + (16 + t.length) : Nat) : Int), .int .i64 0]) ∧ Below w.heap.size w w') ∨
    (unf1 (s.drop p) = none ∧ ∃ x, x ≠ 0 ∧ Calls Tryz.prog 111 #[.string ⟨s.toArray⟩, .int .i64 p] w fun e w' => e = .returned (.tuple #[.string ⟨#[]⟩, .int .i64 0, .int .i64 x]) ∧ Below w.heap.size w w') := by
  have hu := unframe_any ⟨s.toArray⟩ p w (by rw [ba_size]; exact hs)
  rcases unframe_is ⟨s.toArray⟩ p (by rw [ba_size]; exact hp) with ⟨t, h1, h2⟩ | ⟨h1, x, h2, h3⟩
  · rw [h2] at hu
    have h1' : unf1 (s.drop p) = some t := by simpa using h1
    refine .inl ⟨t, h1', ?_, hu⟩
    obtain ⟨_, r, hr⟩ := unf1_some h1'
    have := congrArg List.length hr
    rw [List.length_drop, List.length_append, fr_length] at this
    omega
  · rw [h3] at hu
    exact .inr ⟨by simpa using h1, x, h2, hu⟩
theorem takeHead_any (s : Bs) (w : World) (hs : s.length ≤ 1000000) :
    Calls Tryz.prog 92 #[.string ⟨s.toArray⟩] w fun e w' => e = .returned (match head s with | some true => .tuple #[.string ⟨#[66]⟩, .int .i64 17] | some false => .tuple #[.string ⟨#[71]⟩, .int .i64 17] | none => .tuple #[.string ⟨#[]⟩, .int .i64 0]) ∧ Below w.heap.size w w' := by
  rcases unframe_l s 0 w hs (Nat.zero_le _) with ⟨t, h1, _, h2⟩ | ⟨h1, x, hx, h2⟩
  · rw [List.drop_zero] at h1
    unfold head
    rw [h1]
    have HU := hide h2
    clear h2
    by_cases hB : t = [66]
    · subst hB
      go_enter Tryz.func92, Tryz.ntmps92
      go_wp2_with (go_at_call 111; refine (HU.out).mono ?_; rintro e w1 ⟨rfl, k1⟩)
      go_ret2
      exact ⟨rfl, k1⟩
    · by_cases hG : t = [71]
      · subst hG
        go_enter Tryz.func92, Tryz.ntmps92
        go_wp2_with (go_at_call 111; refine (HU.out).mono ?_; rintro e w1 ⟨rfl, k1⟩)
        go_ret2
        exact ⟨rfl, k1⟩
      · have hb : (t == [66]) = false := by simpa using hB
        have hg : (t == [71]) = false := by simpa using hG
        simp only [if_neg hB, if_neg hG]
        go_enter Tryz.func92, Tryz.ntmps92
        go_wp2_with (go_at_call 111; refine (HU.out).mono ?_; rintro e w1 ⟨rfl, k1⟩)
        go_ret2
        exact ⟨rfl, k1⟩
  · rw [List.drop_zero] at h1
    unfold head
    rw [h1]
    have HU := hide h2
    have hxb : (x == 0) = false := by simpa using hx
    clear h2
    go_enter Tryz.func92, Tryz.ntmps92
    go_wp2_with (go_at_call 111; refine (HU.out).mono ?_; rintro e w1 ⟨rfl, k1⟩)
    go_ret2
    exact ⟨rfl, k1⟩
theorem under_strs : Tryz.prog.underlying 30 = some (.slice 9) := by kernel_rfl
theorem info_str : (Tryz.prog.info? 9).map (fun i => (i.zero, i.size, i.bytes)) = some (some (.string ⟨#[]⟩), 1, 16) := by kernel_rfl
abbrev txs (ls : List Bs) : List Value := ls.map fun l => Value.string ⟨l.toArray⟩
set_option maxHeartbeats 2000000 in
theorem takeRecords_any (s : Bs) (p : Nat) (w : World) (hs : s.length ≤ 1000000) (hp : p ≤ s.length) :
    Calls Tryz.prog 94 #[.string ⟨s.toArray⟩, .int .i64 p] w fun e w' => ∃ v, e = .returned (.tuple #[v, .int .i64 ((p + (frs (recs (s.drop p))).length : Nat) : Int)]) ∧ w'.ownsRow w.heap.size 9 1 v (recs (s.drop p)).length (txs (recs (s.drop p))) ∧ Below w.heap.size w w' := by
  obtain ⟨i9, hi9, hz0, hz1, hz2⟩ := info_parts info_str
  have HU : Hid (∀ (q : Nat) (w1 : World), q ≤ s.length → (∃ t, unf1 (s.drop q) = some t ∧ t.length ≤ s.length ∧ Calls Tryz.prog 111 #[.string ⟨s.toArray⟩, .int .i64 q] w1 fun e w' => e = .returned (.tuple #[.string ⟨t.toArray⟩, .int .i64 ((q + (16 + t.length) : Nat) : Int), .int .i64 0]) ∧ Below w1.heap.size w1 w') ∨
    (unf1 (s.drop q) = none ∧ ∃ x, x ≠ 0 ∧ Calls Tryz.prog 111 #[.string ⟨s.toArray⟩, .int .i64 q] w1 fun e w' => e = .returned (.tuple #[.string ⟨#[]⟩, .int .i64 0, .int .i64 x]) ∧ Below w1.heap.size w1 w')) := fun q w1 hq => unframe_l s q w1 hs hq
  have HCUT : Hid (∀ (t : Bs) (w1 : World), Calls Tryz.prog 112 #[.string ⟨t.toArray⟩, .string ⟨#[114]⟩] w1 fun e w' => e = .returned (.tuple #[.string ⟨(Lib.trimPrefix t [114]).toArray⟩, .bool (Lib.hasPrefix t [114])]) ∧ w' = w1) := fun t w1 => Any.strings_CutPrefix cutL ⟨t.toArray⟩ ⟨#[114]⟩ w1
  generalize hR : recs (s.drop p) = R
  have hRl : 17 * R.length ≤ s.length := by
    obtain ⟨rest, h1, _⟩ := recs_spec (s.drop p)
    rw [hR] at h1
    have := congrArg List.length h1
    rw [List.length_drop, List.length_append] at this
    have h17 : ∀ l : List Bs, 17 * l.length ≤ (frs l).length := fun l => by
      induction l with
      | nil => exact Nat.le_refl _
      | cons r l ih => show _ ≤ (fr (114 :: r) ++ frs l).length; rw [List.length_append, fr_length, List.length_cons, List.length_cons]; omega
    have := h17 R
    omega
  have HR : Hid (recs (s.drop p) = R) := hR
  clear hR
  go_enter Tryz.func94, Tryz.ntmps94
  go_wp2_with fail
  go_loopw [1, 6] (fun va vr wr => ∃ (q : Nat) (done : List Bs), q ≤ s.length ∧ va = .int .i64 q ∧ done.length ≤ R.length ∧ Hid (wr.ownsRow w.heap.size 9 1 vr done.length (txs done) ∧ Below w.heap.size w wr ∧ q = p + (frs done).length ∧ done ++ recs (s.drop q) = R)) (fun va _ _ => s.length - (intOf va).toNat)
  case atStart => exact ⟨p, [], hp, rfl, Nat.zero_le _, World.ownsRow_nil _ _ _ _, Below.refl _ _, rfl, HR.out⟩
  case round =>
    obtain ⟨q, done, hq, rfl, hdl, HH⟩ := hrel
    rcases HU.out q wr hq with ⟨t, h1, htl, h2⟩ | ⟨h1, x, hx, h2⟩
    · have H1 := hide h1
      have H2 := hide h2
      clear h1 h2
      obtain ⟨ra, rc, rfl⟩ := own_form HH.out.1
      cases hp1 : Lib.hasPrefix t [114] with
      | true =>
        obtain ⟨r, rfl⟩ := has_r hp1
        have HC1 : Hid (∀ w1 : World, Calls Tryz.prog 112 #[.string ⟨(114 :: r).toArray⟩, .string ⟨#[114]⟩] w1 fun e w' => e = .returned (.tuple #[.string ⟨r.toArray⟩, .bool true]) ∧ w' = w1) := fun w1 => by
          have := HCUT.out (114 :: r) w1
          rw [hp1, show Lib.trimPrefix (114 :: r) [114] = r by unfold Lib.trimPrefix; rw [hp1]; rfl] at this
          exact this
        have hrl : r.length + 1 ≤ s.length := by rw [List.length_cons] at htl; exact htl
        have HNX : Hid (q + (16 + (r.length + 1)) ≤ s.length ∧ q + (16 + (r.length + 1)) = p + (frs (done ++ [r])).length ∧ (done ++ [r]) ++ recs (s.drop (q + (16 + (r.length + 1)))) = R) := by
          obtain ⟨_, rest, hr⟩ := unf1_some H1.out
          have hl := congrArg List.length hr
          rw [List.length_drop, List.length_append, fr_length, List.length_cons] at hl
          refine ⟨by omega, ?_, ?_⟩
          · rw [frs_append, List.length_append, show frs [r] = fr (114 :: r) from List.append_nil _, fr_length, List.length_cons]
            have := HH.out.2.2.1
            omega
          · have h4 := HH.out.2.2.2
            rw [recs_some H1.out, List.drop_drop] at h4
            rw [← h4, List.append_assoc, show q + (16 + (r.length + 1)) = q + (17 + r.length) by omega]
            rfl
        have hdr : done.length + 1 ≤ R.length := by
          have := congrArg List.length HNX.out.2.2
          rw [List.length_append, List.length_append] at this
          simp only [List.length_cons, List.length_nil] at this
          omega
        clear H1 hp1 HCUT HU
        go_wp2_with (first
          | (go_at_call 111; refine (H2.out).mono ?_; rintro e w1 ⟨rfl, k1⟩; have K1 := hide k1; clear k1)
          | (go_at_call 112; refine (HC1.out _).mono ?_; rintro e w2 ⟨rfl, rfl⟩)
          | (at_builtin; refine wpList_append_lies _ rfl _ _ 30 rfl w.heap.size 9 i9 (.string ⟨#[]⟩) 1 16 under_strs hi9 hz0 hz1 hz2 rfl (by decide) _ _ _ rfl ((own_below HH.out.1 K1.out).alloc _) ⟨w2.heap.size, 0, none⟩ 1 1 [.string ⟨r.toArray⟩] rfl rfl ?a1 ?a2 (by decide) ?a3 ?a4 ?a5 (w2.heap.size + 1) (by simp) ?_))
        case a1 => exact cell_one_new _ _ _
        case a2 => intro u hu; simp at hu; subst hu; rfl
        case a3 => unfold maxLen; omega
        case a4 => omega
        case a5 => have h1 := HH.out.2.1.size; have h2 := K1.out.size; simp; omega
        intro g cap w3 hown hgrow _ _
        have H3 : Hid (w3.ownsRow w.heap.size 9 1 (.slice (some ⟨g, 0, none⟩) (done.length + 1) cap) (done ++ [r]).length (txs (done ++ [r])) ∧ Below w.heap.size w w3) := by
          have hb1 : Below w.heap.size w w2 := HH.out.2.1.trans (K1.out.mono HH.out.2.1.size)
          have hb2 := hb1.alloc hb1.size (.cells #[.string ⟨r.toArray⟩] 9)
          refine ⟨?_, hb2.grown hgrow hb2.size fun k e => ownsRow_ge HH.out.1 e⟩
          rw [List.length_append]
          unfold txs
          rw [List.map_append]
          exact hown
        clear hown hgrow
        go_wp2_with fail
        exact ⟨⟨q + (16 + (r.length + 1)), done ++ [r], HNX.out.1, by first | rfl | go_num, by rw [List.length_append]; exact hdr, H3.out.1, H3.out.2, HNX.out.2.1, HNX.out.2.2⟩, by have := HNX.out.1; simp [intOf]; omega⟩
      | false =>
        have HC1 : Hid (∀ w1 : World, Calls Tryz.prog 112 #[.string ⟨t.toArray⟩, .string ⟨#[114]⟩] w1 fun e w' => (∃ c, e = .returned (.tuple #[.string c, .bool false])) ∧ w' = w1) := fun w1 => by
          have := HCUT.out t w1
          rw [hp1] at this
          exact this.mono fun e w' ⟨he, hw⟩ => ⟨⟨_, he⟩, hw⟩
        have HE : Hid (done = R) := by
          have h4 := HH.out.2.2.2
          rw [recs_other H1.out (has_no hp1), List.append_nil] at h4
          exact h4
        clear H1 hp1 HCUT HU
        go_wp2_with (first
          | (go_at_call 111; refine (H2.out).mono ?_; rintro e w1 ⟨rfl, k1⟩; have K1 := hide k1; clear k1)
          | (go_at_call 112; refine (HC1.out _).mono ?_; rintro e w2 ⟨⟨c, rfl⟩, rfl⟩))
        go_ret2
        have h1 := HE.out
        subst h1
        exact ⟨.slice ra done.length rc, by rw [← HH.out.2.2.1]; rfl, own_below HH.out.1 K1.out, HH.out.2.1.trans (K1.out.mono HH.out.2.1.size)⟩
    · have H2 := hide h2
      have hxb : (x == 0) = false := by simpa using hx
      have HC1 : Hid (∀ w1 : World, Calls Tryz.prog 112 #[.string ⟨#[]⟩, .string ⟨#[114]⟩] w1 fun e w' => (∃ c, e = .returned (.tuple #[.string c, .bool false])) ∧ w' = w1) := fun w1 => (HCUT.out [] w1).mono fun e w' ⟨he, hw⟩ => ⟨⟨_, he⟩, hw⟩
      have HE : Hid (done = R) := by
        have h4 := HH.out.2.2.2
        rw [recs_none h1, List.append_nil] at h4
        exact h4
      obtain ⟨ra, rc, rfl⟩ := own_form HH.out.1
      clear h1 h2 HCUT HU
      go_wp2_with (first
        | (go_at_call 111; refine (H2.out).mono ?_; rintro e w1 ⟨rfl, k1⟩; have K1 := hide k1; clear k1)
        | (go_at_call 112; refine (HC1.out _).mono ?_; rintro e w2 ⟨⟨c, rfl⟩, rfl⟩))
      go_ret2
      have h1 := HE.out
      subst h1
      exact ⟨.slice ra done.length rc, by rw [← HH.out.2.2.1]; rfl, own_below HH.out.1 K1.out, HH.out.2.1.trans (K1.out.mono HH.out.2.1.size)⟩
end Go.Proofs.YtoineobjmllicaaGreatDoor
