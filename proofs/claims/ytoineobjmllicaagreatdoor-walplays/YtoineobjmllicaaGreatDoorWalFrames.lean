/- Frames one behind the other, as bytes: what a segment's bytes say; plain data and functions, of no program. -/
import Derived.Test.YtoineobjmllicaaGreatDoorWireUnframe
import Derived.Test.YtoineobjmllicaaGreatDoorDkOne
namespace Go.Wal
open Go.Wire
open Go.Dk (Bs)
/-- A frame. -/
def fr (t : Bs) : Bs := num 8 t.length ++ num 8 (fnv (num 8 t.length ++ t)) ++ t
theorem fr_length (t : Bs) : (fr t).length = 16 + t.length := by simp [fr, num_length]; omega
theorem hexd_dig {c : UInt8} {d : Nat} (h : dig c = some d) : hexd d = c := by
  have hc := c.toNat_lt
  unfold dig at h
  split at h
  · rename_i h'
    cases h
    unfold hexd
    rw [if_pos (by omega), show 48 + (c.toNat - 48) = c.toNat by omega]
    simp
  · split at h
    · rename_i h'
      cases h
      unfold hexd
      rw [if_neg (by omega), show 87 + (c.toNat - 87) = c.toNat by omega]
      simp
    · cases h
theorem num_val : ∀ (k : Nat) (l : Bs) (n : Nat), l.length = k → val l = some n → l = num k n
  | 0, l, n, hl, _ => by rw [List.length_eq_zero_iff.1 hl]; rfl
  | k + 1, l, n, hl, hv => by
    rcases List.eq_nil_or_concat l with rfl | ⟨l', c, rfl⟩
    · cases hl
    · rw [List.concat_eq_append] at hv hl ⊢
      rw [val_snoc] at hv
      unfold vstep at hv
      cases hm : val l' with
      | none => rw [hm] at hv; cases hv
      | some m =>
        rw [hm] at hv
        simp only [Option.bind_some] at hv
        cases hd : dig c with
        | none => rw [hd] at hv; cases hv
        | some d =>
          rw [hd] at hv
          simp only [Option.map_some, Option.some.injEq] at hv
          have hd16 := dig_lt hd
          have h1 : n / 16 = m := by omega
          have h2 : n % 16 = d := by omega
          rw [num, h1, h2, hexd_dig hd, ← num_val k l' m (by simpa using hl) hm]
theorem val_num8 {n : Nat} (h : n < 4294967296) : val (num 8 n) = some n := by
  rw [val_num, Nat.mod_eq_of_lt (by simpa using h)]
/-- The text of the frame that bytes begin with. -/
def unf1 (s : Bs) : Option Bs :=
  match val (s.take 8) with
  | none => none
  | some n => if s.length < 16 + n ∨ 2147483647 < n then none else if val ((s.drop 8).take 8) = some (fnv (num 8 n ++ (s.drop 16).take n)) then some ((s.drop 16).take n) else none
theorem unf1_fr (t r : Bs) (ht : t.length ≤ 2147483647) : unf1 (fr t ++ r) = some t := by
  have h1 : (fr t ++ r).take 8 = num 8 t.length := by
    unfold fr
    rw [List.append_assoc, List.append_assoc, List.take_append_of_le_length (by rw [num_length]; exact Nat.le_refl _), List.take_of_length_le (by rw [num_length]; exact Nat.le_refl _)]
  have h8 : (fr t ++ r).drop 8 = num 8 (fnv (num 8 t.length ++ t)) ++ (t ++ r) := by
    unfold fr
    rw [List.append_assoc, List.append_assoc, List.drop_left' (num_length _ _)]
  have h16 : (fr t ++ r).drop 16 = t ++ r := by
    rw [show 16 = 8 + 8 from rfl, ← List.drop_drop, h8, List.drop_left' (num_length _ _)]
  unfold unf1
  rw [h1, val_num8 (by omega)]
  show (if _ then _ else _) = _
  rw [if_neg (by rw [List.length_append, fr_length]; omega), h16, List.take_left, h8, List.take_append_of_le_length (by rw [num_length]; exact Nat.le_refl _), List.take_of_length_le (by rw [num_length]; exact Nat.le_refl _), val_num8 (fnv_lt _), if_pos rfl]
theorem unf1_some {s t : Bs} (h : unf1 s = some t) : t.length ≤ 2147483647 ∧ ∃ r, s = fr t ++ r := by
  unfold unf1 at h
  cases hv : val (s.take 8) with
  | none => rw [hv] at h; cases h
  | some n =>
    rw [hv] at h
    simp only at h
    split at h
    · cases h
    · rename_i hn
      split at h
      · rename_i hc
        cases h
        have hl : s.length ≥ 16 + n := by omega
        have ht : ((s.drop 16).take n).length = n := by simp; omega
        refine ⟨by rw [ht]; omega, s.drop (16 + n), ?_⟩
        unfold fr
        rw [ht, ← num_val 8 _ _ (by simp; omega) hc, ← num_val 8 _ n (by simp; omega) hv]
        rw [show s.drop (16 + n) = (s.drop 16).drop n by rw [List.drop_drop], List.append_assoc, List.take_append_drop, show s.drop 16 = (s.drop 8).drop 8 by rw [List.drop_drop], List.append_assoc, List.take_append_drop, List.take_append_drop]
      · cases h
/-- What is no whole frame ahead: too short. -/
theorem unf1_short {t : Bs} {m : Nat} (hm : m < (fr t).length) (ht : t.length ≤ 2147483647) : unf1 ((fr t).take m) = none := by
  rw [fr_length] at hm
  unfold unf1
  cases hv : val (((fr t).take m).take 8) with
  | none => rfl
  | some n =>
    simp only
    have hl : ((fr t).take m).length = m := by simp [fr_length]; omega
    rw [hl]
    by_cases h8 : m < 16
    · rw [if_pos (by omega)]
    · have h1 : ((fr t).take m).take 8 = num 8 t.length := by
        rw [List.take_take, Nat.min_eq_left (by omega)]
        unfold fr
        rw [List.append_assoc, List.take_append_of_le_length (by rw [num_length]; exact Nat.le_refl _), List.take_of_length_le (by rw [num_length]; exact Nat.le_refl _)]
      rw [h1, val_num8 (by omega)] at hv
      cases hv
      rw [if_pos (by omega)]
theorem ext_list (s : ByteArray) (a b : Nat) : (s.extract a b).data.toList = (s.data.toList.drop a).take (b - a) := by
  rw [ByteArray.data_extract, Array.toList_extract, List.extract_eq_take_drop]
theorem unf_none {q : St} {p : Int} (h : q.f3.1.err ≠ 0) : ∃ e, e ≠ 0 ∧ unf q p = (⟨#[]⟩, 0, e) := ⟨_, h, by unfold unf; rw [if_pos h]⟩
theorem f3_of_f2 {q : St} (h : q.f2.1.err ≠ 0) : q.f3.1.err ≠ 0 := by unfold St.f3; rw [St.bytes_err _ _ h]; exact h
theorem f2_of_f1 {q : St} (h : q.f1.1.err ≠ 0) : q.f2.1.err ≠ 0 := by unfold St.f2; rw [St.err_keeps _ h]; exact h
theorem unf_is (x : ByteArray) (p : Nat) : (∃ t, unf1 x.data.toList = some t ∧ unf ⟨x, 0, 0⟩ p = (⟨t.toArray⟩, ((p + (16 + t.length) : Nat) : Int), 0)) ∨ (unf1 x.data.toList = none ∧ ∃ e, e ≠ 0 ∧ unf ⟨x, 0, 0⟩ p = (⟨#[]⟩, 0, e)) := by
  have hsz : x.data.toList.length = x.size := by simp
  by_cases h8 : x.size < 8
  · refine .inr ⟨?_, unf_none (f3_of_f2 (f2_of_f1 ?_))⟩
    · unfold unf1
      cases val (x.data.toList.take 8) with
      | none => rfl
      | some n => simp only; rw [if_pos (by omega)]
    · have hb := St.bytes_cut ⟨x, 0, 0⟩ (2 * 4) (by decide) (by show (x.size : Int) - (0 : Nat) < 2 * 4; omega)
      have hn : (St.number ⟨x, 0, 0⟩ 4).1.err ≠ 0 := by
        rw [St.number_some ⟨x, 0, 0⟩ 4 0 (by decide) (by rw [hb]; rfl), hb]
        exact St.fail_ne _ _ (by decide)
      unfold St.f1
      rw [St.count]
      rw [if_neg (fun h => hn h.1)]
      exact hn
  have hb := St.bytes_ok ⟨x, 0, 0⟩ (2 * 4) rfl (by decide) (by show ¬ (x.size : Int) - (0 : Nat) < 2 * 4; omega)
  have hl8 : (x.extract 0 8).data.toList = x.data.toList.take 8 := by rw [ext_list]; rfl
  have hbt : (St.bytes ⟨x, 0, 0⟩ (2 * 4)).2.data.toList = x.data.toList.take 8 := by rw [hb]; exact hl8
  cases hv : val (x.data.toList.take 8) with
  | none =>
    refine .inr ⟨by unfold unf1; rw [hv], unf_none (f3_of_f2 (f2_of_f1 ?_))⟩
    have hn : (St.number ⟨x, 0, 0⟩ 4).1.err ≠ 0 := by
      rw [St.number_none ⟨x, 0, 0⟩ 4 (by decide) (by rw [hbt]; exact hv)]
      exact St.back_ne _ _ _ (by decide)
    unfold St.f1
    rw [St.count, if_neg (fun h => hn h.1)]
    exact hn
  | some n =>
    have hnum : St.number ⟨x, 0, 0⟩ 4 = (⟨x, 8, 0⟩, n) := by rw [St.number_some ⟨x, 0, 0⟩ 4 n (by decide) (by rw [hbt]; exact hv), hb]; rfl
    by_cases hbig : 2147483647 < n
    · refine .inr ⟨by unfold unf1; rw [hv]; simp only; rw [if_pos (.inr hbig)], unf_none (f3_of_f2 (f2_of_f1 ?_))⟩
      unfold St.f1
      rw [St.count_no _ _ (.inr (by rw [hnum]; show (2147483647 : Int) < (n : Int); omega))]
      exact St.back_ne _ _ _ (by decide)
    have hf1 : St.f1 ⟨x, 0, 0⟩ = (⟨x, 8, 0⟩, n) := by
      unfold St.f1
      rw [St.count_yes _ _ (by rw [hnum]; show ¬ ((2147483647 : Int) < 0 ∨ (2147483647 : Int) < (n : Int)); omega)]
      exact hnum
    by_cases h16 : x.size < 16
    · refine .inr ⟨by unfold unf1; rw [hv]; simp only; rw [if_pos (.inl (by omega))], unf_none (f3_of_f2 ?_)⟩
      have hb2 := St.bytes_cut ⟨x, 8, 0⟩ (2 * 4) (by decide) (by show (x.size : Int) - (8 : Nat) < 2 * 4; omega)
      unfold St.f2
      rw [hf1]
      show (St.number ⟨x, 8, 0⟩ 4).1.err ≠ 0
      rw [St.number_some ⟨x, 8, 0⟩ 4 0 (by decide) (by rw [hb2]; rfl), hb2]
      exact St.fail_ne _ _ (by decide)
    have hb2 := St.bytes_ok ⟨x, 8, 0⟩ (2 * 4) rfl (by decide) (by show ¬ (x.size : Int) - (8 : Nat) < 2 * 4; omega)
    have hbt2 : (St.bytes ⟨x, 8, 0⟩ (2 * 4)).2.data.toList = (x.data.toList.drop 8).take 8 := by rw [hb2]; exact ext_list x 8 16
    cases hc : val ((x.data.toList.drop 8).take 8) with
    | none =>
      refine .inr ⟨by unfold unf1; rw [hv, hc]; simp, unf_none (f3_of_f2 ?_)⟩
      unfold St.f2
      rw [hf1]
      show (St.number ⟨x, 8, 0⟩ 4).1.err ≠ 0
      rw [St.number_none ⟨x, 8, 0⟩ 4 (by decide) (by rw [hbt2]; exact hc)]
      exact St.back_ne _ _ _ (by decide)
    | some c =>
      have hf2 : St.f2 ⟨x, 0, 0⟩ = (⟨x, 16, 0⟩, c) := by
        unfold St.f2
        rw [hf1]
        show St.number ⟨x, 8, 0⟩ 4 = _
        rw [St.number_some ⟨x, 8, 0⟩ 4 c (by decide) (by rw [hbt2]; exact hc), hb2]
        rfl
      by_cases hlen : x.size < 16 + n
      · refine .inr ⟨by unfold unf1; rw [hv]; simp only; rw [if_pos (.inl (by omega))], unf_none ?_⟩
        unfold St.f3
        rw [hf1, hf2]
        show (St.bytes ⟨x, 16, 0⟩ n).1.err ≠ 0
        rw [St.bytes_cut _ _ (by omega) (by show (x.size : Int) - (16 : Nat) < n; omega)]
        exact St.fail_ne _ _ (by decide)
      have hf3 : St.f3 ⟨x, 0, 0⟩ = (⟨x, 16 + n, 0⟩, x.extract 16 (16 + n)) := by
        unfold St.f3
        rw [hf1, hf2]
        show St.bytes ⟨x, 16, 0⟩ n = _
        rw [St.bytes_ok _ _ rfl (by omega) (by show ¬ (x.size : Int) - (16 : Nat) < n; omega)]
        simp
      have ht : (x.extract 16 (16 + n)).data.toList = (x.data.toList.drop 16).take n := by rw [ext_list, Nat.add_sub_cancel_left]
      have htl : ((x.data.toList.drop 16).take n).length = n := by simp only [List.length_take, List.length_drop]; omega
      have htx : (textB (x.extract 16 (16 + n))).data.toList = num 8 n ++ (x.data.toList.drop 16).take n := by
        unfold textB
        have hxs : (x.extract 16 (16 + n)).size = n := by rw [ByteArray.size_extract]; omega
        rw [ByteArray.data_append, Array.toList_append, ht, numB_list, hxs]
      by_cases hck : c = fnv (num 8 n ++ (x.data.toList.drop 16).take n)
      · refine .inl ⟨(x.data.toList.drop 16).take n, ?_, ?_⟩
        · unfold unf1; rw [hv, hc]; simp only; rw [if_neg (by omega), if_pos (by rw [hck])]
        · unfold unf
          rw [hf3, hf2]
          simp only [ne_eq, not_true_eq_false, if_false]
          rw [htx, if_neg (by simpa using hck), htl]
          refine Prod.ext ?_ (Prod.ext ?_ rfl)
          · show x.extract 16 (16 + n) = _
            rw [← ht, Array.toArray_toList]
          · show (p : Int) + ((16 + n : Nat) : Int) = ((p + (16 + n) : Nat) : Int)
            omega
      · refine .inr ⟨?_, 6, by decide, ?_⟩
        · unfold unf1; rw [hv, hc]; simp only; rw [if_neg (by omega), if_neg (by simpa using hck)]
        · unfold unf
          rw [hf3, hf2]
          simp only [ne_eq, not_true_eq_false, if_false]
          rw [htx, if_pos (by simpa using hck)]
theorem unframe_is (s : ByteArray) (p : Nat) (hp : p ≤ s.size) : (∃ t, unf1 (s.data.toList.drop p) = some t ∧ unframe s p = (⟨t.toArray⟩, ((p + (16 + t.length) : Nat) : Int), 0)) ∨ (unf1 (s.data.toList.drop p) = none ∧ ∃ e, e ≠ 0 ∧ unframe s p = (⟨#[]⟩, 0, e)) := by
  have h := unf_is (s.extract p s.size) p
  rw [ext_list, List.take_of_length_le (by simp)] at h
  unfold unframe
  rw [if_neg (by omega), Int.toNat_natCast]
  exact h
/-! ### records -/
def frs : List Bs → Bs
  | [] => []
  | r :: l => fr (114 :: r) ++ frs l
theorem frs_append (l m : List Bs) : frs (l ++ m) = frs l ++ frs m := by
  induction l with
  | nil => rfl
  | cons r l ih => show fr (114 :: r) ++ frs (l ++ m) = _; rw [ih, ← List.append_assoc]; rfl
def recsF : Nat → Bs → List Bs
  | 0, _ => []
  | k + 1, s => match unf1 s with
    | some (c :: r) => if c = 114 then r :: recsF k (s.drop (17 + r.length)) else []
    | _ => []
/-- The records that bytes begin with. -/
def recs (s : Bs) : List Bs := recsF s.length s
theorem recsF_nil (k : Nat) : recsF k [] = [] := by cases k <;> rfl
theorem recsF_more : ∀ (k : Nat) (s : Bs), s.length ≤ k → recsF (k + 1) s = recsF k s
  | 0, s, h => by rw [List.length_eq_zero_iff.1 (Nat.le_zero.1 h)]; rfl
  | k + 1, s, h => by
    show (match unf1 s with | some (c :: r) => if c = 114 then r :: recsF (k + 1) (s.drop (17 + r.length)) else [] | _ => []) = (match unf1 s with | some (c :: r) => if c = 114 then r :: recsF k (s.drop (17 + r.length)) else [] | _ => [])
    split
    · rename_i c r _
      rw [recsF_more k _ (by simp; omega)]
    · rfl
theorem recsF_enough {k : Nat} {s : Bs} (h : s.length ≤ k) : recsF k s = recs s := by
  obtain ⟨j, rfl⟩ := Nat.exists_eq_add_of_le h
  clear h
  induction j with
  | zero => rfl
  | succ j ih => rw [← Nat.add_assoc, recsF_more _ _ (by omega), ih]
theorem recs_eq (s : Bs) : recs s = match unf1 s with | some (c :: r) => if c = 114 then r :: recs (s.drop (17 + r.length)) else [] | _ => [] := by
  rw [← recsF_enough (Nat.le_succ s.length)]
  show (match unf1 s with | some (c :: r) => if c = 114 then r :: recsF s.length (s.drop (17 + r.length)) else [] | _ => []) = _
  split
  · rename_i c r _
    rw [recsF_enough (by simp)]
  · rfl
theorem recs_none {s : Bs} (h : unf1 s = none) : recs s = [] := by rw [recs_eq, h]
theorem recs_other {s t : Bs} (h : unf1 s = some t) (ht : ∀ r, t ≠ 114 :: r) : recs s = [] := by
  rw [recs_eq, h]
  cases t with
  | nil => rfl
  | cons c r => simp only; rw [if_neg (fun e => ht r (by rw [e]))]
theorem recs_some {s r : Bs} (h : unf1 s = some (114 :: r)) : recs s = r :: recs (s.drop (17 + r.length)) := by
  rw [recs_eq, h]; simp
theorem recs_cons (r s : Bs) (hr : r.length < 2147483647) : recs (fr (114 :: r) ++ s) = r :: recs s := by
  rw [recs_some (unf1_fr _ _ (by simp; omega)), List.drop_left' (by rw [fr_length]; simp; omega)]
theorem recs_frs : ∀ (l : List Bs) (s : Bs), (∀ r ∈ l, r.length < 2147483647) → recs (frs l ++ s) = l ++ recs s
  | [], _, _ => rfl
  | r :: l, s, h => by
    show recs (fr (114 :: r) ++ frs l ++ s) = _
    rw [List.append_assoc, recs_cons _ _ (h r (by simp)), recs_frs l s fun x hx => h x (by simp [hx])]
    rfl
/-- Bytes are the frames of their records, and something behind of which there is none. -/
theorem recs_pre : ∀ (k : Nat) (s : Bs), s.length ≤ k → (∀ r ∈ recs s, r.length < 2147483647) ∧ ∃ rest, s = frs (recs s) ++ rest ∧ recs rest = []
  | 0, s, h => by rw [List.length_eq_zero_iff.1 (Nat.le_zero.1 h)]; exact ⟨by simp [recs, recsF], [], rfl, rfl⟩
  | k + 1, s, h => by
    cases hu : unf1 s with
    | none => rw [recs_none hu]; exact ⟨by simp, s, rfl, recs_none hu⟩
    | some t =>
      by_cases ht : ∃ r, t = 114 :: r
      · obtain ⟨r, rfl⟩ := ht
        obtain ⟨hl, rest, hs⟩ := unf1_some hu
        have hd : s.drop (17 + r.length) = rest := by rw [hs, List.drop_left' (by rw [fr_length]; simp; omega)]
        have hlr : rest.length ≤ k := by rw [hs, List.length_append, fr_length] at h; omega
        obtain ⟨h1, rest', h2, h3⟩ := recs_pre k rest hlr
        rw [recs_some hu, hd]
        refine ⟨fun x hx => ?_, rest', ?_, h3⟩
        · rcases List.mem_cons.1 hx with rfl | hx
          · have : (114 :: x).length = x.length + 1 := rfl
            omega
          · exact h1 x hx
        · show s = fr (114 :: r) ++ frs (recs rest) ++ rest'
          rw [List.append_assoc, ← h2]; exact hs
      · have := recs_other hu fun r e => ht ⟨r, e⟩
        rw [this]
        exact ⟨by simp, s, rfl, this⟩
theorem recs_spec (s : Bs) : ∃ rest, s = frs (recs s) ++ rest ∧ recs rest = [] := (recs_pre _ s (Nat.le_refl _)).2
theorem recs_small (s : Bs) : ∀ r ∈ recs s, r.length < 2147483647 := (recs_pre _ s (Nat.le_refl _)).1
/-- What is left of frames when they are cut: the first records. -/
theorem recs_take : ∀ (l : List Bs) (m : Nat), (∀ r ∈ l, r.length < 2147483647) → ∃ j, recs ((frs l).take m) = l.take j
  | [], m, _ => ⟨0, by simp [frs, recs, recsF]⟩
  | r :: l, m, h => by
    show ∃ j, recs ((fr (114 :: r) ++ frs l).take m) = _
    by_cases hm : m < (fr (114 :: r)).length
    · refine ⟨0, ?_⟩
      rw [List.take_append_of_le_length (by omega), recs_none (unf1_short hm (by have := h r (by simp); simp; omega))]
      rfl
    · obtain ⟨j, hj⟩ := recs_take l (m - (fr (114 :: r)).length) fun x hx => h x (by simp [hx])
      refine ⟨j + 1, ?_⟩
      rw [List.take_append, List.take_of_length_le (by omega), recs_cons _ _ (h r (by simp)), hj]
      rfl
/-! ### heads -/
def hd (b : Bool) : Bs := fr (if b = true then [66] else [71])
theorem hd_length (b : Bool) : (hd b).length = 17 := by unfold hd; rw [fr_length]; cases b <;> rfl
def head (s : Bs) : Option Bool := match unf1 s with | some t => if t = [66] then some true else if t = [71] then some false else none | none => none
theorem head_hd (b : Bool) (s : Bs) : head (hd b ++ s) = some b := by
  unfold head hd
  rw [unf1_fr _ _ (by cases b <;> decide)]
  cases b <;> rfl
theorem head_some {s : Bs} {b : Bool} (h : head s = some b) : ∃ rest, s = hd b ++ rest := by
  unfold head at h
  cases hu : unf1 s with
  | none => rw [hu] at h; cases h
  | some t =>
    rw [hu] at h
    obtain ⟨_, rest, hs⟩ := unf1_some hu
    simp only at h
    split at h
    · rename_i ht
      cases h
      exact ⟨rest, by rw [hs, ht]; rfl⟩
    · split at h
      · rename_i ht
        cases h
        exact ⟨rest, by rw [hs, ht]; rfl⟩
      · cases h
theorem head_short {b : Bool} {m : Nat} (hm : m < 17) : head ((hd b).take m) = none := by
  unfold head hd
  rw [unf1_short (by rw [fr_length]; cases b <;> exact hm) (by cases b <;> decide)]
/-- Records of a segment, and how many of its bytes count. -/
def body (s : Bs) : List Bs := recs (s.drop 17)
def whole (s : Bs) : Nat := 17 + (frs (body s)).length
theorem whole_le {s : Bs} {b : Bool} (h : head s = some b) : whole s ≤ s.length := by
  obtain ⟨rest, rfl⟩ := head_some h
  unfold whole body
  rw [List.drop_left' (hd_length b)]
  obtain ⟨r2, h2, _⟩ := recs_spec rest
  have := congrArg List.length h2
  simp only [List.length_append, hd_length] at this ⊢
  omega
/-- What counts of a segment. -/
theorem take_whole {s : Bs} {b : Bool} (h : head s = some b) : s.take (whole s) = hd b ++ frs (body s) := by
  obtain ⟨rest, rfl⟩ := head_some h
  unfold whole body
  rw [List.drop_left' (hd_length b)]
  obtain ⟨r2, h2, _⟩ := recs_spec rest
  rw [List.take_append, List.take_of_length_le (by rw [hd_length]; omega), hd_length, Nat.add_sub_cancel_left]
  congr 1
  generalize frs (recs rest) = f at h2
  rw [h2, List.take_left]
theorem body_laid (b : Bool) (l : List Bs) (h : ∀ r ∈ l, r.length < 2147483647) : body (hd b ++ frs l) = l := by
  unfold body
  rw [List.drop_left' (hd_length b)]
  have := recs_frs l [] h
  rw [List.append_nil] at this
  rw [this]
  simp [recs, recsF]
theorem whole_laid (b : Bool) (l : List Bs) (h : ∀ r ∈ l, r.length < 2147483647) : whole (hd b ++ frs l) = (hd b ++ frs l).length := by
  unfold whole
  rw [body_laid b l h, List.length_append, hd_length]
end Go.Wal
