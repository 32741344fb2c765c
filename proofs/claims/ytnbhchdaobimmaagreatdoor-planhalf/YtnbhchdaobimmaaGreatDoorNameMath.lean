/- Names as lists of bytes: which may be, small, fixed, with a number behind them; the first one that nobody has; of no program. -/
import Derived.Lib.ItoaNum
namespace Go.Names
abbrev Bs := List UInt8
def bad : Bs := [47, 92, 58, 42, 63, 34, 60, 62, 124]
/-- A byte that may stand. -/
def okB (c : UInt8) : Bool := decide (33 ≤ c.toNat) && decide (c.toNat ≤ 126) && !bad.contains c
def endsWell (l : Bs) : Bool := l.getLast? != some 46
/-- A text that may be a name. -/
def legal (l : Bs) : Bool := decide (1 ≤ l.length) && decide (l.length ≤ 32) && l.all okB && endsWell l
def low (c : UInt8) : UInt8 := if 65 ≤ c.toNat ∧ c.toNat ≤ 90 then c + 32 else c
/-- Small. -/
def fold (l : Bs) : Bs := l.map low
theorem fold_append (a b : Bs) : fold (a ++ b) = fold a ++ fold b := List.map_append
theorem fold_length (a : Bs) : (fold a).length = a.length := List.length_map _
def fixB (c : UInt8) : UInt8 := if okB c then c else 95
def fixL (c : UInt8) : UInt8 := if fixB c = 46 then 95 else fixB c
/-- Fixed: of some bytes. -/
def fixN (b : Bs) : Bs := b.dropLast.map fixB ++ (match b.getLast? with | some c => [fixL c] | none => [])
/-- Fixed. -/
def fix (l : Bs) : Bs := if l = [] then [95] else fixN (l.take 32)
theorem ok95 : okB 95 = true := by decide
theorem fixN_snoc (b : Bs) (c : UInt8) : fixN (b ++ [c]) = b.map fixB ++ [fixL c] := by simp [fixN]
theorem fixB_ok (c : UInt8) : okB (fixB c) = true := by unfold fixB; split <;> first | assumption | exact ok95
theorem fixL_ok (c : UInt8) : okB (fixL c) = true := by unfold fixL; split; exact ok95; exact fixB_ok c
theorem fixL_ne (c : UInt8) : fixL c ≠ 46 := by unfold fixL; split; decide; assumption
theorem snoc_of {b : Bs} (h : b ≠ []) : ∃ a c, b = a ++ [c] := ⟨b.dropLast, b.getLast h, (List.dropLast_concat_getLast h).symm⟩
theorem take_ne {l : Bs} (h : l ≠ []) : l.take 32 ≠ [] := by
 cases l with
 | nil => exact absurd rfl h
 | cons a r => simp
theorem legal_snoc (a : Bs) (c : UInt8) : legal (a ++ [c]) = (decide (a.length + 1 ≤ 32) && (a.all okB && okB c) && (c != 46)) := by
 have e : (some c != some (46 : UInt8)) = (c != 46) := by
  by_cases h : c = 46
  ·subst h; rfl
  ·rw [bne_iff_ne.2 h, bne_iff_ne.2 (fun h2 => h (Option.some.inj h2))]
 simp [legal, endsWell, e]
theorem legal_fix (l : Bs) : legal (fix l) = true := by
 unfold fix
 split
 ·decide
 ·rename_i h
  obtain ⟨a, c, e⟩ := snoc_of (take_ne h)
  have hl : a.length + 1 ≤ 32 := by
   have := congrArg List.length e
   rw [List.length_take, List.length_append] at this
   simp at this
   omega
  rw [e, fixN_snoc, legal_snoc]
  simp only [List.length_map, hl, decide_true, Bool.true_and, Bool.and_eq_true, List.all_eq_true, List.mem_map, bne_iff_ne, ne_eq]
  refine ⟨⟨?_, fixL_ok c⟩, fixL_ne c⟩
  rintro x ⟨y, _, rfl⟩
  exact fixB_ok y
theorem fix_length (l : Bs) : 1 ≤ (fix l).length ∧ (fix l).length ≤ 32 := by
 have := legal_fix l
 simp only [legal, Bool.and_eq_true, decide_eq_true_eq] at this
 exact this.1.1
theorem fixB_id {c : UInt8} (h : okB c = true) : fixB c = c := by unfold fixB; rw [if_pos h]
/-- A number's digits. -/
def dig (n : Nat) : Bs := Lib.decDigits n
def nd (n : Nat) : Nat := Lib.nDigits n
theorem dig_small {n : Nat} (h : n < 10) : dig n = [UInt8.ofNat (48 + n)] := by unfold dig; rw [Lib.decDigits, dif_pos h]
theorem dig_big {n : Nat} (h : ¬ n < 10) : dig n = dig (n / 10) ++ [UInt8.ofNat (48 + n % 10)] := by unfold dig; rw [Lib.decDigits, dif_neg h]
theorem dig_length (n : Nat) : (dig n).length = nd n := Lib.decDigits_length n
theorem nd_small {n : Nat} (h : n < 10) : nd n = 1 := Lib.nDigits_small h
theorem nd_big {n : Nat} (h : ¬ n < 10) : nd n = nd (n / 10) + 1 := Lib.nDigits_big h
def isDig (c : UInt8) : Prop := 48 ≤ c.toNat ∧ c.toNat ≤ 57
theorem isDig_of (k : Nat) (h : k < 10) : isDig (UInt8.ofNat (48 + k)) := by
 unfold isDig
 rw [UInt8.toNat_ofNat']
 omega
theorem dig_dig : ∀ (f n : Nat), n < f → ∀ c ∈ dig n, isDig c
 | 0, n, h, _, _ => absurd h (Nat.not_lt_zero _)
 | f + 1, n, h, c, hc => by
  by_cases h9 : n < 10
  ·rw [dig_small h9] at hc
   rw [List.mem_singleton.1 hc]
   exact isDig_of n h9
  ·rw [dig_big h9] at hc
   rcases List.mem_append.1 hc with hc | hc
   ·exact dig_dig f (n / 10) (by omega) c hc
   ·rw [List.mem_singleton.1 hc]
    exact isDig_of _ (by omega)
theorem dig_is {n : Nat} : ∀ c ∈ dig n, isDig c := dig_dig (n + 1) n (Nat.lt_succ_self n)
theorem low_dig {c : UInt8} (h : isDig c) : low c = c := by unfold low isDig at *; rw [if_neg (by omega)]
theorem low_dig' {c : UInt8} (h : isDig c) : okB c = true := by
 have h1 : ∀ k : Fin 10, okB (UInt8.ofNat (48 + k.val)) = true := by decide
 obtain ⟨h2, h3⟩ := h
 have h4 := h1 ⟨c.toNat - 48, by omega⟩
 have h5 : UInt8.ofNat (48 + (c.toNat - 48)) = c := by rw [show 48 + (c.toNat - 48) = c.toNat by omega]; simp
 simp only [h5] at h4
 exact h4
theorem fold_dig (n : Nat) : fold (dig n) = dig n := by
 unfold fold
 conv => rhs; rw [← List.map_id (dig n)]
 exact List.map_congr_left fun c hc => low_dig (dig_is c hc)
/-- What a list of digits tells. -/
def val (l : Bs) : Nat := l.foldl (fun a c => 10 * a + (c.toNat - 48)) 0
theorem val_dig : ∀ (f n : Nat), n < f → val (dig n) = n
 | 0, n, h => absurd h (Nat.not_lt_zero _)
 | f + 1, n, h => by
  by_cases h9 : n < 10
  ·rw [dig_small h9]
   show 10 * 0 + ((UInt8.ofNat (48 + n)).toNat - 48) = n
   rw [UInt8.toNat_ofNat']
   omega
  ·rw [dig_big h9]
   have ih := val_dig f (n / 10) (by omega)
   unfold val at ih ⊢
   rw [List.foldl_append, ih]
   show 10 * (n / 10) + ((UInt8.ofNat (48 + n % 10)).toNat - 48) = n
   rw [UInt8.toNat_ofNat']
   omega
theorem dig_inj {m n : Nat} (h : dig m = dig n) : m = n := by
 have h1 := val_dig (m + 1) m (Nat.lt_succ_self m)
 have h2 := val_dig (n + 1) n (Nat.lt_succ_self n)
 rw [h] at h1
 omega
/-- A name with ~ and a number behind it, within 32 bytes. -/
def cand (own : Bs) (n : Nat) : Bs := own.take (31 - nd n) ++ 126 :: dig n
theorem low126 : low 126 = 126 := by decide
theorem fold_cand (own : Bs) (n : Nat) : fold (cand own n) = fold (own.take (31 - nd n)) ++ 126 :: dig n := by
 unfold cand
 rw [fold_append]
 congr 1
 show low 126 :: fold (dig n) = 126 :: dig n
 rw [fold_dig, low126]
theorem split_at {a b x y : Bs} (ha : 126 ∉ a) (hb : 126 ∉ b) (h : a ++ 126 :: x = b ++ 126 :: y) : a = b := by
 induction a generalizing b with
 | nil =>
  cases b with
  | nil => rfl
  | cons c b => simp at h; exact absurd (by rw [← h.1]; simp) hb
 | cons c a ih =>
  cases b with
  | nil => simp at h; exact absurd (by rw [← h.1]; simp) ha
  | cons e b =>
   simp only [List.cons_append, List.cons.injEq] at h
   obtain ⟨rfl, h⟩ := h
   rw [ih (fun hm => ha (by simp [hm])) (fun hm => hb (by simp [hm])) h]
theorem cand_inj {own own' : Bs} {m n : Nat} (h : fold (cand own m) = fold (cand own' n)) : m = n := by
 rw [fold_cand, fold_cand] at h
 have h1 := congrArg List.reverse h
 simp only [List.reverse_append, List.reverse_cons, List.append_assoc, List.singleton_append] at h1
 have hd : ∀ k, (126 : UInt8) ∉ (dig k).reverse := fun k hm => by
  have := dig_is 126 (List.mem_reverse.1 hm)
  revert this
  unfold isDig
  decide
 have h2 := split_at (hd m) (hd n) h1
 exact dig_inj (List.reverse_inj.1 h2)
theorem cand_length {own : Bs} {n : Nat} (h : nd n ≤ 31) : (cand own n).length ≤ 32 := by
 unfold cand
 rw [List.length_append, List.length_take, List.length_cons, dig_length]
 omega
theorem nd_pos (n : Nat) : 1 ≤ nd n := Lib.nDigits_pos n
theorem dig_snoc (n : Nat) : ∃ a c, dig n = a ++ [c] ∧ isDig c := by
 have hne : dig n ≠ [] := fun e => by
  have := dig_length n
  have := nd_pos n
  rw [e] at *
  simp at *
  omega
 obtain ⟨a, c, e⟩ := snoc_of hne
 exact ⟨a, c, e, dig_is c (by rw [e]; simp)⟩
theorem legal_cand {own : Bs} (h : legal own = true) {n : Nat} (hn : nd n ≤ 31) : legal (cand own n) = true := by
 have hl := cand_length (own := own) hn
 obtain ⟨a, c, e, hc⟩ := dig_snoc n
 have e1 : cand own n = (own.take (31 - nd n) ++ 126 :: a) ++ [c] := by unfold cand; rw [e]; simp
 have hown : own.all okB = true := by simp only [legal, Bool.and_eq_true] at h; exact h.1.2
 rw [List.all_eq_true] at hown
 rw [e1] at hl ⊢
 rw [legal_snoc]
 rw [List.length_append] at hl
 simp only [Bool.and_eq_true, decide_eq_true_eq, bne_iff_ne, ne_eq, List.all_eq_true]
 refine ⟨⟨hl, fun x hx => ?_, low_dig' hc⟩, fun e2 => ?_⟩
 ·rcases List.mem_append.1 hx with hx | hx
  ·exact hown x (List.mem_of_mem_take hx)
  ·rcases List.mem_cons.1 hx with rfl | hx
   ·decide
   ·exact low_dig' (dig_is x (by rw [e]; simp [hx]))
 ·subst e2
  revert hc
  unfold isDig
  decide
/-- The name, or with a number. -/
def nth (own : Bs) (n : Nat) : Bs := if n = 0 then own else cand own n
/-- The first number from n on whose name is nobody's. -/
def seek (T : List Bs) (own : Bs) : Nat → Nat → Nat
 | 0, n => n
 | f + 1, n => if fold (nth own n) ∈ T then seek T own f (n + 1) else n
def pickN (T : List Bs) (own : Bs) : Nat := seek T own (T.length + 2) 0
def pick (T : List Bs) (own : Bs) : Bs := nth own (pickN T own)
theorem nodup_le {α : Type} [DecidableEq α] : ∀ {l r : List α}, l.Nodup → (∀ x ∈ l, x ∈ r) → l.length ≤ r.length
 | [], _, _, _ => Nat.zero_le _
 | x :: l, r, hn, h => by
  rw [List.nodup_cons] at hn
  have hx := h x (by simp)
  have ih := nodup_le (l := l) (r := r.erase x) hn.2 fun y hy => (List.mem_erase_of_ne (fun e => by subst e; exact hn.1 hy)).2 (h y (by simp [hy]))
  rw [List.length_erase_of_mem hx] at ih
  have := List.length_pos_of_mem hx
  rw [List.length_cons]
  omega
/-- So many names with numbers are not all somebody's. -/
theorem some_free (T : List Bs) (own : Bs) (k : Nat) (h : T.length < k) : ∃ n, 1 ≤ n ∧ n ≤ k ∧ fold (cand own n) ∉ T := by
 refine Classical.byContradiction fun hc => ?_
 have h1 : ∀ n, 1 ≤ n → n ≤ k → fold (cand own n) ∈ T := fun n h1 h2 => Classical.byContradiction fun h3 => hc ⟨n, h1, h2, h3⟩
 have h2 : (((List.range k).map fun n => fold (cand own (n + 1)))).Nodup := by
  rw [List.nodup_iff_pairwise_ne, List.pairwise_map]
  refine List.Pairwise.imp ?_ (List.nodup_iff_pairwise_ne.1 List.nodup_range)
  intro a b hab he
  have := cand_inj he
  omega
 have := nodup_le h2 (r := T) fun x hx => by
  obtain ⟨n, hn, rfl⟩ := List.mem_map.1 hx
  exact h1 (n + 1) (by omega) (by have := List.mem_range.1 hn; omega)
 simp at this
 omega
theorem seek_spec (T : List Bs) (own : Bs) : ∀ (f n : Nat), (∀ m, m < n → fold (nth own m) ∈ T) → (∃ m, m < n + f ∧ fold (nth own m) ∉ T) → fold (nth own (seek T own f n)) ∉ T ∧ (∀ m, m < seek T own f n → fold (nth own m) ∈ T)
 | 0, n, h, ⟨m, hm, hx⟩ => absurd (h m (by omega)) hx
 | f + 1, n, h, hx => by
  unfold seek
  split
  ·rename_i hin
   refine seek_spec T own f (n + 1) (fun m hm => ?_) ?_
   ·rcases Nat.lt_or_ge m n with h1 | h1
    ·exact h m h1
    ·rw [show m = n by omega]; exact hin
   ·obtain ⟨m, hm, hx⟩ := hx
    exact ⟨m, by omega, hx⟩
  ·rename_i hnot
   exact ⟨hnot, h⟩
theorem pickN_spec (T : List Bs) (own : Bs) : fold (nth own (pickN T own)) ∉ T ∧ (∀ m, m < pickN T own → fold (nth own m) ∈ T) := by
 refine seek_spec T own _ 0 (fun m hm => absurd hm (Nat.not_lt_zero _)) ?_
 obtain ⟨n, h1, h2, h3⟩ := some_free T own (T.length + 1) (Nat.lt_succ_self _)
 refine ⟨n, by omega, ?_⟩
 unfold nth
 rw [if_neg (by omega)]
 exact h3
theorem pickN_le (T : List Bs) (own : Bs) : pickN T own ≤ T.length + 1 := by
 obtain ⟨n, h1, h2, h3⟩ := some_free T own (T.length + 1) (Nat.lt_succ_self _)
 refine Classical.byContradiction fun hc => h3 ?_
 have := (pickN_spec T own).2 n (by omega)
 unfold nth at this
 rwa [if_neg (by omega)] at this
theorem pickN_of {T : List Bs} {own : Bs} {n : Nat} (h1 : fold (nth own n) ∉ T) (h2 : ∀ m, m < n → fold (nth own m) ∈ T) : pickN T own = n := by
 have hs := pickN_spec T own
 rcases Nat.lt_trichotomy (pickN T own) n with h | h | h
 ·exact absurd (h2 _ h) hs.1
 ·exact h
 ·exact absurd (hs.2 n h) h1
theorem pick_own {T : List Bs} {own : Bs} (h : fold own ∉ T) : pick T own = own := by
 unfold pick
 rw [pickN_of (n := 0) (by exact h) (fun m hm => absurd hm (Nat.not_lt_zero _))]
 rfl
theorem pick_free (T : List Bs) (own : Bs) : fold (pick T own) ∉ T := (pickN_spec T own).1
theorem nd_le (n : Nat) (h : n < 1000) : nd n ≤ 3 := by
 by_cases h1 : n < 10
 ·rw [nd_small h1]; omega
 ·rw [nd_big h1]
  by_cases h2 : n / 10 < 10
  ·rw [nd_small h2]; omega
  ·rw [nd_big h2, nd_small (by omega)]; omega
theorem legal_pick {T : List Bs} {own : Bs} (h : legal own = true) (hT : T.length ≤ 900) : legal (pick T own) = true := by
 have := pickN_le T own
 unfold pick nth
 split
 ·exact h
 ·exact legal_cand h (Nat.le_trans (nd_le _ (by omega)) (by omega))
/-- What is assigned to a list of texts. -/
def asg (l : List Bs) : List Bs := l.foldl (fun out o => out ++ [pick (out.map fold) (fix o)]) []
theorem asg_snoc (l : List Bs) (o : Bs) : asg (l ++ [o]) = asg l ++ [pick ((asg l).map fold) (fix o)] := by
 unfold asg
 rw [List.foldl_append]
 rfl
theorem asg_take_succ (l : List Bs) {j : Nat} {o : Bs} (h : l[j]? = some o) : asg (l.take (j + 1)) = asg (l.take j) ++ [pick ((asg (l.take j)).map fold) (fix o)] := by
 rw [← asg_snoc, List.take_add_one, h]
 rfl
theorem snoc_ind {P : List Bs → Prop} (h0 : P []) (h1 : ∀ l o, P l → P (l ++ [o])) (l : List Bs) : P l := by
 have : ∀ r : List Bs, P r.reverse := fun r => by
  induction r with
  | nil => exact h0
  | cons a r ih => rw [List.reverse_cons]; exact h1 _ _ ih
 have := this l.reverse
 rwa [List.reverse_reverse] at this
theorem asg_length (l : List Bs) : (asg l).length = l.length := by
 refine snoc_ind (P := fun l => (asg l).length = l.length) rfl (fun l o ih => ?_) l
 rw [asg_snoc, List.length_append, List.length_append, ih]
 rfl
/-- No two are the same, small. -/
theorem asg_nodup (l : List Bs) : ((asg l).map fold).Nodup := by
 refine snoc_ind (P := fun l => ((asg l).map fold).Nodup) List.nodup_nil (fun l o ih => ?_) l
 rw [asg_snoc, List.map_append, List.nodup_append]
 refine ⟨ih, by simp, fun x hx y hy => ?_⟩
 have : y = fold (pick ((asg l).map fold) (fix o)) := by simpa using hy
 subst this
 exact fun e => pick_free _ _ (e ▸ hx)
theorem asg_legal (l : List Bs) (h : l.length ≤ 900) : ∀ x ∈ asg l, legal x = true := by
 revert h
 refine snoc_ind (P := fun l => l.length ≤ 900 → ∀ x ∈ asg l, legal x = true) (fun _ x hx => by cases hx) (fun l o ih h x hx => ?_) l
 rw [List.length_append] at h
 rw [asg_snoc] at hx
 rcases List.mem_append.1 hx with hx | hx
 ·exact ih (by omega) x hx
 ·rw [List.mem_singleton.1 hx]
  exact legal_pick (legal_fix o) (by rw [List.length_map, asg_length]; omega)
end Go.Names
