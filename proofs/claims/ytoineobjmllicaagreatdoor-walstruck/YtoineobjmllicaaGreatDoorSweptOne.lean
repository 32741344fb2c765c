/- Several texts in one: WalSwept, WalHand, WalLaid, WalReadEnd, WalHalf, WalStrike, WalStruckMath. -/
import Derived.Test.YtoineobjmllicaaGreatDoorWlFour
/- What opening leaves, whatever stands there, where nothing falls: only what counts, and opening once more finds the same; plain. -/
namespace Go.Wal
open Go.Dk
theorem seek_del {k k' : Bs} {l : List AF} : seek AF.name k' (del AF.name k l) = if k' = k then none else seek AF.name k' l := by
  unfold seek del
  rw [List.find?_filter]
  by_cases e : k' = k
  · subst e
    rw [if_pos rfl, List.find?_eq_none]
    intro x _
    simp
  · rw [if_neg e]
    congr 1
    funext g
    by_cases hg : g.name = k'
    · simp [hg, e]
    · simp [hg]
theorem seek_ins {f : AF} {l : List AF} (h : Rises AF.name l) {k' : Bs} : seek AF.name k' (ins AF.name f l) = if k' = f.name then some f else seek AF.name k' l := by
  by_cases e : k' = f.name
  · subst e
    rw [if_pos rfl]
    exact seek_mem h.ins ((mem_ins_iff h).2 (.inl rfl))
  · rw [if_neg e]
    cases hs : seek AF.name k' l with
    | none =>
      cases hs' : seek AF.name k' (ins AF.name f l) with
      | none => rfl
      | some g =>
        obtain ⟨h1, h2⟩ := seek_some hs'
        rcases (mem_ins_iff h).1 h1 with rfl | ⟨h3, _⟩
        · exact absurd h2.symm e
        · exact absurd h2 (seek_none hs g h3)
    | some g =>
      obtain ⟨h1, h2⟩ := seek_some hs
      have := seek_mem h.ins ((mem_ins_iff (f := f) h).2 (.inr ⟨h1, by rw [h2]; exact e⟩))
      rwa [h2] at this
/-- A disk that is up, of which no fall is planned. -/
structure Calm (a : A) : Prop where
  rises : Rises AF.name a.files
  fall : a.fall = none
  down : a.down = false
/-- What the sweep leaves of a segment. -/
def cutAt (l : Lg) (f : AF) : Option AF := if numOf f.name < l.first ∨ l.last < numOf f.name then none else if numOf f.name = l.last ∧ l.size < f.bytes.length then some (f.settle (f.bytes.take l.size)) else some f
theorem numOf_big {n : Nat} {k : Bs} (h : numOf k = n) (hn : 1 ≤ n) : k = seg n := by
  have := numOf_pos (name := k) (by omega)
  rw [h] at this
  exact this
theorem trim_step {a : A} (h : Calm a) (l : Lg) {n : Nat} {s : Bs} (h1 : 1 ≤ n) (hn : n < 9223372036854775808) (hr : readN a.files n = some s) :
    ∃ a' t, trimOf l n s.length a = (a', t, 0) ∧ Calm a' ∧ a'.room = a.room ∧ a'.changes ≤ a.changes + 1 ∧ ∀ k, seek AF.name k a'.files = if k = seg n then (seek AF.name k a.files).bind (cutAt l) else seek AF.name k a.files := by
  unfold readN at hr
  obtain ⟨f, hf, rfl⟩ := Option.map_eq_some_iff.1 hr
  have hnm := (seek_some hf).2
  have hnum : numOf f.name = n := by rw [hnm]; exact numOf_seg n h1 hn
  have hab : ableOf a (seg n) = 0 := by unfold ableOf; rw [h.down, seg_ok n hn]; rfl
  have hh : a.hit = none := by unfold A.hit; rw [h.fall]
  unfold trimOf
  by_cases c1 : n < l.first ∨ l.last < n
  · rw [if_pos c1]
    refine ⟨a.left (del AF.name (seg n) a.files), f.bytes.length, ?_, ⟨h.rises.del, h.fall, h.down⟩, rfl, Nat.le_refl _, fun k => ?_⟩
    · unfold A.doRemove
      rw [hab, if_neg (by decide), hf]
      simp only
      unfold A.change
      rw [hh]
    · show seek AF.name k (del AF.name (seg n) a.files) = _
      rw [seek_del]
      by_cases e : k = seg n
      · subst e
        rw [if_pos rfl, if_pos rfl, hf]
        show none = cutAt l f
        unfold cutAt
        rw [hnum, if_pos c1]
      · rw [if_neg e, if_neg e]
  · rw [if_neg c1]
    by_cases c2 : n = l.last ∧ l.size < f.bytes.length
    · rw [if_pos c2]
      refine ⟨a.left (ins AF.name (f.settle (f.bytes.take l.size)) a.files), f.bytes.length - l.size, ?_, ⟨h.rises.ins, h.fall, h.down⟩, rfl, Nat.le_refl _, fun k => ?_⟩
      · unfold A.doTrunc
        rw [hab, if_neg (by decide), hf]
        simp only
        rw [if_neg (by omega)]
        unfold A.change
        rw [hh]
        rfl
      · show seek AF.name k (ins AF.name (f.settle (f.bytes.take l.size)) a.files) = _
        rw [seek_ins h.rises]
        have e0 : (f.settle (f.bytes.take l.size)).name = seg n := hnm
        rw [e0]
        by_cases e : k = seg n
        · subst e
          rw [if_pos rfl, if_pos rfl, hf]
          show _ = cutAt l f
          unfold cutAt
          rw [hnum, if_neg c1, if_pos c2]
        · rw [if_neg e, if_neg e]
    · rw [if_neg c2]
      refine ⟨a, 0, rfl, h, rfl, Nat.le_succ _, fun k => ?_⟩
      by_cases e : k = seg n
      · subst e
        rw [if_pos rfl, hf]
        show some f = cutAt l f
        unfold cutAt
        rw [hnum, if_neg c1, if_neg c2]
      · rw [if_neg e]
theorem sweep_all (l : Lg) : ∀ (ns : List Nat) (a : A) (c : Nat), Calm a → ns.Nodup → (∀ n ∈ ns, 1 ≤ n ∧ n < 9223372036854775808 ∧ ∃ s, readN a.files n = some s) →
    ∃ a' t, sweepOf l ns a c = (a', t, 0) ∧ Calm a' ∧ a'.room = a.room ∧ ∀ k, seek AF.name k a'.files = if numOf k ∈ ns then (seek AF.name k a.files).bind (cutAt l) else seek AF.name k a.files
  | [], a, c, h, _, _ => ⟨a, c, rfl, h, rfl, fun k => by simp⟩
  | n :: ns, a, c, h, hd, hn => by
    obtain ⟨h1, h2, s, hs⟩ := hn n (List.mem_cons_self ..)
    obtain ⟨hnot, hd'⟩ := List.nodup_cons.1 hd
    obtain ⟨a1, t1, ht, hc1, hr1, _, hk1⟩ := trim_step h l h1 h2 hs
    obtain ⟨a2, t2, hs2, hc2, hr2, hk2⟩ := sweep_all l ns a1 (if 0 < l.first ∧ l.first ≤ n then c + t1 else c) hc1 hd' fun m hm => by
      obtain ⟨g1, g2, s', g3⟩ := hn m (List.mem_cons_of_mem _ hm)
      refine ⟨g1, g2, s', ?_⟩
      unfold readN at g3 ⊢
      rw [hk1, if_neg (fun e => hnot (by rw [← seg_inj g2 h2 e]; exact hm))]
      exact g3
    refine ⟨a2, t2, ?_, hc2, hr2.trans hr1, fun k => ?_⟩
    · rw [sweepOf_go hs (by rw [ht]), ht]
      exact hs2
    · rw [hk2, hk1]
      by_cases e : numOf k = n
      · have ek := numOf_big e h1
        rw [if_neg (by rw [e]; exact hnot), if_pos ek, if_pos (by rw [e]; exact List.mem_cons_self ..)]
      · have ek : k ≠ seg n := fun ek => e (by rw [ek]; exact numOf_seg n h1 h2)
        rw [if_neg ek]
        by_cases e2 : numOf k ∈ ns
        · rw [if_pos e2, if_pos (List.mem_cons_of_mem _ e2)]
        · rw [if_neg e2, if_neg (fun h' => (List.mem_cons.1 h').elim e e2)]
theorem ups_perm (fs : List AF) : (ups fs).Perm (numsOf (fs.map AF.name)) := List.mergeSort_perm _ _
theorem nums_iff {fs : List AF} (_h : Rises AF.name fs) (n : Nat) : n ∈ nums fs ↔ 0 < n ∧ n < 9223372036854775808 ∧ ∃ s, readN fs n = some s := by
  constructor
  · intro hn
    obtain ⟨h1, f, _, hf⟩ := nums_mem hn
    refine ⟨h1, ?_, nums_read hn⟩
    unfold nums at hn
    rw [List.mem_reverse, (ups_perm fs).mem_iff] at hn
    unfold numsOf at hn
    obtain ⟨h3, _⟩ := List.mem_filter.1 hn
    obtain ⟨k, _, rfl⟩ := List.mem_map.1 h3
    exact numOf_lt k
  · rintro ⟨h1, h2, s, hs⟩
    unfold readN at hs
    obtain ⟨f, hf, rfl⟩ := Option.map_eq_some_iff.1 hs
    obtain ⟨h3, h4⟩ := seek_some hf
    unfold nums
    rw [List.mem_reverse, (ups_perm fs).mem_iff]
    unfold numsOf
    refine List.mem_filter.2 ⟨List.mem_map.2 ⟨f.name, List.mem_map.2 ⟨f, h3, rfl⟩, ?_⟩, by simpa using h1⟩
    rw [h4]
    exact numOf_seg n h1 h2
theorem numsOf_nodup {fs : List AF} (h : Rises AF.name fs) : (numsOf (fs.map AF.name)).Nodup := by
  have hn := rises_names h
  generalize fs.map AF.name = ks at hn
  unfold numsOf
  induction ks with
  | nil => exact List.nodup_nil
  | cons k ks ih =>
    obtain ⟨h1, h2⟩ := List.nodup_cons.1 hn
    rw [List.map_cons, List.filter_cons]
    by_cases hk : 0 < numOf k
    · rw [if_pos (by simpa using hk)]
      refine List.nodup_cons.2 ⟨fun hm => ?_, ih h2⟩
      obtain ⟨h3, h4⟩ := List.mem_filter.1 hm
      obtain ⟨k', h5, h6⟩ := List.mem_map.1 h3
      refine h1 ?_
      rw [numOf_pos hk, ← h6, ← numOf_pos (by omega)]
      exact h5
    · rw [if_neg (by simpa using hk)]
      exact ih h2
theorem nums_nodup {fs : List AF} (h : Rises AF.name fs) : (nums fs).Nodup := by
  unfold nums
  exact ((List.reverse_perm _).trans (ups_perm fs)).nodup_iff.2 (numsOf_nodup h)
theorem nums_down (fs : List AF) : (nums fs).Pairwise fun x y => y ≤ x := by
  unfold nums
  rw [List.pairwise_reverse]
  have s1 := List.pairwise_mergeSort (le := fun x y : Nat => decide (x ≤ y)) (fun a b c h1 h2 => by simp only [decide_eq_true_eq] at *; omega) (fun a b => by simp only [Bool.or_eq_true, decide_eq_true_eq]; omega) (numsOf (fs.map AF.name))
  exact s1.imp fun {a b} hab => by simpa using hab
/-- The first one, by what is so of it. -/
theorem firstOf_is {fs : List AF} {f : Nat} (hm : f ∈ nums fs) (hb : isB fs f = true) (hn : ∀ m ∈ nums fs, f < m → isB fs m = false) : firstOf fs = f := by
  obtain ⟨pre, rest, he, hp⟩ := List.eq_append_cons_of_mem hm
  refine firstOf_some he (fun m hmp => ?_) hb
  refine hn m (by rw [he]; exact List.mem_append_left _ hmp) ?_
  have hd := nums_down fs
  rw [he] at hd
  have := (List.pairwise_append.1 hd).2.2 m hmp f (List.mem_cons_self ..)
  have hne : m ≠ f := fun e => hp (by rw [← e]; exact hmp)
  omega
theorem firstOf_spec {fs : List AF} (h0 : firstOf fs ≠ 0) : firstOf fs ∈ nums fs ∧ isB fs (firstOf fs) = true ∧ ∀ m ∈ nums fs, firstOf fs < m → isB fs m = false := by
  have hm := (firstOf_mem fs).resolve_left h0
  unfold firstOf at h0 hm ⊢
  cases hf : (nums fs).find? (isB fs) with
  | none => rw [hf] at h0; exact absurd rfl h0
  | some f =>
    rw [hf] at hm
    refine ⟨hm, List.find?_some hf, fun m hmm hlt => ?_⟩
    obtain ⟨_, us, bs, he, has⟩ := List.find?_eq_some_iff_append.1 hf
    simp only [Option.getD_some] at hlt
    rw [he] at hmm
    have hd := nums_down fs
    rw [he] at hd
    rcases List.mem_append.1 hmm with h1 | h1
    · simpa using has m h1
    · rcases List.mem_cons.1 h1 with rfl | h2
      · omega
      · have := (List.pairwise_cons.1 (List.pairwise_append.1 hd).2.1).1 m h2
        omega
theorem run_first {fs : List AF} : ∀ (k n : Nat) (l : Lg), (run fs k n l).first = l.first ∧ (run fs k n l).most = l.most
  | 0, _, _ => ⟨rfl, rfl⟩
  | k + 1, n, l => by
    cases hr : readN fs n with
    | none => rw [run_none hr]; exact ⟨rfl, rfl⟩
    | some s =>
      cases hh : head s with
      | none => rw [run_no hr hh]; exact ⟨rfl, rfl⟩
      | some b =>
        by_cases hw : whole s < s.length
        · rw [run_end hr hh hw]; exact ⟨rfl, rfl⟩
        · rw [run_on hr hh hw]; exact run_first k (n + 1) _
/-- What the last one is. -/
theorem run_last {fs : List AF} : ∀ (k n : Nat) (l : Lg), run fs k n l = l ∨ (n ≤ (run fs k n l).last ∧ ∃ s b, readN fs (run fs k n l).last = some s ∧ head s = some b ∧ (run fs k n l).size = whole s)
  | 0, _, _ => .inl rfl
  | k + 1, n, l => by
    cases hr : readN fs n with
    | none => exact .inl (run_none hr)
    | some s =>
      cases hh : head s with
      | none => exact .inl (run_no hr hh)
      | some b =>
        by_cases hw : whole s < s.length
        · rw [run_end hr hh hw]; exact .inr ⟨Nat.le_refl _, s, b, hr, hh, rfl⟩
        · rw [run_on hr hh hw]
          rcases run_last k (n + 1) ⟨l.most, l.first, n, whole s, l.recs ++ body s⟩ with e | ⟨h1, h2⟩
          · rw [e]; exact .inr ⟨Nat.le_refl _, s, b, hr, hh, rfl⟩
          · exact .inr ⟨by omega, h2⟩
/-- What is read of number n behind the sweep. -/
def cutN (l : Lg) (n : Nat) (s : Bs) : Option Bs := if n < l.first ∨ l.last < n then none else if n = l.last ∧ l.size < s.length then some (s.take l.size) else some s
theorem take_head {s : Bs} {b : Bool} (h : head s = some b) : head (s.take (whole s)) = some b ∧ whole (s.take (whole s)) = whole s ∧ body (s.take (whole s)) = body s ∧ (s.take (whole s)).length = whole s := by
  have hw := whole_le h
  have e := take_whole h
  have hs : ∀ r ∈ body s, r.length < 2147483647 := recs_small _
  have hl : (s.take (whole s)).length = whole s := by rw [List.length_take]; omega
  refine ⟨by rw [e]; exact head_hd _ _, ?_, by rw [e]; exact body_laid _ _ hs, hl⟩
  have := whole_laid b _ hs
  rw [← e, hl] at this
  exact this
theorem run_again {fs fs' : List AF} : ∀ (k n : Nat) (l : Lg), l.first ≤ n → l.last < n → (∀ i, n ≤ i → i < n + k → readN fs' i = (readN fs i).bind (cutN (run fs k n l) i)) → run fs' k n l = run fs k n l
  | 0, _, _, _, _, _ => rfl
  | k + 1, n, l, hf, hl, h => by
    have hn := h n (Nat.le_refl _) (by omega)
    cases hr : readN fs n with
    | none =>
      rw [hr] at hn
      rw [run_none hr, run_none hn]
    | some s =>
      rw [hr] at hn
      cases hh : head s with
      | none =>
        rw [run_no hr hh] at hn ⊢
        have : cutN l n s = none := by unfold cutN; rw [if_pos (.inr hl)]
        rw [show (some s).bind (cutN l n) = cutN l n s from rfl, this] at hn
        exact run_none hn
      | some b =>
        by_cases hw : whole s < s.length
        · have e := run_end (k := k) (l := l) hr hh hw
          have h1 := h (n + 1) (by omega)
          rw [e] at hn h1 ⊢
          obtain ⟨t1, t2, t3, t4⟩ := take_head hh
          have hc : readN fs' n = some (s.take (whole s)) := by
            rw [hn]
            show cutN _ n s = _
            unfold cutN
            rw [if_neg (by simp only; omega), if_pos ⟨rfl, hw⟩]
          rw [run_on hc t1 (by rw [t2, t4]; omega), t2, t3]
          cases k with
          | zero => rfl
          | succ k =>
            have h2 := h1 (by omega)
            refine run_none ?_
            rw [h2]
            cases readN fs (n + 1) with
            | none => rfl
            | some s' =>
              show cutN _ (n + 1) s' = none
              unfold cutN
              rw [if_pos (.inr (Nat.lt_succ_self n))]
        · have hwe : whole s = s.length := by have := whole_le hh; omega
          have e := run_on (k := k) (l := l) hr hh hw
          rw [e] at h hn ⊢
          have hc : readN fs' n = some s := by
            rw [hn]
            show cutN _ n s = _
            unfold cutN
            have hfl := (run_first (fs := fs) k (n + 1) ⟨l.most, l.first, n, whole s, l.recs ++ body s⟩).1
            rcases run_last (fs := fs) k (n + 1) ⟨l.most, l.first, n, whole s, l.recs ++ body s⟩ with e2 | ⟨h1, _⟩
            · rw [e2, if_neg (by simp only; omega), if_neg (by simp only; omega)]
            · rw [if_neg (by rw [hfl]; simp only; omega), if_neg (by omega)]
          rw [run_on hc hh hw]
          exact run_again k (n + 1) _ (by simp only; omega) (Nat.lt_succ_self n) fun i h1 h2 => h i (by omega) (by omega)
theorem readN_of_seek {fs fs' : List AF} {l : Lg} {n : Nat} (h1 : 1 ≤ n) (h2 : n < 9223372036854775808) (h : seek AF.name (seg n) fs' = (seek AF.name (seg n) fs).bind (cutAt l)) : readN fs' n = (readN fs n).bind (cutN l n) := by
  unfold readN
  rw [h]
  cases hs : seek AF.name (seg n) fs with
  | none => rfl
  | some f =>
    have hnum : numOf f.name = n := by rw [(seek_some hs).2]; exact numOf_seg n h1 h2
    show (cutAt l f).map AF.bytes = cutN l n f.bytes
    unfold cutAt cutN
    rw [hnum]
    split
    · rfl
    · split
      · rfl
      · rfl
/-- What stands there behind the opening. -/
structure Swept (a : A) (l : Lg) (a' : A) : Prop where
  calm : Calm a'
  room : a'.room = a.room
  each : ∀ k, seek AF.name k a'.files = if k = newB then none else if 0 < numOf k then (seek AF.name k a.files).bind (cutAt l) else seek AF.name k a.files
theorem Calm.openIs {a : A} (h : Calm a) (most : Nat) : ∃ a' t, openOf a most = (a', some (gatherOf a.files most), t, 0) ∧ Swept a (gatherOf a.files most) a' := by
  obtain ⟨a1, t, hs, hc, hr, hk⟩ := sweep_all (gatherOf a.files most) (nums a.files) a 0 h (nums_nodup h.rises) fun n hn => by
    obtain ⟨h1, h2, h3⟩ := (nums_iff h.rises n).1 hn
    exact ⟨h1, h2, h3⟩
  have hk' : ∀ k, seek AF.name k a1.files = if 0 < numOf k then (seek AF.name k a.files).bind (cutAt (gatherOf a.files most)) else seek AF.name k a.files := fun k => by
    rw [hk]
    by_cases h0 : 0 < numOf k
    · rw [if_pos h0]
      cases hs' : seek AF.name k a.files with
      | none => split <;> rfl
      | some f =>
        rw [if_pos ((nums_iff h.rises _).2 ⟨h0, numOf_lt k, f.bytes, by unfold readN; rw [← numOf_pos h0, hs']; rfl⟩)]
    · rw [if_neg h0, if_neg (fun hm => h0 ((nums_iff h.rises _).1 hm).1)]
  have hab : ableOf a1 newB = 0 := by unfold ableOf; rw [hc.down, new_ok]; rfl
  have hh : a1.hit = none := by unfold A.hit; rw [hc.fall]
  have hrm : ∃ a' e, a1.doRemove newB = (a', e) ∧ (e = 0 ∨ e = 2) ∧ Swept a (gatherOf a.files most) a' := by
    unfold A.doRemove
    rw [hab, if_neg (by decide)]
    cases hn : seek AF.name newB a1.files with
    | none =>
      refine ⟨a1, 2, rfl, .inr rfl, hc, hr, fun k => ?_⟩
      by_cases e : k = newB
      · rw [if_pos e, e, hn]
      · rw [if_neg e, hk']
    | some f =>
      simp only
      unfold A.change
      rw [hh]
      refine ⟨_, 0, rfl, .inl rfl, ⟨hc.rises.del, hc.fall, hc.down⟩, hr, fun k => ?_⟩
      show seek AF.name k (del AF.name newB a1.files) = _
      rw [seek_del, hk']
  obtain ⟨a', e, he, hec, hS⟩ := hrm
  refine ⟨a', t, ?_, hS⟩
  unfold openOf
  rw [h.down, hs]
  simp only [he]
  rw [if_neg (by decide), if_neg (by decide), if_neg (by rcases hec with rfl | rfl <;> decide)]
theorem sweep_still {l : Lg} {a : A} (c : Nat) : ∀ ns : List Nat, (∀ n ∈ ns, l.first ≤ n ∧ n ≤ l.last ∧ ∃ s, readN a.files n = some s ∧ (n = l.last → s.length ≤ l.size)) → sweepOf l ns a c = (a, c, 0)
  | [], _ => rfl
  | n :: ns, h => by
    obtain ⟨h1, h2, s, h3, h4⟩ := h n (List.mem_cons_self ..)
    have ht : trimOf l n s.length a = (a, 0, 0) := by
      unfold trimOf
      rw [if_neg (by omega), if_neg (fun ⟨e1, e2⟩ => by have := h4 e1; omega)]
    rw [sweepOf_go h3 (by rw [ht]), ht]
    simp only [Nat.add_zero, ite_self]
    exact sweep_still c ns fun m hm => h m (List.mem_cons_of_mem _ hm)
theorem Swept.read {a a' : A} {l : Lg} (h : Swept a l a') {n : Nat} (h1 : 1 ≤ n) (h2 : n < 9223372036854775808) : readN a'.files n = (readN a.files n).bind (cutN l n) := by
  refine readN_of_seek h1 h2 ?_
  rw [h.each, if_neg (seg_new n), if_pos (by rw [numOf_seg n h1 h2]; exact h1)]
/-- Opening once more: the same. -/
theorem Swept.gather {a a' : A} {most : Nat} (hc : Calm a) (hF : Few a.files) (h : Swept a (gatherOf a.files most) a') : gatherOf a'.files most = gatherOf a.files most := by
  by_cases h0 : firstOf a.files = 0
  · have hl : gatherOf a.files most = ⟨most, 0, 0, 0, []⟩ := by unfold gatherOf; rw [if_pos h0]
    rw [hl] at h ⊢
    have hf' : firstOf a'.files = 0 := firstOf_none fun n hn => by
      obtain ⟨h1, h2, s, hs⟩ := (nums_iff h.calm.rises n).1 hn
      rw [h.read h1 h2] at hs
      cases hr : readN a.files n with
      | none => rw [hr] at hs; cases hs
      | some t =>
        rw [hr] at hs
        have : cutN ⟨most, 0, 0, 0, []⟩ n t = none := by unfold cutN; rw [if_pos (.inr h1)]
        rw [show (some t).bind (cutN ⟨most, 0, 0, 0, []⟩ n) = cutN ⟨most, 0, 0, 0, []⟩ n t from rfl, this] at hs
        cases hs
    unfold gatherOf
    rw [if_pos hf']
  · obtain ⟨hm, hb, hup⟩ := firstOf_spec h0
    have hfew := hF.first
    have hl : gatherOf a.files most = run a.files 1000002 (firstOf a.files) ⟨most, firstOf a.files, 0, 0, []⟩ := by unfold gatherOf; rw [if_neg h0]
    rw [hl] at h ⊢
    generalize hfo : firstOf a.files = f at *
    have hf1 : (run a.files 1000002 f ⟨most, f, 0, 0, []⟩).first = f := (run_first (fs := a.files) 1000002 f ⟨most, f, 0, 0, []⟩).1
    obtain ⟨sf, hsf⟩ := nums_read hm
    have hhf : head sf = some true := by
      rw [isB_is hsf] at hb
      simpa using hb
    have hlast : f ≤ (run a.files 1000002 f ⟨most, f, 0, 0, []⟩).last ∧ ∃ s b, readN a.files (run a.files 1000002 f ⟨most, f, 0, 0, []⟩).last = some s ∧ head s = some b ∧ (run a.files 1000002 f ⟨most, f, 0, 0, []⟩).size = whole s := by
      rcases run_last (fs := a.files) 1000002 f ⟨most, f, 0, 0, []⟩ with e | h'
      · exfalso
        have h2 : f ≤ (run a.files 1000002 f ⟨most, f, 0, 0, []⟩).last := by
          by_cases hw : whole sf < sf.length
          · rw [run_end hsf hhf hw]; exact Nat.le_refl _
          · rw [run_on hsf hhf hw]
            rcases run_last (fs := a.files) 1000001 (f + 1) ⟨most, f, f, whole sf, [] ++ body sf⟩ with e2 | ⟨h3, _⟩
            · simp only at e2 ⊢
              rw [e2]
              exact Nat.le_refl _
            · simp only at h3 ⊢
              omega
        rw [e] at h2
        simp only at h2
        omega
      · exact h'
    obtain ⟨hle, sl, bl, hsl, hhl, hsz⟩ := hlast
    have hread : ∀ i, f ≤ i → i < f + 1000002 → readN a'.files i = (readN a.files i).bind (cutN (run a.files 1000002 f ⟨most, f, 0, 0, []⟩) i) := fun i h1 h2 => h.read (by omega) (by omega)
    have hagain := run_again (fs := a.files) (fs' := a'.files) 1000002 f ⟨most, f, 0, 0, []⟩ (Nat.le_refl _) (by simp only; omega) hread
    generalize run a.files 1000002 f ⟨most, f, 0, 0, []⟩ = l at *
    -- what is read of a number that is left, and its head
    have hkeep : ∀ n s', 1 ≤ n → n < 9223372036854775808 → readN a'.files n = some s' → ∃ s, readN a.files n = some s ∧ l.first ≤ n ∧ n ≤ l.last ∧ head s' = head s := fun n s' h1 h2 hs' => by
      rw [h.read h1 h2] at hs'
      cases hr : readN a.files n with
      | none => rw [hr] at hs'; cases hs'
      | some s =>
        rw [hr] at hs'
        replace hs' : cutN l n s = some s' := hs'
        unfold cutN at hs'
        split at hs'
        · cases hs'
        · rename_i hc1
          refine ⟨s, rfl, by omega, by omega, ?_⟩
          split at hs'
          · rename_i hc2
            obtain ⟨e1, _⟩ := hc2
            subst e1
            rw [hr] at hsl
            cases hsl
            rw [hsz] at hs'
            cases hs'
            rw [(take_head hhl).1, hhl]
          · cases hs'; rfl
    have hf' : firstOf a'.files = f := by
      have hflt : 1 ≤ f ∧ f < 9223372036854775808 := by
        obtain ⟨h1, h2, _⟩ := (nums_iff hc.rises f).1 hm
        exact ⟨h1, h2⟩
      obtain ⟨sf', hsf'⟩ : ∃ s', readN a'.files f = some s' := by
        rw [h.read hflt.1 hflt.2, hsf]
        show ∃ s', cutN l f sf = some s'
        unfold cutN
        rw [if_neg (by omega)]
        split
        · exact ⟨_, rfl⟩
        · exact ⟨_, rfl⟩
      refine firstOf_is ((nums_iff h.calm.rises f).2 ⟨hflt.1, hflt.2, _, hsf'⟩) ?_ fun m hm' hlt => ?_
      · obtain ⟨s, hs, _, _, hh⟩ := hkeep f sf' hflt.1 hflt.2 hsf'
        rw [hsf] at hs
        cases hs
        rw [isB_is hsf', hh, hhf]
        rfl
      · obtain ⟨h1, h2, s', hs'⟩ := (nums_iff h.calm.rises m).1 hm'
        obtain ⟨s, hs, _, _, hh⟩ := hkeep m s' h1 h2 hs'
        have := hup m ((nums_iff hc.rises m).2 ⟨h1, h2, s, hs⟩) hlt
        rw [isB_is hs] at this
        rw [isB_is hs', hh]
        exact this
    unfold gatherOf
    rw [hf', if_neg (by omega)]
    exact hagain
theorem Swept.again {a a' : A} {most : Nat} (hc : Calm a) (hF : Few a.files) (h : Swept a (gatherOf a.files most) a') : openOf a' most = (a', some (gatherOf a.files most), 0, 0) := by
  have hg := h.gather hc hF
  have hs : sweepOf (gatherOf a.files most) (nums a'.files) a' 0 = (a', 0, 0) := sweep_still 0 _ fun n hn => by
    obtain ⟨h1, h2, s', hs'⟩ := (nums_iff h.calm.rises n).1 hn
    have hs2 := hs'
    rw [h.read h1 h2] at hs2
    cases hr : readN a.files n with
    | none => rw [hr] at hs2; cases hs2
    | some s =>
      rw [hr] at hs2
      replace hs2 : cutN (gatherOf a.files most) n s = some s' := hs2
      unfold cutN at hs2
      split at hs2
      · cases hs2
      · rename_i hc1
        refine ⟨by omega, by omega, s', hs', fun e => ?_⟩
        split at hs2
        · cases hs2
          rw [List.length_take]
          omega
        · rename_i hc2
          cases hs2
          omega
  have hr : a'.doRemove newB = (a', 2) := by
    unfold A.doRemove
    rw [h.each, if_pos rfl]
    have : ableOf a' newB = 0 := by unfold ableOf; rw [h.calm.down, new_ok]; rfl
    rw [this]
    rfl
  unfold openOf
  rw [h.calm.down, hg, hs]
  simp only [hr]
  rfl
end Go.Wal
/- Segments that are laid by hand, one behind the other, and what counts of them; plain. -/
namespace Go.Wal
open Go.Dk
/-- How a segment that is laid by hand begins: anew, going on, with something else. -/
def hk : Nat → Bs
  | 0 => hd true
  | 1 => hd false
  | _ => fr [120]
theorem hk_head (k : Nat) (s : Bs) : head (hk k ++ s) = match k with | 0 => some true | 1 => some false | _ => none := by
  match k with
  | 0 => exact head_hd _ _
  | 1 => exact head_hd _ _
  | k + 2 =>
    show head (fr [120] ++ s) = none
    unfold head
    rw [unf1_fr _ _ (by decide)]
    rfl
theorem body_hand (b : Bool) (x : List Bs) (rest : Bs) (h : ∀ r ∈ x, r.length < 2147483647) (hr : unf1 rest = none) : body (hd b ++ frs x ++ rest) = x := by
  unfold body
  rw [List.append_assoc, List.drop_left' (hd_length b), recs_frs x rest h, recs_none hr, List.append_nil]
theorem whole_hand (b : Bool) (x : List Bs) (rest : Bs) (h : ∀ r ∈ x, r.length < 2147483647) (hr : unf1 rest = none) : whole (hd b ++ frs x ++ rest) = 17 + (frs x).length := by
  unfold whole
  rw [body_hand b x rest h hr]
theorem unf1_nil : unf1 [] = none := by decide
theorem head_hand (b : Bool) (x : List Bs) (rest : Bs) : head (hd b ++ frs x ++ rest) = some b := by rw [List.append_assoc]; exact head_hd _ _
/-- What is gathered of such a run. -/
theorem run_hand {fs : List AF} : ∀ (ds : List (List Bs)) (k n : Nat) (l : Lg) (b : Nat → Bool) (rest : Bs), ds.length < k → ds ≠ [] → unf1 rest = none →
    (∀ i x, ds[i]? = some x → readN fs (n + i) = some (hd (b i) ++ frs x ++ (if i + 1 = ds.length then rest else [])) ∧ ∀ r ∈ x, r.length < 2147483647) →
    (rest ≠ [] ∨ ∀ s, readN fs (n + ds.length) = some s → head s = none) →
    run fs k n l = ⟨l.most, l.first, n + ds.length - 1, 17 + (frs (ds.getLastD [])).length, l.recs ++ ds.flatten⟩
  | [], _, _, _, _, _, _, h0, _, _, _ => absurd rfl h0
  | [d], k, n, l, b, rest, hk, _, hu, h1, h2 => by
    obtain ⟨j, rfl⟩ : ∃ j, k = j + 1 := ⟨k - 1, by simp at hk; omega⟩
    obtain ⟨hr, hs⟩ := h1 0 d rfl
    rw [if_pos (by simp), Nat.add_zero] at hr
    have hw := whole_hand (b 0) d rest hs hu
    have hb := body_hand (b 0) d rest hs hu
    have hl : (hd (b 0) ++ frs d ++ rest).length = 17 + (frs d).length + rest.length := by rw [List.length_append, List.length_append, hd_length]
    by_cases hc : whole (hd (b 0) ++ frs d ++ rest) < (hd (b 0) ++ frs d ++ rest).length
    · rw [run_end hr (head_hand _ _ _) hc, hw, hb]
      simp
    · rw [run_on hr (head_hand _ _ _) hc, hw, hb]
      have h0 : rest = [] := List.eq_nil_of_length_eq_zero (by omega)
      have h3 := h2.resolve_left (fun h => h h0)
      obtain ⟨j', rfl⟩ : ∃ j', j = j' + 1 := ⟨j - 1, by simp at hk; omega⟩
      have e : run fs (j' + 1) (n + 1) ⟨l.most, l.first, n, 17 + (frs d).length, l.recs ++ d⟩ = ⟨l.most, l.first, n, 17 + (frs d).length, l.recs ++ d⟩ := by
        cases hr2 : readN fs (n + 1) with
        | none => exact run_none hr2
        | some s => exact run_no hr2 (h3 s hr2)
      rw [e]
      simp
  | d :: d' :: ds, k, n, l, b, rest, hk, _, hu, h1, h2 => by
    obtain ⟨j, rfl⟩ : ∃ j, k = j + 1 := ⟨k - 1, by simp at hk; omega⟩
    obtain ⟨hr, hs⟩ := h1 0 d rfl
    rw [if_neg (by simp), Nat.add_zero] at hr
    have hw := whole_hand (b 0) d [] hs unf1_nil
    have hb := body_hand (b 0) d [] hs unf1_nil
    have hl : (hd (b 0) ++ frs d ++ []).length = 17 + (frs d).length := by rw [List.length_append, List.length_append, hd_length]; rfl
    rw [run_on hr (head_hand _ _ _) (by omega), hw, hb]
    have ih := run_hand (d' :: ds) j (n + 1) ⟨l.most, l.first, n, 17 + (frs d).length, l.recs ++ d⟩ (fun i => b (i + 1)) rest (by simp at hk ⊢; omega) (List.cons_ne_nil _ _) hu
      (fun i x hi => by
        have := h1 (i + 1) x hi
        rw [show n + (i + 1) = n + 1 + i by omega] at this
        have he : (if i + 1 + 1 = (d :: d' :: ds).length then rest else []) = if i + 1 = (d' :: ds).length then rest else [] := by
          by_cases e : i + 1 = (d' :: ds).length
          · rw [if_pos e, if_pos (by rw [List.length_cons, e])]
          · rw [if_neg e, if_neg (by rw [List.length_cons]; omega)]
        rw [he] at this
        exact this)
      (h2.imp id fun h s hs => h s (by rw [show n + (d :: d' :: ds).length = n + 1 + (d' :: ds).length by simp only [List.length_cons]; omega]; exact hs))
    rw [ih]
    have e1 : n + 1 + (d' :: ds).length - 1 = n + (d :: d' :: ds).length - 1 := by simp only [List.length_cons]; omega
    simp only [List.flatten_cons, List.append_assoc]
    rw [e1]
    rfl
/-- What the law has laid so far, and what it holds to count. -/
structure Hand (R : Nat → Option Bs) (number : Nat) (want : List Bs) (count : Bool) (files : Nat) (broken : Bool) : Prop where
  up : ∀ n, number < n → R n = none
  no : count = false → want = [] ∧ files = 0 ∧ ∀ n s, R n = some s → head s ≠ some true
  yes : count = true → ∃ (f : Nat) (xs : List (List Bs)) (rest : Bs), 1 ≤ f ∧ xs.length = files ∧ 0 < files ∧ f + files ≤ number + 1 ∧ want = xs.flatten ∧ unf1 rest = none ∧
    (∀ i x, xs[i]? = some x → R (f + i) = some (hd (decide (i = 0)) ++ frs x ++ (if i + 1 = files then rest else [])) ∧ ∀ r ∈ x, r.length < 2147483647) ∧
    (∀ n s, f < n → R n = some s → head s ≠ some true) ∧
    (broken = false → rest = [] ∧ f + files = number + 1) ∧ (broken = true → rest ≠ [] ∨ (f + files ≤ number ∧ ∀ s, R (f + files) = some s → head s = none))
theorem Hand.start : Hand (fun _ => none) 0 [] false 0 false := ⟨fun _ _ => rfl, fun _ => ⟨rfl, rfl, fun _ _ h => by cases h⟩, fun h => by cases h⟩
/-- One number is left out. -/
theorem Hand.skip {R : Nat → Option Bs} {number : Nat} {want : List Bs} {count : Bool} {files : Nat} {broken : Bool} (h : Hand R number want count files broken) : Hand R (number + 1) want count files true := by
  refine ⟨fun n hn => h.up n (by omega), h.no, fun hc => ?_⟩
  obtain ⟨f, xs, rest, h1, h2, h3, h4, h5, h6, h7, h8, h9, h10⟩ := h.yes hc
  refine ⟨f, xs, rest, h1, h2, h3, by omega, h5, h6, h7, h8, (fun h => by cases h), fun _ => ?_⟩
  cases hb : broken with
  | true => exact (h10 hb).imp id fun ⟨a, b⟩ => ⟨by omega, b⟩
  | false =>
    obtain ⟨_, e⟩ := h9 hb
    exact .inr ⟨by omega, fun s hs => by rw [h.up _ (by omega)] at hs; cases hs⟩
def onR (R : Nat → Option Bs) (m : Nat) (s : Bs) (n : Nat) : Option Bs := if n = m then some s else R n
theorem onR_at (R : Nat → Option Bs) (m : Nat) (s : Bs) : onR R m s m = some s := if_pos rfl
theorem onR_ne {R : Nat → Option Bs} {m n : Nat} {s : Bs} (h : n ≠ m) : onR R m s n = R n := if_neg h
section
variable {R : Nat → Option Bs} {number : Nat} {want : List Bs} {count : Bool} {files : Nat} {broken : Bool}
/-- One that begins with something else. -/
theorem Hand.other (h : Hand R number want count files broken) (s : Bs) (hs : head s = none) : Hand (onR R (number + 1) s) (number + 1) want count files true := by
  refine ⟨fun n hn => by rw [onR_ne (by omega)]; exact h.up n (by omega), fun hc => ?_, fun hc => ?_⟩
  · obtain ⟨h1, h2, h3⟩ := h.no hc
    refine ⟨h1, h2, fun n t ht => ?_⟩
    by_cases e : n = number + 1
    · subst e; rw [onR_at] at ht; cases ht; rw [hs]; simp
    · rw [onR_ne e] at ht; exact h3 n t ht
  · obtain ⟨f, xs, rest, h1, h2, h3, h4, h5, h6, h7, h8, h9, h10⟩ := h.yes hc
    refine ⟨f, xs, rest, h1, h2, h3, by omega, h5, h6, fun i x hi => ?_, fun n t hn ht => ?_, (fun h => by cases h), fun _ => ?_⟩
    · rw [onR_ne (by have := (List.getElem?_eq_some_iff.1 hi).1; omega)]
      exact h7 i x hi
    · by_cases e : n = number + 1
      · subst e; rw [onR_at] at ht; cases ht; rw [hs]; simp
      · rw [onR_ne e] at ht; exact h8 n t hn ht
    · cases hb : broken with
      | true => exact (h10 hb).imp id fun ⟨a, b⟩ => ⟨by omega, fun t ht => b t (by rw [onR_ne (by omega)] at ht; exact ht)⟩
      | false =>
        obtain ⟨_, e⟩ := h9 hb
        exact .inr ⟨by omega, fun t ht => by rw [e, onR_at] at ht; cases ht; exact hs⟩
/-- One that begins anew. -/
theorem Hand.anew (h : Hand R number want count files broken) (x : List Bs) (rest : Bs) (hx : ∀ r ∈ x, r.length < 2147483647) (hr : unf1 rest = none) : Hand (onR R (number + 1) (hd true ++ frs x ++ rest)) (number + 1) x true 1 (decide (rest ≠ [])) := by
  refine ⟨fun n hn => by rw [onR_ne (by omega)]; exact h.up n (by omega), (fun h => by cases h), fun _ => ?_⟩
  refine ⟨number + 1, [x], rest, by omega, rfl, by omega, by omega, by simp, hr, fun i y hi => ?_, fun n t hn ht => ?_, fun hb => ?_, fun hb => .inl (by simpa using hb)⟩
  · cases i with
    | zero => cases hi; exact ⟨by rw [Nat.add_zero, onR_at]; rfl, hx⟩
    | succ i => simp at hi
  · rw [onR_ne (by omega), h.up n (by omega)] at ht
    cases ht
  · exact ⟨by simpa using hb, by omega⟩
/-- One that goes on, where it does not count. -/
theorem Hand.idle (h : Hand R number want count files broken) (s : Bs) (hs : head s = some false) (hc : count = false ∨ broken = true) : Hand (onR R (number + 1) s) (number + 1) want count files true := by
  refine ⟨fun n hn => by rw [onR_ne (by omega)]; exact h.up n (by omega), fun hc => ?_, fun hc' => ?_⟩
  · obtain ⟨h1, h2, h3⟩ := h.no hc
    refine ⟨h1, h2, fun n t ht => ?_⟩
    by_cases e : n = number + 1
    · subst e; rw [onR_at] at ht; cases ht; rw [hs]; simp
    · rw [onR_ne e] at ht; exact h3 n t ht
  · obtain ⟨f, xs, rest, h1, h2, h3, h4, h5, h6, h7, h8, h9, h10⟩ := h.yes hc'
    refine ⟨f, xs, rest, h1, h2, h3, by omega, h5, h6, fun i x hi => ?_, fun n t hn ht => ?_, (fun h => by cases h), fun _ => ?_⟩
    · rw [onR_ne (by have := (List.getElem?_eq_some_iff.1 hi).1; omega)]
      exact h7 i x hi
    · by_cases e : n = number + 1
      · subst e; rw [onR_at] at ht; cases ht; rw [hs]; simp
      · rw [onR_ne e] at ht; exact h8 n t hn ht
    · have hb : broken = true := hc.resolve_left (by rw [hc']; simp)
      exact (h10 hb).imp id fun ⟨a, b⟩ => ⟨by omega, fun t ht => b t (by rw [onR_ne (by omega)] at ht; exact ht)⟩
/-- One that goes on, and counts. -/
theorem Hand.goes (h : Hand R number want true files false) (x : List Bs) (rest : Bs) (hx : ∀ r ∈ x, r.length < 2147483647) (hr : unf1 rest = none) : Hand (onR R (number + 1) (hd false ++ frs x ++ rest)) (number + 1) (want ++ x) true (files + 1) (decide (rest ≠ [])) := by
  obtain ⟨f, xs, rest0, h1, h2, h3, h4, h5, h6, h7, h8, h9, h10⟩ := h.yes rfl
  obtain ⟨e0, e1⟩ := h9 rfl
  subst e0
  refine ⟨fun n hn => by rw [onR_ne (by omega)]; exact h.up n (by omega), (fun h => by cases h), fun _ => ?_⟩
  refine ⟨f, xs ++ [x], rest, h1, by simp [h2], by omega, by omega, by rw [h5]; simp, hr, fun i y hi => ?_, fun n t hn ht => ?_, fun hb => ⟨by simpa using hb, by omega⟩, fun hb => .inl (by simpa using hb)⟩
  · by_cases e : i = files
    · subst e
      rw [← h2, List.getElem?_append_right (Nat.le_refl _), Nat.sub_self] at hi
      cases hi
      refine ⟨?_, hx⟩
      rw [e1, onR_at, if_pos rfl, decide_eq_false (by omega)]
    · have hil : i < xs.length := by
        have := (List.getElem?_eq_some_iff.1 hi).1
        simp at this
        omega
      rw [List.getElem?_append_left hil] at hi
      obtain ⟨h11, h12⟩ := h7 i y hi
      refine ⟨?_, h12⟩
      rw [onR_ne (by omega), h11, ite_self, if_neg (by omega)]
  · by_cases e : n = number + 1
    · subst e; rw [onR_at] at ht; cases ht; rw [head_hand]; simp
    · rw [onR_ne e] at ht; exact h8 n t hn ht
/-- What is gathered in the end. -/
theorem Hand.gather (h : Hand R number want count files broken) {fs : List AF} (hr : Rises AF.name fs) (hn : number ≤ 1000) (hR : ∀ n, 1 ≤ n → n < 9223372036854775808 → readN fs n = R n) (most : Nat) :
    (gatherOf fs most).recs = want ∧ ∃ f, (gatherOf fs most).first = f ∧ (count = false → files = 0 ∧ gatherOf fs most = ⟨most, 0, 0, 0, []⟩) ∧ (count = true → 1 ≤ f ∧ 0 < files ∧ (gatherOf fs most).last + 1 = f + files ∧ f + files ≤ number + 1 ∧ ∀ i, i < files → ∃ s, R (f + i) = some s) := by
  cases count with
  | false =>
    obtain ⟨h1, h2, h3⟩ := h.no rfl
    have h0 : firstOf fs = 0 := firstOf_none fun n hn' => by
      obtain ⟨g1, g2, s, hs⟩ := (nums_iff hr n).1 hn'
      rw [isB_is hs]
      have := h3 n s (by rw [← hR n g1 g2]; exact hs)
      simpa using this
    have hl : gatherOf fs most = ⟨most, 0, 0, 0, []⟩ := by unfold gatherOf; rw [if_pos h0]
    rw [hl]
    exact ⟨h1.symm, 0, rfl, fun _ => ⟨h2, rfl⟩, fun h => by cases h⟩
  | true =>
    obtain ⟨f, xs, rest, h1, h2, h3, h4, h5, h6, h7, h8, h9, h10⟩ := h.yes rfl
    have hx0 : xs ≠ [] := fun e => by rw [e] at h2; simp at h2; omega
    obtain ⟨x0, hx0'⟩ : ∃ x0, xs[0]? = some x0 := ⟨xs[0]'(by omega), List.getElem?_eq_getElem _⟩
    have hf0 := (h7 0 x0 hx0').1
    rw [Nat.add_zero] at hf0
    have hff : firstOf fs = f := by
      refine firstOf_is ((nums_iff hr f).2 ⟨h1, by omega, _, (hR f h1 (by omega)).trans hf0⟩) ?_ fun m hm hlt => ?_
      · rw [isB_is ((hR f h1 (by omega)).trans hf0), head_hand]
        rfl
      · obtain ⟨g1, g2, s, hs⟩ := (nums_iff hr m).1 hm
        rw [isB_is hs]
        have := h8 m s hlt (by rw [← hR m g1 g2]; exact hs)
        simpa using this
    have hl : gatherOf fs most = ⟨most, f, f + xs.length - 1, 17 + (frs (xs.getLastD [])).length, [] ++ xs.flatten⟩ := by
      unfold gatherOf
      rw [hff, if_neg (by omega)]
      refine run_hand xs 1000002 f ⟨most, f, 0, 0, []⟩ (fun i => decide (i = 0)) rest (by omega) hx0 h6 (fun i x hi => ?_) ?_
      · have hil := (List.getElem?_eq_some_iff.1 hi).1
        obtain ⟨g1, g2⟩ := h7 i x hi
        refine ⟨?_, g2⟩
        rw [hR (f + i) (by omega) (by omega), g1, h2]
      · rw [h2]
        cases hb : broken with
        | true => exact (h10 hb).imp id fun ⟨_, g⟩ s hs => g s (by rw [← hR (f + files) (by omega) (by omega)]; exact hs)
        | false =>
          obtain ⟨_, e⟩ := h9 hb
          exact .inr fun s hs => by rw [hR (f + files) (by omega) (by omega), h.up _ (by omega)] at hs; cases hs
    rw [hl]
    refine ⟨by rw [h5]; rfl, f, rfl, (fun h => by cases h), fun _ => ⟨h1, h3, by simp only; omega, h4, fun i hi => ?_⟩⟩
    have hix : i < xs.length := by omega
    exact ⟨_, (h7 i _ (List.getElem?_eq_getElem hix)).1⟩
end
end Go.Wal
/- A disk on which segments are written by hand; plain. -/
namespace Go.Wal
open Go.Dk
/-- What is read of the segments, and which other names there are. -/
structure Laid (a : A) (R : Nat → Option Bs) (number : Nat) (E : Bs → Prop) : Prop where
  calm : Calm a
  reads : ∀ n, 1 ≤ n → n < 9223372036854775808 → readN a.files n = R n
  names : ∀ k f, seek AF.name k a.files = some f → (E k ∧ numOf k = 0) ∨ ∃ n, 1 ≤ n ∧ n ≤ number ∧ k = seg n
  room : ¬ 0 ≤ a.room
  short : ∀ f ∈ a.files, f.bytes.length ≤ 2000
theorem Laid.holds {a : A} {R : Nat → Option Bs} {number : Nat} {E : Bs → Prop} (h : Laid a R number E) (m : Int) : holdsOf a m = true := by unfold holdsOf; rw [decide_eq_false h.room]; rfl
theorem put_bytes (f : AF) (s : Bs) : (f.put ⟨s, true⟩).bytes = s := by
  unfold AF.put AF.bytes
  rw [List.foldl_append]
  rfl
section
variable {a : A} {R : Nat → Option Bs} {number : Nat} {E : Bs → Prop}
/-- A text is written under a name. -/
theorem Laid.put (h : Laid a R number E) (name s : Bs) (hn : nameOk name = true) :
    ∃ a' F, a.doPut name ⟨s, true⟩ = (a', 0) ∧ Calm a' ∧ ¬ 0 ≤ a'.room ∧ F.bytes = s ∧ F.name = name ∧ (∀ f ∈ a'.files, f = F ∨ f ∈ a.files) ∧ ∀ k, seek AF.name k a'.files = if k = name then some F else seek AF.name k a.files := by
  have hp := doPut_is (p := ⟨s, true⟩) h.calm.down h.calm.fall hn
  rw [h.holds, if_neg (by decide)] at hp
  have hnm : ((a.fileOf name).put ⟨s, true⟩).name = name := by
    show (a.fileOf name).name = name
    unfold A.fileOf
    cases hs : seek AF.name name a.files with
    | none => rfl
    | some f => exact (seek_some hs).2
  refine ⟨_, (a.fileOf name).put ⟨s, true⟩, hp, ⟨h.calm.rises.ins, h.calm.fall, h.calm.down⟩, h.room, put_bytes _ _, hnm, fun f hf => ?_, fun k => ?_⟩
  · rcases (mem_ins_iff h.calm.rises).1 hf with e | ⟨h1, _⟩
    · exact .inl e
    · exact .inr h1
  · show seek AF.name k (ins AF.name _ a.files) = _
    rw [seek_ins h.calm.rises, hnm]
theorem Laid.seg (h : Laid a R number E) (s : Bs) (hs : s.length ≤ 2000) (hn : number ≤ 100) :
    ∃ a', a.doPut (seg (number + 1)) ⟨s, true⟩ = (a', 0) ∧ Laid a' (onR R (number + 1) s) (number + 1) E := by
  obtain ⟨a', F, hp, hc, hr, hb, hnm, hm, hk⟩ := h.put (Wal.seg (number + 1)) s (seg_ok _ (by omega))
  refine ⟨a', hp, hc, fun n h1 h2 => ?_, fun k f hf => ?_, hr, fun f hf => ?_⟩
  · unfold readN
    rw [hk]
    by_cases e : n = number + 1
    · subst e
      rw [if_pos rfl, onR_at]
      show some F.bytes = _
      rw [hb]
    · rw [if_neg (fun e' => e (seg_inj h2 (by omega) e')), onR_ne e]
      exact h.reads n h1 h2
  · rw [hk] at hf
    by_cases e : k = Wal.seg (number + 1)
    · exact .inr ⟨number + 1, by omega, Nat.le_refl _, e⟩
    · rw [if_neg e] at hf
      rcases h.names k f hf with g | ⟨n, g1, g2, g3⟩
      · exact .inl g
      · exact .inr ⟨n, g1, by omega, g3⟩
  · rcases hm f hf with rfl | h1
    · rw [hb]; exact hs
    · exact h.short f h1
theorem Laid.skip (h : Laid a R number E) : Laid a R (number + 1) E :=
  ⟨h.calm, h.reads, fun k f hf => (h.names k f hf).imp id fun ⟨n, g1, g2, g3⟩ => ⟨n, g1, by omega, g3⟩, h.room, h.short⟩
theorem Laid.more (h : Laid a R number E) (name s : Bs) (hn : nameOk name = true) (h0 : numOf name = 0) (hs : s.length ≤ 2000) :
    ∃ a', a.doPut name ⟨s, true⟩ = (a', 0) ∧ Laid a' R number (fun k => E k ∨ k = name) ∧ (∃ F, seek AF.name name a'.files = some F) ∧ ∀ k, k ≠ name → seek AF.name k a'.files = seek AF.name k a.files := by
  obtain ⟨a', F, hp, hc, hr, hb, hnm, hm, hk⟩ := h.put name s hn
  refine ⟨a', hp, ⟨hc, fun n h1 h2 => ?_, fun k f hf => ?_, hr, fun f hf => ?_⟩, ⟨F, by rw [hk, if_pos rfl]⟩, fun k e => by rw [hk, if_neg e]⟩
  · unfold readN
    rw [hk, if_neg (fun e => by rw [← e, numOf_seg n h1 h2] at h0; omega)]
    exact h.reads n h1 h2
  · rw [hk] at hf
    by_cases e : k = name
    · exact .inl ⟨.inr e, by rw [e]; exact h0⟩
    · rw [if_neg e] at hf
      exact (h.names k f hf).imp (fun g => ⟨.inl g.1, g.2⟩) id
  · rcases hm f hf with rfl | h1
    · rw [hb]; exact hs
    · exact h.short f h1
theorem seek_map (k : Bs) : ∀ l : List AF, seek AF.name k (l.map st) = (seek AF.name k l).map st
  | [] => rfl
  | f :: l => by
    unfold seek
    rw [List.map_cons, List.find?_cons, List.find?_cons]
    have e : (st f).name = f.name := rfl
    rw [e]
    split
    · rfl
    · exact seek_map k l
theorem Laid.sync (h : Laid a R number E) : a.doSync = (a.synced, 0) ∧ Laid a.synced R number E ∧ ∀ k F, seek AF.name k a.files = some F → ∃ F', seek AF.name k a.synced.files = some F' := by
  have hk : ∀ k, seek AF.name k a.synced.files = (seek AF.name k a.files).map st := fun k => seek_map k a.files
  refine ⟨sync_is h.calm.down, ⟨⟨rises_st h.calm.rises, h.calm.fall, h.calm.down⟩, fun n h1 h2 => ?_, fun k f hf => ?_, h.room, fun f hf => ?_⟩, fun k F hF => ⟨st F, by rw [hk, hF]; rfl⟩⟩
  · rw [← h.reads n h1 h2]
    unfold readN
    rw [hk, Option.map_map]
    cases seek AF.name (Wal.seg n) a.files <;> rfl
  · rw [hk] at hf
    obtain ⟨g, hg, _⟩ := Option.map_eq_some_iff.1 hf
    exact h.names k g hg
  · obtain ⟨g, hg, rfl⟩ := List.mem_map.1 hf
    exact h.short g hg
theorem Laid.few (h : Laid a R number E) (hn : number ≤ 100) : Few a.files := fun f hf => by
  rcases h.names f.name f (seek_mem h.calm.rises hf) with g | ⟨n, g1, g2, g3⟩
  · rw [g.2]; omega
  · rw [g3, numOf_seg n g1 (by omega)]; omega
theorem Laid.sm (h : Laid a R number E) : Sm a.files := fun f hf => by have := h.short f hf; omega
/-- How many names are left. -/
theorem Laid.count (h : Laid a R number E) {l : Lg} {a' : A} (hS : Swept a l a') (other : Bs) (ho : other ≠ newB) (h0 : numOf other = 0) (hE : ∀ k, E k → k = other ∨ k = newB) (hF : ∃ F, seek AF.name other a.files = some F)
    (hn : number ≤ 100) (hl : l.last ≤ number) (h1 : l.first = 0 → l.last = 0) (hR : ∀ n, 1 ≤ n → l.first ≤ n → n ≤ l.last → ∃ s, R n = some s) : a'.files.length = (if l.first = 0 then 0 else l.last + 1 - l.first) + 1 := by
  have hmem : ∀ k, k ∈ a'.files.map AF.name ↔ ∃ f, seek AF.name k a'.files = some f := fun k => by
    rw [List.mem_map]
    constructor
    · rintro ⟨f, hf, rfl⟩
      exact ⟨f, seek_mem hS.calm.rises hf⟩
    · rintro ⟨f, hf⟩
      exact ⟨f, (seek_some hf).1, (seek_some hf).2⟩
  obtain ⟨cnt, hcnt⟩ : ∃ cnt, cnt = if l.first = 0 then 0 else l.last + 1 - l.first := ⟨_, rfl⟩
  have hp : (a'.files.map AF.name).Perm (other :: (List.range' l.first cnt).map Wal.seg) := by
    refine (List.perm_ext_iff_of_nodup (rises_names hS.calm.rises) (List.nodup_cons.2 ⟨fun hm => ?_, ?_⟩)).2 fun k => ?_
    · obtain ⟨n, hn', e⟩ := List.mem_map.1 hm
      rw [List.mem_range'_1] at hn'
      have hf1 : 1 ≤ n := by
        rcases Nat.eq_zero_or_pos n with e0 | e0
        · rw [hcnt, if_pos (by omega)] at hn'; omega
        · exact e0
      have hle : n ≤ l.last := by rw [hcnt] at hn'; split at hn' <;> omega
      rw [← e, numOf_seg n hf1 (by omega)] at h0
      omega
    · by_cases e : cnt = 0
      · rw [e]; exact List.nodup_nil
      · refine segs_nodup _ _ ?_
        rw [hcnt] at e ⊢
        split at e
        · exact absurd rfl e
        · rename_i e2
          rw [if_neg e2]
          omega
    · rw [hmem, List.mem_cons, List.mem_map, hS.each]
      constructor
      · rintro ⟨f, hf⟩
        by_cases e : k = newB
        · rw [if_pos e] at hf; cases hf
        · rw [if_neg e] at hf
          by_cases e0 : 0 < numOf k
          · rw [if_pos e0] at hf
            obtain ⟨g, hg, hc⟩ := Option.bind_eq_some_iff.1 hf
            rcases h.names k g hg with g' | ⟨n, g1, g2, g3⟩
            · omega
            · refine .inr ⟨n, ?_, g3.symm⟩
              have hnum : numOf g.name = n := by rw [(seek_some hg).2, g3]; exact numOf_seg n g1 (by omega)
              unfold cutAt at hc
              rw [hnum] at hc
              split at hc
              · cases hc
              · rename_i hb
                rw [List.mem_range'_1, hcnt]
                by_cases e1 : l.first = 0
                · have := h1 e1; omega
                · rw [if_neg e1]; omega
          · rw [if_neg e0] at hf
            rcases h.names k f hf with g' | ⟨n, g1, g2, g3⟩
            · exact .inl ((hE k g'.1).resolve_right e)
            · rw [g3, numOf_seg n g1 (by omega)] at e0
              omega
      · rintro (rfl | ⟨n, hn', rfl⟩)
        · obtain ⟨F, hF⟩ := hF
          exact ⟨F, by rw [if_neg ho, if_neg (by omega)]; exact hF⟩
        · rw [List.mem_range'_1] at hn'
          have hf1 : 1 ≤ l.first := by
            rcases Nat.eq_zero_or_pos l.first with e0 | e0
            · rw [hcnt, if_pos e0] at hn'; omega
            · exact e0
          have hle : n ≤ l.last := by rw [hcnt, if_neg (by omega)] at hn'; omega
          obtain ⟨s, hs⟩ := hR n (by omega) hn'.1 hle
          rw [if_neg (seg_new n), if_pos (by rw [numOf_seg n (by omega) (by omega)]; omega)]
          have hr := h.reads n (by omega) (by omega)
          rw [hs] at hr
          unfold readN at hr
          obtain ⟨g, hg, _⟩ := Option.map_eq_some_iff.1 hr
          rw [hg]
          show ∃ f, cutAt l g = some f
          have hnum : numOf g.name = n := by rw [(seek_some hg).2]; exact numOf_seg n (by omega) (by omega)
          unfold cutAt
          rw [hnum, if_neg (by omega)]
          split
          · exact ⟨_, rfl⟩
          · exact ⟨_, rfl⟩
  have := hp.length_eq
  rw [List.length_map, List.length_cons, List.length_map, List.length_range'] at this
  rw [this, hcnt]
end
end Go.Wal
/- What opening finds of segments that were laid by hand; plain. -/
namespace Go.Wal
open Go.Dk
def otherB : Bs := [111, 116, 104, 101, 114]
theorem Swept.from {a a' : A} {l : Lg} (h : Swept a l a') {f' : AF} (hf : f' ∈ a'.files) : ∃ f ∈ a.files, f.name = f'.name ∧ f'.bytes.length ≤ f.bytes.length := by
  have hs := seek_mem h.calm.rises hf
  rw [h.each] at hs
  split at hs
  · cases hs
  · split at hs
    · obtain ⟨g, hg, hc⟩ := Option.bind_eq_some_iff.1 hs
      obtain ⟨h1, h2⟩ := seek_some hg
      refine ⟨g, h1, h2, ?_⟩
      unfold cutAt at hc
      split at hc
      · cases hc
      · split at hc
        · cases hc
          rw [AF.bytes_settle, List.length_take]
          omega
        · cases hc
          exact Nat.le_refl _
    · obtain ⟨h1, h2⟩ := seek_some hs
      exact ⟨f', h1, h2, Nat.le_refl _⟩
/-- What the law asks for behind the loop. -/
theorem Laid.ends {a : A} {R : Nat → Option Bs} {number : Nat} {E : Bs → Prop} {m : List Bs} {count : Bool} {files : Nat} {broken : Bool} (h : Laid a R number E) (hE : ∀ k, E k → k = newB) (hH : Hand R number m count files broken) (hn : number ≤ 100) :
    ∃ a2 a3, a.doPut otherB ⟨[120], true⟩ = (a2, 0) ∧ a2.doSync = (a3, 0) ∧ Few a3.files ∧ Sm a3.files ∧ a3.down = false ∧ ∃ a4 t l, gatherOf a3.files 100 = l ∧ openOf a3 100 = (a4, some l, t, 0) ∧ openOf a4 100 = (a4, some l, 0, 0) ∧ gatherOf a4.files 100 = l ∧ Few a4.files ∧ Sm a4.files ∧ a4.down = false ∧ a4.files.length = files + 1 ∧ l.recs = m ∧
      ((l.last = 0 ∧ files = 0) ∨ (1 ≤ l.first ∧ l.first ≤ l.last ∧ l.last ≤ 100000 ∧ files = l.last + 1 - l.first)) := by
  obtain ⟨a2, hp, h2, ⟨F, hF⟩, _⟩ := h.more otherB [120] (by decide) (by decide) (by decide)
  obtain ⟨hs, h3, hk⟩ := h2.sync
  obtain ⟨a4, t, ho, hS⟩ := h3.calm.openIs 100
  obtain ⟨hr, f, hf, hc0, hc1⟩ := hH.gather h3.calm.rises (by omega) h3.reads 100
  have hfew := h3.few hn
  refine ⟨a2, _, hp, hs, hfew, h3.sm, h3.calm.down, a4, t, _, rfl, ho, hS.again h3.calm hfew, hS.gather h3.calm hfew, fun g hg => ?_, fun g hg => ?_, hS.calm.down, ?_, hr, ?_⟩
  · obtain ⟨g0, g1, g2, _⟩ := hS.from hg
    rw [← g2]
    exact hfew g0 g1
  · obtain ⟨g0, g1, _, g3⟩ := hS.from hg
    exact Nat.le_trans g3 (h3.sm g0 g1)
  · have hcnt := h3.count hS otherB (by decide) (by decide) (fun k hk => hk.elim (fun e => .inr (hE k e)) .inl) (hk _ _ hF) hn
    cases count with
    | false =>
      obtain ⟨e1, e2⟩ := hc0 rfl
      rw [e2] at hcnt
      have := hcnt (Nat.zero_le _) (fun _ => rfl) (fun n g1 _ g3 => absurd g3 (by show ¬ n ≤ 0; omega))
      rw [this, e1]
      rfl
    | true =>
      obtain ⟨e1, e2, e3, e4, e5⟩ := hc1 rfl
      have := hcnt (by omega) (fun e => by omega) (fun n g1 g2 g3 => by
        have := e5 (n - f) (by omega)
        rw [show f + (n - f) = n by omega] at this
        exact this)
      rw [this, if_neg (by omega)]
      omega
  · cases count with
    | false =>
      obtain ⟨e1, e2⟩ := hc0 rfl
      rw [e2]
      exact .inl ⟨rfl, e1⟩
    | true =>
      obtain ⟨e1, e2, e3, e4, e5⟩ := hc1 rfl
      exact .inr ⟨by omega, by omega, by omega, by omega⟩
theorem Laid.ends_new {a : A} {R : Nat → Option Bs} {number : Nat} (h : Laid a R number (fun _ => False)) : ∃ a1, a.doPut newB ⟨[104, 97, 108, 102], true⟩ = (a1, 0) ∧ Laid a1 R number (fun k => False ∨ k = newB) := by
  obtain ⟨a1, hp, h1, _⟩ := h.more newB [104, 97, 108, 102] (by decide) numOf_new (by decide)
  exact ⟨a1, hp, h1⟩
end Go.Wal
/- An opening that is struck: what is gathered stays; plain. -/
namespace Go.Wal
open Go.Dk
/-- What is read where the sweep has come down to number N. -/
def Half (fs : List AF) (l : Lg) (N : Nat) (fs' : List AF) : Prop := ∀ n, 1 ≤ n → n < 9223372036854775808 → readN fs' n = if N ≤ n then (readN fs n).bind (cutN l n) else readN fs n
theorem run_half {fs fs' : List AF} (N : Nat) : ∀ (k n : Nat) (l : Lg), l.first ≤ n → l.last < n → (∀ i, n ≤ i → i < n + k → readN fs' i = if N ≤ i then (readN fs i).bind (cutN (run fs k n l) i) else readN fs i) → run fs' k n l = run fs k n l
  | 0, _, _, _, _, _ => rfl
  | k + 1, n, l, hf, hl, h => by
    have hn := h n (Nat.le_refl _) (by omega)
    cases hr : readN fs n with
    | none =>
      rw [hr] at hn
      have hn' : readN fs' n = none := by rw [hn]; split <;> rfl
      rw [run_none hr, run_none hn']
    | some s =>
      rw [hr] at hn
      cases hh : head s with
      | none =>
        rw [run_no hr hh] at hn ⊢
        have : cutN l n s = none := by unfold cutN; rw [if_pos (.inr hl)]
        by_cases hN : N ≤ n
        · rw [if_pos hN, show (some s).bind (cutN l n) = cutN l n s from rfl, this] at hn
          exact run_none hn
        · rw [if_neg hN] at hn
          exact run_no hn hh
      | some b =>
        by_cases hw : whole s < s.length
        · have e := run_end (k := k) (l := l) hr hh hw
          have h1 := h (n + 1) (by omega)
          rw [e] at hn h1 ⊢
          by_cases hN : N ≤ n
          · rw [if_pos hN] at hn
            obtain ⟨t1, t2, t3, t4⟩ := take_head hh
            have hc : readN fs' n = some (s.take (whole s)) := by
              rw [hn]
              show cutN _ n s = _
              unfold cutN
              rw [if_neg (by simp only; omega), if_pos ⟨rfl, hw⟩]
            rw [run_on hc t1 (by rw [t2, t4]; omega), t2, t3]
            cases k with
            | zero => rfl
            | succ k =>
              have h2 := h1 (by omega)
              rw [if_pos (by omega)] at h2
              refine run_none ?_
              rw [h2]
              cases readN fs (n + 1) with
              | none => rfl
              | some s' =>
                show cutN _ (n + 1) s' = none
                unfold cutN
                rw [if_pos (.inr (Nat.lt_succ_self n))]
          · rw [if_neg hN] at hn
            exact run_end hn hh hw
        · have e := run_on (k := k) (l := l) hr hh hw
          rw [e] at h hn ⊢
          have hc : readN fs' n = some s := by
            rw [hn]
            split
            · show cutN _ n s = _
              unfold cutN
              have hwe : whole s = s.length := by have := whole_le hh; omega
              have hfl := (run_first (fs := fs) k (n + 1) ⟨l.most, l.first, n, whole s, l.recs ++ body s⟩).1
              rcases run_last (fs := fs) k (n + 1) ⟨l.most, l.first, n, whole s, l.recs ++ body s⟩ with e2 | ⟨h1, _⟩
              · rw [e2, if_neg (by simp only; omega), if_neg (by simp only; omega)]
              · rw [if_neg (by rw [hfl]; simp only; omega), if_neg (by omega)]
            · rfl
          rw [run_on hc hh hw]
          exact run_half N k (n + 1) _ (by simp only; omega) (Nat.lt_succ_self n) fun i h1 h2 => h i (by omega) (by omega)
theorem Half.gather {fs fs' : List AF} {most N : Nat} (hr1 : Rises AF.name fs) (hr2 : Rises AF.name fs') (hF : Few fs) (h : Half fs (gatherOf fs most) N fs') : gatherOf fs' most = gatherOf fs most := by
  by_cases h0 : firstOf fs = 0
  · have hl : gatherOf fs most = ⟨most, 0, 0, 0, []⟩ := by unfold gatherOf; rw [if_pos h0]
    rw [hl] at h ⊢
    have hf' : firstOf fs' = 0 := firstOf_none fun n hn => by
      obtain ⟨h1, h2, s, hs⟩ := (nums_iff hr2 n).1 hn
      have hs0 := hs
      rw [h n h1 h2] at hs
      cases hr : readN fs n with
      | none => rw [hr] at hs; split at hs <;> cases hs
      | some t =>
        rw [hr] at hs
        split at hs
        · have : cutN ⟨most, 0, 0, 0, []⟩ n t = none := by unfold cutN; rw [if_pos (.inr h1)]
          rw [show (some t).bind (cutN ⟨most, 0, 0, 0, []⟩ n) = cutN ⟨most, 0, 0, 0, []⟩ n t from rfl, this] at hs
          cases hs
        · cases hs
          have hm : n ∈ nums fs := (nums_iff hr1 n).2 ⟨h1, h2, _, hr⟩
          have hb : isB fs n = false := by
            cases hb : isB fs n with
            | false => rfl
            | true =>
              exfalso
              have : ((nums fs).find? (isB fs)).isSome := List.find?_isSome.2 ⟨n, hm, hb⟩
              obtain ⟨f, hf⟩ := Option.isSome_iff_exists.1 this
              unfold firstOf at h0
              rw [hf] at h0
              simp only [Option.getD_some] at h0
              have := (nums_iff hr1 f).1 (List.mem_of_find?_eq_some hf)
              omega
          rw [isB_is hr] at hb
          rw [isB_is hs0]
          exact hb
    unfold gatherOf
    rw [if_pos hf']
  · obtain ⟨hm, hb, hup⟩ := firstOf_spec h0
    have hfew := hF.first
    have hl : gatherOf fs most = run fs 1000002 (firstOf fs) ⟨most, firstOf fs, 0, 0, []⟩ := by unfold gatherOf; rw [if_neg h0]
    rw [hl] at h ⊢
    generalize hfo : firstOf fs = f at *
    have hf1 : (run fs 1000002 f ⟨most, f, 0, 0, []⟩).first = f := (run_first (fs := fs) 1000002 f ⟨most, f, 0, 0, []⟩).1
    obtain ⟨sf, hsf⟩ := nums_read hm
    have hhf : head sf = some true := by
      rw [isB_is hsf] at hb
      simpa using hb
    have hlast : f ≤ (run fs 1000002 f ⟨most, f, 0, 0, []⟩).last ∧ ∃ s b, readN fs (run fs 1000002 f ⟨most, f, 0, 0, []⟩).last = some s ∧ head s = some b ∧ (run fs 1000002 f ⟨most, f, 0, 0, []⟩).size = whole s := by
      rcases run_last (fs := fs) 1000002 f ⟨most, f, 0, 0, []⟩ with e | h'
      · exfalso
        have h2 : f ≤ (run fs 1000002 f ⟨most, f, 0, 0, []⟩).last := by
          by_cases hw : whole sf < sf.length
          · rw [run_end hsf hhf hw]; exact Nat.le_refl _
          · rw [run_on hsf hhf hw]
            rcases run_last (fs := fs) 1000001 (f + 1) ⟨most, f, f, whole sf, [] ++ body sf⟩ with e2 | ⟨h3, _⟩
            · simp only at e2 ⊢
              rw [e2]
              exact Nat.le_refl _
            · simp only at h3 ⊢
              omega
        rw [e] at h2
        simp only at h2
        omega
      · exact h'
    obtain ⟨hle, sl, bl, hsl, hhl, hsz⟩ := hlast
    have hagain := run_half (fs := fs) (fs' := fs') N 1000002 f ⟨most, f, 0, 0, []⟩ (Nat.le_refl _) (by simp only; omega) fun i h1 h2 => h i (by omega) (by omega)
    generalize run fs 1000002 f ⟨most, f, 0, 0, []⟩ = l at *
    have hkeep : ∀ n s', 1 ≤ n → n < 9223372036854775808 → readN fs' n = some s' → ∃ s, readN fs n = some s ∧ head s' = head s := fun n s' h1 h2 hs' => by
      rw [h n h1 h2] at hs'
      cases hr : readN fs n with
      | none => rw [hr] at hs'; split at hs' <;> cases hs'
      | some s =>
        rw [hr] at hs'
        split at hs'
        · replace hs' : cutN l n s = some s' := hs'
          unfold cutN at hs'
          split at hs'
          · cases hs'
          · refine ⟨s, rfl, ?_⟩
            split at hs'
            · rename_i hc2
              obtain ⟨e1, _⟩ := hc2
              subst e1
              rw [hr] at hsl
              cases hsl
              rw [hsz] at hs'
              cases hs'
              rw [(take_head hhl).1, hhl]
            · cases hs'; rfl
        · cases hs'
          exact ⟨_, rfl, rfl⟩
    have hf' : firstOf fs' = f := by
      have hflt : 1 ≤ f ∧ f < 9223372036854775808 := by
        obtain ⟨h1, h2, _⟩ := (nums_iff hr1 f).1 hm
        exact ⟨h1, h2⟩
      obtain ⟨sf', hsf'⟩ : ∃ s', readN fs' f = some s' := by
        rw [h f hflt.1 hflt.2, hsf]
        split
        · show ∃ s', cutN l f sf = some s'
          unfold cutN
          rw [if_neg (by omega)]
          split
          · exact ⟨_, rfl⟩
          · exact ⟨_, rfl⟩
        · exact ⟨_, rfl⟩
      refine firstOf_is ((nums_iff hr2 f).2 ⟨hflt.1, hflt.2, _, hsf'⟩) ?_ fun m hm' hlt => ?_
      · obtain ⟨s, hs, hh⟩ := hkeep f sf' hflt.1 hflt.2 hsf'
        rw [hsf] at hs
        cases hs
        rw [isB_is hsf', hh, hhf]
        rfl
      · obtain ⟨h1, h2, s', hs'⟩ := (nums_iff hr2 m).1 hm'
        obtain ⟨s, hs, hh⟩ := hkeep m s' h1 h2 hs'
        have := hup m ((nums_iff hr1 m).2 ⟨h1, h2, s, hs⟩) hlt
        rw [isB_is hs] at this
        rw [isB_is hs', hh]
        exact this
    unfold gatherOf
    rw [hf', if_neg (by omega)]
    exact hagain
end Go.Wal
/- Openings that are struck, again and again, where all files are settled; plain. -/
namespace Go.Wal
open Go.Dk
/-- All files are settled. -/
def Firm (fs : List AF) : Prop := ∀ f ∈ fs, f.settled = true ∧ f.puts = []
theorem firm_left {f : AF} (h : f.settled = true ∧ f.puts = []) (n : Nat) (t : Int) : f.left n t = (f.sure, true) := by
  obtain ⟨name, sure, settled, puts⟩ := f
  obtain ⟨h1, h2⟩ := h
  dsimp only at h1 h2
  subst h1 h2
  unfold AF.left
  simp [AF.after]
theorem crash_firm {a : A} (h : Firm a.files) (hd : a.down = false) (k t : Int) : a.crash k t = { a with down := true } := by
  unfold A.crash
  rw [hd, if_neg (by decide)]
  have e1 : a.files.filter (·.there k t) = a.files := List.filter_eq_self.2 fun f hf => by
    unfold AF.there
    rw [firm_left (h f hf)]
  have e2 : a.files.map (·.fallen k t) = a.files := by
    conv => rhs; rw [← List.map_id a.files]
    refine List.map_congr_left fun f hf => ?_
    unfold AF.fallen
    rw [firm_left (h f hf)]
    obtain ⟨h1, h2⟩ := h f hf
    obtain ⟨name, sure, settled, puts⟩ := f
    dsimp only at h1 h2
    subst h1 h2
    rfl
  rw [e1, e2]
theorem firm_del {fs : List AF} (h : Firm fs) (k : Bs) : Firm (del AF.name k fs) := fun f hf => h f (mem_del.1 hf).1
theorem firm_ins {fs : List AF} (hr : Rises AF.name fs) (h : Firm fs) (f : AF) (b : Bs) : Firm (ins AF.name (f.settle b) fs) := fun g hg => by
  rcases (mem_ins_iff hr).1 hg with rfl | ⟨h1, _⟩
  · exact ⟨rfl, rfl⟩
  · exact h g h1
theorem change_two {a b : A} (hf : Firm a.files) (hd : a.down = false) : a.change b = (b, 0) ∨ ∃ a', a.change b = (a', 7) ∧ a'.files = a.files ∧ a'.down = true ∧ a'.room = a.room := by
  unfold A.change
  cases hh : a.hit with
  | none => exact .inl rfl
  | some f =>
    right
    simp only
    rw [crash_firm (a := { a with fall := none }) hf hd]
    exact ⟨_, rfl, rfl, rfl, rfl⟩
theorem trim_half {a : A} (hr : Rises AF.name a.files) (hf : Firm a.files) (hd : a.down = false) (l : Lg) {n : Nat} {s : Bs} (h1 : 1 ≤ n) (hn : n < 9223372036854775808) (hs : readN a.files n = some s) :
    ∃ a' t e, trimOf l n s.length a = (a', t, e) ∧ Rises AF.name a'.files ∧ Firm a'.files ∧ a'.room = a.room ∧
      ((e = 0 ∧ a'.down = false ∧ ∀ k, seek AF.name k a'.files = if k = seg n then (seek AF.name k a.files).bind (cutAt l) else seek AF.name k a.files) ∨ (e = 7 ∧ a'.down = true ∧ a'.files = a.files)) := by
  unfold readN at hs
  obtain ⟨f, hff, rfl⟩ := Option.map_eq_some_iff.1 hs
  have hnm := (seek_some hff).2
  have hnum : numOf f.name = n := by rw [hnm]; exact numOf_seg n h1 hn
  have hab : ableOf a (seg n) = 0 := by unfold ableOf; rw [hd, seg_ok n hn]; rfl
  unfold trimOf
  by_cases c1 : n < l.first ∨ l.last < n
  · rw [if_pos c1]
    have e : a.doRemove (seg n) = a.change (a.left (del AF.name (seg n) a.files)) := by
      unfold A.doRemove
      rw [hab, if_neg (by decide), hff]
    rw [e]
    rcases change_two (b := a.left (del AF.name (seg n) a.files)) hf hd with e | ⟨a', e, g1, g2, g3⟩
    · rw [e]
      refine ⟨_, _, 0, rfl, hr.del, firm_del hf _, rfl, .inl ⟨rfl, hd, fun k => ?_⟩⟩
      show seek AF.name k (del AF.name (seg n) a.files) = _
      rw [seek_del]
      by_cases e : k = seg n
      · subst e
        rw [if_pos rfl, if_pos rfl, hff]
        show none = cutAt l f
        unfold cutAt
        rw [hnum, if_pos c1]
      · rw [if_neg e, if_neg e]
    · rw [e]
      exact ⟨_, _, 7, rfl, by rw [g1]; exact hr, by rw [g1]; exact hf, g3, .inr ⟨rfl, g2, g1⟩⟩
  · rw [if_neg c1]
    by_cases c2 : n = l.last ∧ l.size < f.bytes.length
    · rw [if_pos c2]
      have e : a.doTrunc (seg n) (l.size : Int) = a.change (a.left (ins AF.name (f.settle (f.bytes.take l.size)) a.files)) := by
        unfold A.doTrunc
        rw [hab, if_neg (by decide), hff]
        simp only
        rw [if_neg (by omega)]
        rfl
      rw [e]
      rcases change_two (b := a.left (ins AF.name (f.settle (f.bytes.take l.size)) a.files)) hf hd with e | ⟨a', e, g1, g2, g3⟩
      · rw [e]
        refine ⟨_, _, 0, rfl, hr.ins, firm_ins hr hf _ _, rfl, .inl ⟨rfl, hd, fun k => ?_⟩⟩
        show seek AF.name k (ins AF.name (f.settle (f.bytes.take l.size)) a.files) = _
        rw [seek_ins hr]
        have e0 : (f.settle (f.bytes.take l.size)).name = seg n := hnm
        rw [e0]
        by_cases e : k = seg n
        · subst e
          rw [if_pos rfl, if_pos rfl, hff]
          show _ = cutAt l f
          unfold cutAt
          rw [hnum, if_neg c1, if_pos c2]
        · rw [if_neg e, if_neg e]
      · rw [e]
        exact ⟨_, _, 7, rfl, by rw [g1]; exact hr, by rw [g1]; exact hf, g3, .inr ⟨rfl, g2, g1⟩⟩
    · rw [if_neg c2]
      refine ⟨a, 0, 0, rfl, hr, hf, rfl, .inl ⟨rfl, hd, fun k => ?_⟩⟩
      by_cases e : k = seg n
      · subst e
        rw [if_pos rfl, hff]
        show some f = cutAt l f
        unfold cutAt
        rw [hnum, if_neg c1, if_neg c2]
      · rw [if_neg e]
theorem sweep_half (l : Lg) : ∀ (ns : List Nat) (a : A) (c : Nat), Rises AF.name a.files → Firm a.files → a.down = false → ns.Nodup → (∀ n ∈ ns, 1 ≤ n ∧ n < 9223372036854775808 ∧ ∃ s, readN a.files n = some s) →
    ∃ a' t e pre suf, sweepOf l ns a c = (a', t, e) ∧ ns = pre ++ suf ∧ Rises AF.name a'.files ∧ Firm a'.files ∧ a'.room = a.room ∧ (∀ k, seek AF.name k a'.files = if numOf k ∈ pre then (seek AF.name k a.files).bind (cutAt l) else seek AF.name k a.files) ∧ ((e = 0 ∧ a'.down = false) ∨ (e = 7 ∧ a'.down = true))
  | [], a, c, hr, hf, hd, _, _ => ⟨a, c, 0, [], [], rfl, rfl, hr, hf, rfl, fun k => by simp, .inl ⟨rfl, hd⟩⟩
  | n :: ns, a, c, hr, hf, hd, hnd, hn => by
    obtain ⟨h1, h2, s, hs⟩ := hn n (List.mem_cons_self ..)
    obtain ⟨hnot, hnd'⟩ := List.nodup_cons.1 hnd
    obtain ⟨a1, t1, e1, ht, hr1, hf1, hro1, ⟨rfl, hd1, hk1⟩ | ⟨rfl, hd1, hfs1⟩⟩ := trim_half hr hf hd l h1 h2 hs
    · obtain ⟨a2, t2, e2, pre, suf, hs2, hns, hr2, hf2, hro2, hk2, hend⟩ := sweep_half l ns a1 (if 0 < l.first ∧ l.first ≤ n then c + t1 else c) hr1 hf1 hd1 hnd' fun m hm => by
        obtain ⟨g1, g2, s', g3⟩ := hn m (List.mem_cons_of_mem _ hm)
        refine ⟨g1, g2, s', ?_⟩
        unfold readN at g3 ⊢
        rw [hk1, if_neg (fun e => hnot (by rw [← seg_inj g2 h2 e]; exact hm))]
        exact g3
      refine ⟨a2, t2, e2, n :: pre, suf, ?_, by rw [hns]; rfl, hr2, hf2, hro2.trans hro1, fun k => ?_, hend⟩
      · rw [sweepOf_go hs (by rw [ht]), ht]
        exact hs2
      · have hnp : n ∉ pre := fun h => hnot (by rw [hns]; exact List.mem_append_left _ h)
        rw [hk2, hk1]
        by_cases e : numOf k = n
        · have ek := numOf_big e h1
          rw [if_neg (by rw [e]; exact hnp), if_pos ek, if_pos (by rw [e]; exact List.mem_cons_self ..)]
        · have ek : k ≠ seg n := fun ek => e (by rw [ek]; exact numOf_seg n h1 h2)
          rw [if_neg ek]
          by_cases e2 : numOf k ∈ pre
          · rw [if_pos e2, if_pos (List.mem_cons_of_mem _ e2)]
          · rw [if_neg e2, if_neg (fun h' => (List.mem_cons.1 h').elim e e2)]
    · refine ⟨a1, 0, 7, [], n :: ns, ?_, rfl, hr1, hf1, hro1, fun k => by simp [hfs1], .inr ⟨rfl, hd1⟩⟩
      rw [sweepOf_stop hs (by rw [ht]; simp), ht]
/-- An opening where all files are settled, struck or not. -/
theorem open_half {a : A} (hr : Rises AF.name a.files) (hf : Firm a.files) (hd : a.down = false) (most : Nat) :
    ∃ a' o t e N, openOf a most = (a', o, t, e) ∧ Rises AF.name a'.files ∧ Firm a'.files ∧ Half a.files (gatherOf a.files most) N a'.files ∧ ∀ f' ∈ a'.files, ∃ f ∈ a.files, f.name = f'.name ∧ f'.bytes.length ≤ f.bytes.length := by
  obtain ⟨a1, t1, e1, pre, suf, hs, hns, hr1, hf1, hro1, hk1, hend⟩ := sweep_half (gatherOf a.files most) (nums a.files) a 0 hr hf hd (nums_nodup hr) fun n hn => by
    obtain ⟨h1, h2, h3⟩ := (nums_iff hr n).1 hn
    exact ⟨h1, h2, h3⟩
  have hH : ∃ N, Half a.files (gatherOf a.files most) N a1.files := by
    refine ⟨match suf with | [] => 0 | m :: _ => m + 1, fun n h1 h2 => ?_⟩
    have hnum := numOf_seg n h1 h2
    cases hrd : readN a.files n with
    | none =>
      have hsk : seek AF.name (seg n) a.files = none := by unfold readN at hrd; exact Option.map_eq_none_iff.1 hrd
      have : readN a1.files n = none := by
        unfold readN
        rw [hk1, hsk]
        split <;> rfl
      rw [this]
      have hany : ∀ N : Nat, (none : Option Bs) = if N ≤ n then (none : Option Bs).bind (cutN (gatherOf a.files most) n) else none := fun N => by split <;> rfl
      exact hany _
    | some s =>
      have hm : n ∈ nums a.files := (nums_iff hr n).2 ⟨h1, h2, s, hrd⟩
      have hmem : n ∈ pre ↔ (match suf with | [] => 0 | m :: _ => m + 1) ≤ n := by
        rw [hns] at hm
        cases suf with
        | nil => simpa using hm
        | cons m suf =>
          have hdn := nums_down a.files
          have hnd := nums_nodup hr
          rw [hns] at hdn hnd
          obtain ⟨_, p2, p3⟩ := List.pairwise_append.1 hdn
          obtain ⟨_, q2, q3⟩ := List.nodup_append.1 hnd
          constructor
          · intro hp
            have g1 := p3 n hp m (List.mem_cons_self ..)
            have g2 := q3 n hp m (List.mem_cons_self ..)
            show m + 1 ≤ n
            omega
          · intro hle
            rcases List.mem_append.1 hm with hp | hp
            · exact hp
            · exfalso
              replace hle : m + 1 ≤ n := hle
              rcases List.mem_cons.1 hp with rfl | hp
              · omega
              · have := (List.pairwise_cons.1 p2).1 n hp
                omega
      by_cases hp : n ∈ pre
      · rw [if_pos (hmem.1 hp), ← hrd]
        refine readN_of_seek h1 h2 ?_
        rw [hk1, hnum, if_pos hp]
      · rw [if_neg (fun h => hp (hmem.2 h)), ← hrd]
        unfold readN
        rw [hk1, hnum, if_neg hp]
  have hfrom : ∀ f' ∈ a1.files, ∃ f ∈ a.files, f.name = f'.name ∧ f'.bytes.length ≤ f.bytes.length := fun f' hf' => by
    have hs' := seek_mem hr1 hf'
    rw [hk1] at hs'
    split at hs'
    · obtain ⟨g, hg, hc⟩ := Option.bind_eq_some_iff.1 hs'
      obtain ⟨g1, g2⟩ := seek_some hg
      refine ⟨g, g1, g2, ?_⟩
      unfold cutAt at hc
      split at hc
      · cases hc
      · split at hc
        · cases hc
          rw [AF.bytes_settle, List.length_take]
          omega
        · cases hc
          exact Nat.le_refl _
    · obtain ⟨g1, g2⟩ := seek_some hs'
      exact ⟨f', g1, g2, Nat.le_refl _⟩
  obtain ⟨N, hH⟩ := hH
  unfold openOf
  rw [hd, hs, if_neg (by decide)]
  simp only
  rcases hend with ⟨rfl, hd1⟩ | ⟨rfl, hd1⟩
  · rw [if_neg (by decide)]
    have hab : ableOf a1 newB = 0 := by unfold ableOf; rw [hd1, new_ok]; rfl
    have hrm : ∃ a' e, a1.doRemove newB = (a', e) ∧ Rises AF.name a'.files ∧ Firm a'.files ∧ (a'.files = a1.files ∨ a'.files = del AF.name newB a1.files) := by
      unfold A.doRemove
      rw [hab, if_neg (by decide)]
      cases hn : seek AF.name newB a1.files with
      | none => exact ⟨a1, 2, rfl, hr1, hf1, .inl rfl⟩
      | some g =>
        simp only
        rcases change_two (b := a1.left (del AF.name newB a1.files)) hf1 hd1 with e | ⟨a', e, g1, g2, g3⟩
        · rw [e]; exact ⟨_, _, rfl, hr1.del, firm_del hf1 _, .inr rfl⟩
        · rw [e]; exact ⟨_, _, rfl, by rw [g1]; exact hr1, by rw [g1]; exact hf1, .inl g1⟩
    obtain ⟨a2, e2, he2, hr2, hf2, hfs⟩ := hrm
    rw [he2]
    have hH2 : Half a.files (gatherOf a.files most) N a2.files := by
      rcases hfs with e | e
      · rw [e]; exact hH
      · intro n h1 h2
        rw [← hH n h1 h2]
        unfold readN
        rw [e, seek_del, if_neg (seg_new n)]
    have hfrom2 : ∀ f' ∈ a2.files, ∃ f ∈ a.files, f.name = f'.name ∧ f'.bytes.length ≤ f.bytes.length := fun f' hf' => by
      rcases hfs with e | e
      · rw [e] at hf'; exact hfrom f' hf'
      · rw [e] at hf'; exact hfrom f' (mem_del.1 hf').1
    simp only
    split
    · exact ⟨_, _, _, _, N, rfl, hr2, hf2, hH2, hfrom2⟩
    · exact ⟨_, _, _, _, N, rfl, hr2, hf2, hH2, hfrom2⟩
  · rw [if_pos (by decide)]
    exact ⟨_, _, _, _, N, rfl, hr1, hf1, hH, hfrom⟩
/-- What the law keeps between two falls: what is gathered. -/
structure Js (l : Lg) (a : A) : Prop where
  rises : Rises AF.name a.files
  firm : Firm a.files
  fall : a.fall = none
  down : a.down = false
  gath : gatherOf a.files 100 = l
  few : Few a.files
  sm : Sm a.files
theorem Js.struck {l : Lg} {a : A} (h : Js l a) (f : Fall) (k t : Int) :
    ∃ a2 o tt e, openOf { a with fall := some f } 100 = (a2, o, tt, e) ∧ Js l { ({ a2 with fall := none } : A).crash k t with down := false } := by
  obtain ⟨a2, o, tt, e, N, ho, hr, hf, hH, hfrom⟩ := open_half (a := { a with fall := some f }) h.rises h.firm h.down 100
  refine ⟨a2, o, tt, e, ho, ?_⟩
  have hg : gatherOf a2.files 100 = l := (hH.gather h.rises hr h.few).trans h.gath
  have hw : Few a2.files := fun g hg => by
    obtain ⟨g0, g1, g2, _⟩ := hfrom g hg
    rw [← g2]
    exact h.few g0 g1
  have hs : Sm a2.files := fun g hg => by
    obtain ⟨g0, g1, _, g3⟩ := hfrom g hg
    exact Nat.le_trans g3 (h.sm g0 g1)
  by_cases hd : a2.down = true
  · have e : ({ a2 with fall := none } : A).crash k t = { a2 with fall := none } := by unfold A.crash; rw [if_pos hd]
    rw [e]
    exact ⟨hr, hf, rfl, rfl, hg, hw, hs⟩
  · rw [crash_firm (a := { a2 with fall := none }) hf (by simpa using hd)]
    exact ⟨hr, hf, rfl, rfl, hg, hw, hs⟩
theorem Js.calm {l : Lg} {a : A} (h : Js l a) : Calm a := ⟨h.rises, h.fall, h.down⟩
end Go.Wal
/- What WalStruck asks of the segments that stand there; plain. -/
namespace Go.Wal
open Go.Dk
theorem recsF_len : ∀ (k : Nat) (s : Bs), (recsF k s).length ≤ k
  | 0, _ => Nat.le_refl _
  | k + 1, s => by
    unfold recsF
    split
    · split
      · rw [List.length_cons]
        exact Nat.succ_le_succ (recsF_len k _)
      · exact Nat.zero_le _
    · exact Nat.zero_le _
theorem body_len (s : Bs) : (body s).length ≤ s.length := by
  unfold body
  exact Nat.le_trans (recsF_len _ _) (by simp)
theorem run_most {fs : List AF} (h : ∀ i s, readN fs i = some s → s.length ≤ 2000) : ∀ (k n : Nat) (l : Lg), (run fs k n l).recs.length ≤ l.recs.length + 2000 * ((run fs k n l).last + 1 - n)
  | 0, _, _ => Nat.le_add_right _ _
  | k + 1, n, l => by
    cases hr : readN fs n with
    | none => rw [run_none hr]; exact Nat.le_add_right _ _
    | some s =>
      have hb := Nat.le_trans (body_len s) (h n s hr)
      cases hh : head s with
      | none => rw [run_no hr hh]; exact Nat.le_add_right _ _
      | some b =>
        by_cases hw : whole s < s.length
        · rw [run_end hr hh hw]
          simp only [List.length_append]
          omega
        · rw [run_on hr hh hw]
          have ih := run_most h k (n + 1) ⟨l.most, l.first, n, whole s, l.recs ++ body s⟩
          simp only [List.length_append] at ih
          have hlast : n ≤ (run fs k (n + 1) ⟨l.most, l.first, n, whole s, l.recs ++ body s⟩).last := by
            rcases run_last (fs := fs) k (n + 1) ⟨l.most, l.first, n, whole s, l.recs ++ body s⟩ with e | ⟨h1, _⟩
            · rw [e]; exact Nat.le_refl _
            · omega
          omega
/-- Which numbers the segments have. -/
def Segd (l : Lg) : Prop := l.last = 0 ∨ (1 ≤ l.first ∧ l.first ≤ l.last ∧ l.last ≤ 100000)
theorem Laid.js {a : A} {R : Nat → Option Bs} {number : Nat} (h : Laid a R number (fun _ => False)) (hn : number ≤ 10) :
    a.doSync = (a.synced, 0) ∧ ∃ l, Js l a.synced ∧ l.recs.length ≤ 1000000 ∧ Segd l := by
  obtain ⟨hs, h3, _⟩ := h.sync
  refine ⟨hs, gatherOf a.synced.files 100, ⟨h3.calm.rises, fun f hf => ?_, h3.calm.fall, h3.calm.down, rfl, h3.few (by omega), h3.sm⟩, ?_⟩
  · obtain ⟨g, _, rfl⟩ := List.mem_map.1 hf
    exact ⟨rfl, rfl⟩
  · by_cases h0 : firstOf a.synced.files = 0
    · have hl : gatherOf a.synced.files 100 = ⟨100, 0, 0, 0, []⟩ := by unfold gatherOf; rw [if_pos h0]
      rw [hl]
      exact ⟨Nat.zero_le _, .inl rfl⟩
    · obtain ⟨hm, hb, _⟩ := firstOf_spec h0
      obtain ⟨f1, _, _⟩ := (nums_iff h3.calm.rises _).1 hm
      have hgb := gather_bounds (most := 100) (h3.few (by omega)) h3.sm
      have hl : gatherOf a.synced.files 100 = run a.synced.files 1000002 (firstOf a.synced.files) ⟨100, firstOf a.synced.files, 0, 0, []⟩ := by unfold gatherOf; rw [if_neg h0]
      rw [hl] at hgb ⊢
      generalize hfo : firstOf a.synced.files = f at *
      have hf1 : (run a.synced.files 1000002 f ⟨100, f, 0, 0, []⟩).first = f := (run_first (fs := a.synced.files) 1000002 f ⟨100, f, 0, 0, []⟩).1
      obtain ⟨sf, hsf⟩ := nums_read hm
      have hhf : head sf = some true := by
        rw [isB_is hsf] at hb
        simpa using hb
      have hlast : f ≤ (run a.synced.files 1000002 f ⟨100, f, 0, 0, []⟩).last ∧ ∃ s b, readN a.synced.files (run a.synced.files 1000002 f ⟨100, f, 0, 0, []⟩).last = some s ∧ head s = some b ∧ (run a.synced.files 1000002 f ⟨100, f, 0, 0, []⟩).size = whole s := by
        rcases run_last (fs := a.synced.files) 1000002 f ⟨100, f, 0, 0, []⟩ with e | h'
        · exfalso
          have h2 : f ≤ (run a.synced.files 1000002 f ⟨100, f, 0, 0, []⟩).last := by
            by_cases hw : whole sf < sf.length
            · rw [run_end hsf hhf hw]; exact Nat.le_refl _
            · rw [run_on hsf hhf hw]
              rcases run_last (fs := a.synced.files) 1000001 (f + 1) ⟨100, f, f, whole sf, [] ++ body sf⟩ with e2 | ⟨h3, _⟩
              · simp only at e2 ⊢
                rw [e2]
                exact Nat.le_refl _
              · simp only at h3 ⊢
                omega
          rw [e] at h2
          simp only at h2
          omega
        · exact h'
      obtain ⟨hle, sl, bl, hsl, hhl, hsz⟩ := hlast
      have hrec := run_most (fs := a.synced.files) (fun i s hi => by
        unfold readN at hi
        obtain ⟨g, hg, rfl⟩ := Option.map_eq_some_iff.1 hi
        exact h3.short g (seek_some hg).1) 1000002 f ⟨100, f, 0, 0, []⟩
      have hnum : (run a.synced.files 1000002 f ⟨100, f, 0, 0, []⟩).last ≤ number := by
        generalize (run a.synced.files 1000002 f ⟨100, f, 0, 0, []⟩).last = n at *
        unfold readN at hsl
        obtain ⟨g, hg, _⟩ := Option.map_eq_some_iff.1 hsl
        rcases h3.names _ g hg with ⟨h4, _⟩ | ⟨m, h4, h5, h6⟩
        · exact h4.elim
        · have := seg_inj (m := n) (n := m) (by omega) (by omega) h6
          omega
      refine ⟨?_, .inr ⟨by omega, by omega, by omega⟩⟩
      simp only [List.length_nil] at hrec
      omega
end Go.Wal
