/- Several texts in one: WalKeep, WalSame, WalCuts. -/
import Derived.Test.YtoineobjmllicaaGreatDoorResetOne
import Derived.Test.YtoineobjmllicaaGreatDoorWlThree
import Derived.BigQuiet
/- What a log keeps on its disk: the plain part: segments that follow one another, each whole and settled; what opening, adding, laying anew and a loss of power leave of them. -/
namespace Go.Wal
open Go.Dk
/-- The i-th segment, behind one of this number, with these records. -/
def sg (first i : Nat) (rs : List Bs) : AF := ⟨seg (first + i), hd (decide (i = 0)) ++ frs rs, true, []⟩
/-- The files are just these segments. -/
structure Img (fs : List AF) (first : Nat) (cs : List (List Bs)) : Prop where
  rises : Rises AF.name fs
  each : ∀ f, f ∈ fs ↔ ∃ i rs, cs[i]? = some rs ∧ f = sg first i rs
  pos : 1 ≤ first
  few : first + cs.length ≤ 1000
  short : ∀ rs ∈ cs, ∀ r ∈ rs, r.length ≤ 1000
  size : ∀ rs ∈ cs, (frs rs).length ≤ 2000
theorem sg_bytes (first i : Nat) (rs : List Bs) : (sg first i rs).bytes = hd (decide (i = 0)) ++ frs rs := rfl
theorem sg_name (first i : Nat) (rs : List Bs) : (sg first i rs).name = seg (first + i) := rfl
variable {fs : List AF} {first : Nat} {cs : List (List Bs)}
theorem Img.mem (h : Img fs first cs) {i : Nat} {rs : List Bs} (hi : cs[i]? = some rs) : sg first i rs ∈ fs := (h.each _).2 ⟨i, rs, hi, rfl⟩
theorem Img.found (h : Img fs first cs) {i : Nat} {rs : List Bs} (hi : cs[i]? = some rs) : Dk.seek AF.name (seg (first + i)) fs = some (sg first i rs) := seek_mem h.rises (h.mem hi)
theorem get_lt {α : Type} {l : List α} {i : Nat} {x : α} (h : l[i]? = some x) : i < l.length := (List.getElem?_eq_some_iff.1 h).1
theorem Img.no (h : Img fs first cs) {k : Bs} (hk : ∀ i, i < cs.length → k ≠ seg (first + i)) : seek AF.name k fs = none := by
  cases hs : seek AF.name k fs with
  | none => rfl
  | some f =>
    obtain ⟨h1, h2⟩ := seek_some hs
    obtain ⟨i, rs, hi, rfl⟩ := (h.each f).1 h1
    exact absurd h2.symm (hk i (get_lt hi))
theorem Img.noNew (h : Img fs first cs) : Dk.seek AF.name newB fs = none := h.no fun _ _ e => seg_new _ e.symm
theorem Img.noNext (h : Img fs first cs) (n : Nat) (h1 : first + cs.length ≤ n) (h2 : n < 9223372036854775808) : Dk.seek AF.name (seg n) fs = none := h.no fun i hi e => by
  have := seg_inj h2 (by have := h.few; omega) e
  omega
theorem Img.read (h : Img fs first cs) {i : Nat} {rs : List Bs} (hi : cs[i]? = some rs) : readN fs (first + i) = some (hd (decide (i = 0)) ++ frs rs) := by
  unfold readN; rw [h.found hi]; rfl
theorem Img.readNo (h : Img fs first cs) : readN fs (first + cs.length) = none := by
  unfold readN; rw [h.noNext _ (Nat.le_refl _) (by have := h.few; omega)]; rfl
/-- The list of the segments, by their numbers. -/
def row (first : Nat) (cs : List (List Bs)) : List AF := (List.range cs.length).map fun i => sg first i (cs.getD i [])
theorem getD_of {α : Type} {l : List α} {i : Nat} {x d : α} (h : l[i]? = some x) : l.getD i d = x := by rw [List.getD_eq_getElem?_getD, h]; rfl
theorem row_mem (first : Nat) (cs : List (List Bs)) (f : AF) : f ∈ row first cs ↔ ∃ i rs, cs[i]? = some rs ∧ f = sg first i rs := by
  unfold row
  rw [List.mem_map]
  constructor
  · rintro ⟨i, hi, rfl⟩
    rw [List.mem_range] at hi
    exact ⟨i, cs[i], List.getElem?_eq_getElem hi, by rw [getD_of (List.getElem?_eq_getElem hi)]⟩
  · rintro ⟨i, rs, hi, rfl⟩
    exact ⟨i, List.mem_range.2 (get_lt hi), by rw [getD_of hi]⟩
theorem row_names (first : Nat) (cs : List (List Bs)) : (row first cs).map AF.name = (List.range' first cs.length).map seg := by
  unfold row
  rw [List.map_map, List.range_eq_range', List.range'_eq_map_range, List.range'_eq_map_range, List.map_map, List.map_map]
  apply List.map_congr_left
  intro i _
  simp [sg]
theorem segs_nodup (first n : Nat) (h : first + n ≤ 1000) : ((List.range' first n).map seg).Nodup := by
  unfold List.Nodup
  rw [List.pairwise_map]
  refine List.Pairwise.imp_of_mem (fun {a b} ha hb hab e => ?_) (List.nodup_range' (s := first) (n := n))
  rw [List.mem_range'_1] at ha hb
  exact hab (seg_inj (by omega) (by omega) e)
theorem row_nodup (first : Nat) (cs : List (List Bs)) (h : first + cs.length ≤ 1000) : (row first cs).Nodup := by
  have := segs_nodup first cs.length h
  rw [← row_names] at this
  exact List.Pairwise.of_map AF.name (fun _ _ hne e => hne (by rw [e])) this
theorem Img.perm (h : Img fs first cs) : fs.Perm (row first cs) :=
  (List.perm_ext_iff_of_nodup h.rises.nodup (row_nodup _ _ h.few)).2 fun f => by rw [h.each, row_mem]
theorem Img.count (h : Img fs first cs) : fs.length = cs.length := by rw [h.perm.length_eq]; simp [row]
theorem numsOf_segs (first n : Nat) (h1 : 1 ≤ first) (h : first + n ≤ 1000) : numsOf ((List.range' first n).map seg) = List.range' first n := by
  unfold numsOf
  rw [List.map_map]
  have e : (List.range' first n).map (numOf ∘ seg) = List.range' first n := by
    conv => rhs; rw [← List.map_id (List.range' first n)]
    apply List.map_congr_left
    intro m hm
    rw [List.mem_range'_1] at hm
    exact numOf_seg m (by omega) (by omega)
  rw [e, List.filter_eq_self]
  intro m hm
  rw [List.mem_range'_1] at hm
  simp; omega
theorem Img.ups (h : Img fs first cs) : ups fs = List.range' first cs.length := by
  have hp : (numsOf (fs.map AF.name)).Perm (List.range' first cs.length) := by
    have := (h.perm.map AF.name)
    rw [row_names] at this
    have h2 : (numsOf (fs.map AF.name)).Perm (numsOf ((List.range' first cs.length).map seg)) := (this.map numOf).filter _
    rw [numsOf_segs _ _ h.pos h.few] at h2
    exact h2
  unfold Go.Wal.ups
  have s1 := List.pairwise_mergeSort (le := fun x y : Nat => decide (x ≤ y)) (fun a b c h1 h2 => by simp only [decide_eq_true_eq] at *; omega) (fun a b => by simp only [Bool.or_eq_true, decide_eq_true_eq]; omega) (numsOf (fs.map AF.name))
  refine List.Perm.eq_of_pairwise (le := fun x y => decide (x ≤ y) = true) (fun a b _ _ h1 h2 => by simp only [decide_eq_true_eq] at *; omega) s1 ?_ ((List.mergeSort_perm _ _).trans hp)
  exact List.Pairwise.imp (fun {a b} hab => by simp only [decide_eq_true_eq]; omega) (List.pairwise_lt_range' (s := first) (n := cs.length))
theorem Img.nums (h : Img fs first cs) : nums fs = (List.range' first cs.length).reverse := by unfold Go.Wal.nums; rw [h.ups]
theorem small_of (h : ∀ rs ∈ cs, ∀ r ∈ rs, r.length ≤ 1000) {i : Nat} {rs : List Bs} (hi : cs[i]? = some rs) : ∀ r ∈ rs, r.length < 2147483647 := fun r hr => by
  have := h rs (List.mem_of_getElem? hi) r hr; omega
theorem Img.isB (h : Img fs first cs) {i : Nat} {rs : List Bs} (hi : cs[i]? = some rs) : Wal.isB fs (first + i) = decide (i = 0) := by
  rw [isB_is (h.read hi), head_hd]
  cases i <;> rfl
theorem Img.firstIs (h : Img fs first cs) (hne : cs ≠ []) : firstOf fs = first := by
  obtain ⟨c, cs', rfl⟩ := List.exists_cons_of_ne_nil hne
  refine firstOf_some (pre := (List.range' (first + 1) cs'.length).reverse) (rest := []) (by rw [h.nums, List.length_cons, List.range'_succ, List.reverse_cons]) (fun m hm => ?_) ?_
  · rw [List.mem_reverse, List.mem_range'_1] at hm
    obtain ⟨i, rfl⟩ : ∃ i, m = first + (i + 1) := ⟨m - first - 1, by omega⟩
    have hi : i + 1 < (c :: cs').length := by rw [List.length_cons]; omega
    rw [h.isB (List.getElem?_eq_getElem hi)]
    rfl
  · have := h.isB (i := 0) (rs := c) rfl
    rwa [Nat.add_zero] at this
theorem Img.firstNo (h : Img fs first []) : firstOf fs = 0 := firstOf_none fun n hn => by rw [h.nums] at hn; simp at hn
/-- The log that such files are. -/
def logOf (most first : Nat) (cs : List (List Bs)) : Lg := if cs = [] then ⟨most, 0, 0, 0, []⟩ else ⟨most, first, first + cs.length - 1, 17 + (frs (cs.getLastD [])).length, cs.flatten⟩
theorem run_img {fs : List AF} : ∀ (ds : List (List Bs)) (k n : Nat) (l : Lg) (b : Nat → Bool), ds.length < k → (∀ i rs, ds[i]? = some rs → readN fs (n + i) = some (hd (b i) ++ frs rs) ∧ ∀ r ∈ rs, r.length < 2147483647) → readN fs (n + ds.length) = none →
    run fs k n l = if ds = [] then l else ⟨l.most, l.first, n + ds.length - 1, 17 + (frs (ds.getLastD [])).length, l.recs ++ ds.flatten⟩
  | [], k, n, l, b, hk, _, h2 => by
    obtain ⟨j, rfl⟩ : ∃ j, k = j + 1 := ⟨k - 1, by simp at hk; omega⟩
    have h2' : readN fs n = none := h2
    unfold run
    rw [h2']
    rfl
  | d :: ds, k, n, l, b, hk, h1, h2 => by
    obtain ⟨j, rfl⟩ : ∃ j, k = j + 1 := ⟨k - 1, by simp at hk; omega⟩
    obtain ⟨hr, hs⟩ := h1 0 d rfl
    rw [Nat.add_zero] at hr
    have ih := run_img ds j (n + 1) ⟨l.most, l.first, n, whole (hd (b 0) ++ frs d), l.recs ++ body (hd (b 0) ++ frs d)⟩ (fun i => b (i + 1)) (by simp at hk; omega) (fun i rs hi => by have := h1 (i + 1) rs hi; rwa [show n + (i + 1) = n + 1 + i by omega] at this) (by rw [← h2]; congr 1; simp; omega)
    unfold run
    rw [hr]
    simp only
    rw [head_hd]
    simp only
    rw [whole_laid _ _ hs, if_neg (Nat.lt_irrefl _), ← whole_laid (b 0) d hs, ih, body_laid _ _ hs]
    rw [if_neg (List.cons_ne_nil _ _)]
    split
    · rename_i h0
      subst h0
      simp only [List.length_cons, List.length_nil, List.flatten_cons, List.flatten_nil, List.append_nil]
      rw [whole_laid _ _ hs, List.length_append, hd_length]
      rfl
    · rename_i h0
      have e1 : n + 1 + ds.length - 1 = n + (d :: ds).length - 1 := by rw [List.length_cons]; omega
      have e2 : (d :: ds).getLastD [] = ds.getLastD [] := by
        obtain ⟨x, xs, rfl⟩ := List.exists_cons_of_ne_nil h0
        rfl
      simp only [List.flatten_cons, List.append_assoc]
      rw [e1, e2]
theorem Img.gather (h : Img fs first cs) (most : Nat) : gatherOf fs most = logOf most first cs := by
  unfold gatherOf logOf
  by_cases hne : cs = []
  · subst hne
    rw [h.firstNo, if_pos rfl, if_pos rfl]
  · rw [h.firstIs hne, if_neg (by have := h.pos; omega), if_neg hne]
    have := run_img cs 1000002 first ⟨most, first, 0, 0, []⟩ (fun i => decide (i = 0)) (by have := h.few; omega) (fun i rs hi => ⟨h.read hi, small_of h.short hi⟩) h.readNo
    rw [this, if_neg hne]
    rfl
/-- A disk that is up, of which no fall is planned, with just these segments. -/
structure Ok (a : A) (first : Nat) (cs : List (List Bs)) : Prop where
  img : Img a.files first cs
  fall : a.fall = none
  down : a.down = false
theorem logOf_ne {most first : Nat} {cs : List (List Bs)} (h : cs ≠ []) : logOf most first cs = ⟨most, first, first + cs.length - 1, 17 + (frs (cs.getLastD [])).length, cs.flatten⟩ := by unfold logOf; rw [if_neg h]
theorem sweep_none {a : A} (h : Img a.files first cs) (most : Nat) (c : Nat) : ∀ ns : List Nat, (∀ n ∈ ns, first ≤ n ∧ n < first + cs.length) → sweepOf (logOf most first cs) ns a c = (a, c, 0)
  | [], _ => rfl
  | n :: ns, hn => by
    obtain ⟨h1, h2⟩ := hn n (List.mem_cons_self ..)
    obtain ⟨i, rfl⟩ : ∃ i, n = first + i := ⟨n - first, by omega⟩
    have hi : i < cs.length := by omega
    have hne : cs ≠ [] := fun e => by rw [e] at hi; simp at hi
    have hr := h.read (List.getElem?_eq_getElem hi)
    have ht : trimOf (logOf most first cs) (first + i) (hd (decide (i = 0)) ++ frs cs[i]).length a = (a, 0, 0) := by
      unfold trimOf
      rw [logOf_ne hne]
      simp only
      rw [if_neg (by omega), if_neg]
      rintro ⟨e1, e2⟩
      have e3 : i = cs.length - 1 := by omega
      have e4 : cs.getLastD [] = cs[i] := by
        rw [List.getLastD_eq_getLast?, List.getLast?_eq_getElem?, ← e3, List.getElem?_eq_getElem hi]
        rfl
      rw [e4, List.length_append, hd_length] at e2
      omega
    rw [sweepOf_go hr (by rw [ht]), ht]
    simp only [Nat.add_zero, ite_self]
    exact sweep_none h most c ns fun m hm => hn m (List.mem_cons_of_mem _ hm)
theorem Ok.openIs {a : A} (h : Ok a first cs) (most : Nat) : openOf a most = (a, some (logOf most first cs), 0, 0) := by
  have hs : sweepOf (logOf most first cs) (nums a.files) a 0 = (a, 0, 0) := sweep_none h.img most 0 _ fun n hn => by
    rw [h.img.nums, List.mem_reverse, List.mem_range'_1] at hn; exact hn
  have hr : a.doRemove newB = (a, 2) := by
    unfold A.doRemove
    rw [h.img.noNew]
    have : ableOf a newB = 0 := by unfold ableOf; rw [h.down]; rfl
    rw [this]
    rfl
  unfold openOf
  rw [h.down, h.img.gather, hs]
  simp only [hr]
  rfl
theorem sg_fallen (first i : Nat) (rs : List Bs) (keep torn : Int) : (sg first i rs).fallen keep torn = sg first i rs ∧ (sg first i rs).there keep torn = true := by
  simp [AF.fallen, AF.there, AF.left, AF.after, AF.settle, sg]
theorem Ok.crash {a : A} (h : Ok a first cs) (keep torn : Int) : { a.crash keep torn with down := false } = a := by
  have hf : (a.files.filter (·.there keep torn)).map (·.fallen keep torn) = a.files := by
    have e1 : a.files.filter (·.there keep torn) = a.files := List.filter_eq_self.2 fun f hf => by
      obtain ⟨i, rs, _, rfl⟩ := (h.img.each f).1 hf
      exact (sg_fallen first i rs keep torn).2
    rw [e1]
    conv => rhs; rw [← List.map_id a.files]
    apply List.map_congr_left
    intro f hf
    obtain ⟨i, rs, _, rfl⟩ := (h.img.each f).1 hf
    exact (sg_fallen first i rs keep torn).1
  unfold A.crash
  rw [h.down, if_neg (by decide), hf]
  have := h.down
  obtain ⟨_, _, _, _, dn⟩ := a
  simp only at this
  subst this
  rfl
/-! ### what is put -/
def st (f : AF) : AF := f.settle f.bytes
theorem rises_st {l : List AF} (h : Rises AF.name l) : Rises AF.name (l.map st) := by
  unfold Rises at h ⊢
  rw [List.pairwise_map]
  exact h
/-- One segment is put, at the end, or in the place of one. -/
theorem Img.put (h : Img fs first cs) (G : AF) (j : Nat) (x : List Bs) (cs' : List (List Bs)) (hG : st G = sg first j x) (_hl : cs'.length ≤ cs.length + 1) (hf : first + cs'.length ≤ 1000)
    (hc : ∀ i rs, cs'[i]? = some rs ↔ (i = j ∧ rs = x) ∨ (i ≠ j ∧ cs[i]? = some rs)) (hs : ∀ r ∈ x, r.length ≤ 1000) (hz : (frs x).length ≤ 2000) : Img ((ins AF.name G fs).map st) first cs' := by
  have hn : G.name = seg (first + j) := by have := congrArg AF.name hG; exact this
  have hj : j < cs'.length := get_lt ((hc j x).2 (.inl ⟨rfl, rfl⟩))
  have hfew := h.few
  refine ⟨rises_st h.rises.ins, fun f => ?_, h.pos, hf, fun rs hrs r hr => ?_, fun rs hrs => ?_⟩
  · rw [List.mem_map]
    constructor
    · rintro ⟨g, hg, rfl⟩
      rcases (mem_ins_iff h.rises).1 hg with rfl | ⟨h1, h2⟩
      · exact ⟨j, x, (hc j x).2 (.inl ⟨rfl, rfl⟩), hG⟩
      · obtain ⟨i, rs, hi, rfl⟩ := (h.each g).1 h1
        refine ⟨i, rs, (hc i rs).2 (.inr ⟨fun e => h2 ?_, hi⟩), rfl⟩
        rw [hn, e]; rfl
    · rintro ⟨i, rs, hi, rfl⟩
      rcases (hc i rs).1 hi with ⟨rfl, rfl⟩ | ⟨h1, h2⟩
      · exact ⟨G, (mem_ins_iff h.rises).2 (.inl rfl), hG⟩
      · refine ⟨sg first i rs, (mem_ins_iff h.rises).2 (.inr ⟨h.mem h2, fun e => h1 ?_⟩), rfl⟩
        rw [hn] at e
        have := seg_inj (by have := get_lt h2; omega) (by omega) e
        omega
  · obtain ⟨i, hi⟩ := List.getElem?_of_mem hrs
    rcases (hc i rs).1 hi with ⟨_, rfl⟩ | ⟨_, h2⟩
    · exact hs r hr
    · exact h.short rs (List.mem_of_getElem? h2) r hr
  · obtain ⟨i, hi⟩ := List.getElem?_of_mem hrs
    rcases (hc i rs).1 hi with ⟨_, rfl⟩ | ⟨_, h2⟩
    · exact hz
    · exact h.size rs (List.mem_of_getElem? h2)
theorem Img.refirst (h : Img fs first []) : Img fs 1 [] := ⟨h.rises, fun f => by rw [h.each]; simp, Nat.le_refl _, by decide, by simp, by simp⟩
/-- What stands there when records were added. -/
def addS (most first : Nat) (cs : List (List Bs)) (x : List Bs) : Nat × List (List Bs) :=
  if cs = [] then (1, [x]) else if most ≤ 17 + (frs (cs.getLastD [])).length then (first, cs ++ [x]) else (first, cs.dropLast ++ [cs.getLastD [] ++ x])
theorem addS_flat (most first : Nat) (cs : List (List Bs)) (x : List Bs) : (addS most first cs x).2.flatten = cs.flatten ++ x := by
  unfold addS
  split
  · rename_i h; subst h; simp
  · rename_i h
    split
    · simp
    · obtain ⟨ys, y, rfl⟩ : ∃ ys y, cs = ys ++ [y] := ⟨cs.dropLast, cs.getLast h, (List.dropLast_concat_getLast h).symm⟩
      simp
theorem addS_ne (most first : Nat) (cs : List (List Bs)) (x : List Bs) : (addS most first cs x).2 ≠ [] := by
  unfold addS
  split
  · simp
  · split <;> simp
theorem frs_len (x : List Bs) (h : ∀ r ∈ x, r.length ≤ 200) : (frs x).length ≤ 217 * x.length := by
  induction x with
  | nil => exact Nat.le_refl _
  | cons r x ih =>
    have h1 := h r (List.mem_cons_self ..)
    have h2 := ih fun y hy => h y (List.mem_cons_of_mem _ hy)
    show (fr (114 :: r) ++ frs x).length ≤ _
    rw [List.length_append, fr_length, List.length_cons, List.length_cons]
    omega
theorem place_logOf {most first : Nat} {cs : List (List Bs)} (hp : 1 ≤ first) : placeOf (logOf most first cs) = if cs = [] then (1, 0, hd true) else if most ≤ 17 + (frs (cs.getLastD [])).length then (first + cs.length, 0, hd false) else (first + cs.length - 1, 17 + (frs (cs.getLastD [])).length, []) := by
  unfold placeOf
  by_cases h : cs = []
  · subst h
    rw [if_pos (by rfl), if_pos rfl]
  · have hl : 0 < cs.length := List.length_pos_iff.2 h
    rw [logOf_ne h, if_neg h]
    simp only
    rw [if_neg (by omega), show first + cs.length - 1 + 1 = first + cs.length by omega]
theorem snoc_get {α : Type} (l : List α) (y : α) (i : Nat) (z : α) : (l ++ [y])[i]? = some z ↔ (i = l.length ∧ z = y) ∨ (i ≠ l.length ∧ l[i]? = some z) := by
  by_cases h : i < l.length
  · rw [List.getElem?_append_left h]
    constructor
    · intro hz; exact .inr ⟨by omega, hz⟩
    · rintro (⟨e, _⟩ | ⟨_, hz⟩)
      · omega
      · exact hz
  · rw [List.getElem?_append_right (by omega)]
    by_cases e : i = l.length
    · subst e
      rw [Nat.sub_self]
      constructor
      · intro hz; cases hz; exact .inl ⟨rfl, rfl⟩
      · rintro (⟨_, hz⟩ | ⟨h1, _⟩)
        · rw [hz]; rfl
        · exact absurd rfl h1
    · rw [List.getElem?_eq_none (by simp; omega)]
      constructor
      · intro hz; cases hz
      · rintro (⟨h1, _⟩ | ⟨_, hz⟩)
        · exact absurd h1 e
        · rw [List.getElem?_eq_none (by omega)] at hz; cases hz
theorem doPut_is {a : A} {name : Bs} {p : Pt} (hd : a.down = false) (hf : a.fall = none) (hn : nameOk name = true) : a.doPut name p = if holdsOf a (((if p.whole = true then 0 else (a.fileOf name).bytes.length : Nat) : Int) + (p.s.length : Int) - ((a.fileOf name).bytes.length : Int)) = false then (a, 61) else (a.puts (a.fileOf name) p, 0) := by
  have h1 : ableOf a name = 0 := by unfold ableOf; rw [hd, hn]; rfl
  have h2 : a.hit = none := by unfold A.hit; rw [hf]
  unfold A.doPut
  rw [h1, if_neg (by decide)]
  unfold A.change
  rw [h2]
theorem sync_is {a : A} (hd : a.down = false) : a.doSync = (a.synced, 0) := by unfold A.doSync; rw [hd, if_neg (by decide)]
/-- Add, where there is room: as it should; else nothing is changed. -/
theorem Ok.add {a : A} (h : Ok a first cs) (most : Nat) (x : List Bs) (hm : most ≤ 256) (hx : ∀ r ∈ x, r.length ≤ 200) (hxl : x.length ≤ 6) (hfew : first + cs.length ≤ 900) :
    (addOf (logOf most first cs) a x = (a, logOf most first cs, 61) ∧ 0 ≤ a.room) ∨
    ∃ a', addOf (logOf most first cs) a x = (a', logOf most (addS most first cs x).1 (addS most first cs x).2, 0) ∧ Ok a' (addS most first cs x).1 (addS most first cs x).2 ∧ a'.room = a.room ∧ (addS most first cs x).1 + (addS most first cs x).2.length ≤ first + cs.length + 1 := by
  have hz := frs_len x hx
  have hx2 : ∀ r ∈ x, r.length ≤ 1000 := fun r hr => by have := hx r hr; omega
  have hpl := place_logOf (most := most) (cs := cs) h.img.pos
  have hpos := h.img.pos
  have hn1 : (placeOf (logOf most first cs)).1 < 9223372036854775808 := by
    rw [hpl]
    split
    · simp
    · split
      · show first + cs.length < _; omega
      · show first + cs.length - 1 < _; omega
  have hput := doPut_is (p := ⟨(placeOf (logOf most first cs)).2.2 ++ frs x, false⟩) h.down h.fall (seg_ok _ hn1)
  generalize hho : holdsOf a _ = ho at hput
  cases ho with
  | false =>
    rw [if_pos rfl] at hput
    refine .inl ⟨?_, ?_⟩
    · unfold addOf
      rw [h.down, hput, if_neg (by decide), if_pos (by simp)]
    · unfold holdsOf at hho
      rcases Int.lt_or_le a.room 0 with h0 | h0
      · rw [decide_eq_false (by omega : ¬ (0 : Int) ≤ a.room)] at hho
        simp at hho
      · exact h0
  | true =>
    rw [if_neg (by decide)] at hput
    refine .inr ⟨((a.puts (a.fileOf (seg (placeOf (logOf most first cs)).1)) ⟨(placeOf (logOf most first cs)).2.2 ++ frs x, false⟩)).synced, ?_, ⟨?_, h.fall, h.down⟩, rfl, ?_⟩
    · unfold addOf
      rw [h.down, hput, if_neg (by decide), if_neg (by simp), sync_is (by exact h.down), if_neg (by simp)]
      refine Prod.ext rfl (Prod.ext ?_ rfl)
      simp only
      rw [hpl]
      unfold addS
      by_cases hc : cs = []
      · subst hc
        rw [if_pos rfl, if_pos rfl, show logOf most first [] = ⟨most, 0, 0, 0, []⟩ from rfl, logOf_ne (cs := [x]) (by simp)]
        simp [hd_length]
      · rw [if_neg hc, if_neg hc]
        have hl : 0 < cs.length := List.length_pos_iff.2 hc
        by_cases hb : most ≤ 17 + (frs (cs.getLastD [])).length
        · rw [if_pos hb, if_pos hb, logOf_ne hc, logOf_ne (cs := cs ++ [x]) (by simp)]
          simp [hd_length]
          omega
        · rw [if_neg hb, if_neg hb, logOf_ne hc, logOf_ne (cs := cs.dropLast ++ [cs.getLastD [] ++ x]) (by simp)]
          obtain ⟨ys, y, rfl⟩ : ∃ ys y, cs = ys ++ [y] := ⟨cs.dropLast, cs.getLast hc, (List.dropLast_concat_getLast hc).symm⟩
          simp [frs_append]
          omega
    · show Img ((ins AF.name ((a.fileOf (seg (placeOf (logOf most first cs)).1)).put ⟨(placeOf (logOf most first cs)).2.2 ++ frs x, false⟩) a.files).map st) _ _
      rw [hpl]
      unfold addS
      by_cases hc : cs = []
      · subst hc
        rw [if_pos rfl, if_pos rfl]
        simp only
        have hi := h.img.refirst
        have hf : a.fileOf (seg 1) = ⟨seg 1, [], false, []⟩ := by unfold A.fileOf; rw [hi.noNext 1 (by simp) (by omega)]; rfl
        rw [hf]
        exact hi.put _ 0 x [x] rfl (by simp) (by simp) (fun i rs => snoc_get [] x i rs) hx2 (by omega)
      · rw [if_neg hc, if_neg hc]
        have hl : 0 < cs.length := List.length_pos_iff.2 hc
        by_cases hb : most ≤ 17 + (frs (cs.getLastD [])).length
        · rw [if_pos hb, if_pos hb]
          simp only
          have hf : a.fileOf (seg (first + cs.length)) = ⟨seg (first + cs.length), [], false, []⟩ := by unfold A.fileOf; rw [h.img.noNext _ (Nat.le_refl _) (by omega)]; rfl
          rw [hf]
          refine h.img.put _ cs.length x (cs ++ [x]) ?_ (by simp) (by simp; omega) (fun i rs => snoc_get cs x i rs) hx2 (by omega)
          have e : decide (cs.length = 0) = false := decide_eq_false (by omega)
          unfold sg
          rw [e]
          rfl
        · rw [if_neg hb, if_neg hb]
          obtain ⟨ys, y, rfl⟩ : ∃ ys y, cs = ys ++ [y] := ⟨cs.dropLast, cs.getLast hc, (List.dropLast_concat_getLast hc).symm⟩
          have hlast : (ys ++ [y]).getLastD [] = y := by simp
          rw [hlast] at hb ⊢
          have hy : (ys ++ [y])[ys.length]? = some y := by simp
          have en : first + (ys ++ [y]).length - 1 = first + ys.length := by simp
          simp only [en, List.dropLast_concat]
          have hf : a.fileOf (seg (first + ys.length)) = sg first ys.length y := by unfold A.fileOf; rw [h.img.found hy]; rfl
          rw [hf]
          have hys := h.img.short y (List.mem_of_getElem? hy)
          refine h.img.put _ ys.length (y ++ x) (ys ++ [y ++ x]) ?_ (by simp) (by simp at hfew ⊢; omega) (fun i rs => ?_) (fun r hr => ?_) (by rw [frs_append, List.length_append]; omega)
          · show (⟨seg (first + ys.length), (hd (decide (ys.length = 0)) ++ frs y) ++ ([] ++ frs x), true, []⟩ : AF) = ⟨seg (first + ys.length), hd (decide (ys.length = 0)) ++ frs (y ++ x), true, []⟩
            rw [List.nil_append, frs_append, List.append_assoc]
          · rw [snoc_get, snoc_get]
            constructor
            · rintro (h1 | ⟨h1, h2⟩)
              · exact .inl h1
              · exact .inr ⟨h1, .inr ⟨h1, h2⟩⟩
            · rintro (h1 | ⟨h1, ⟨h2, _⟩ | ⟨_, h3⟩⟩)
              · exact .inl h1
              · exact absurd h2 h1
              · exact .inr ⟨h1, h3⟩
          · rcases List.mem_append.1 hr with h1 | h1
            · exact hys r h1
            · exact hx2 r h1
    · unfold addS
      split
      · rename_i hc; subst hc; simp; omega
      · split
        · simp; omega
        · rename_i hc _
          have hl : 0 < cs.length := List.length_pos_iff.2 hc
          simp; omega
/-! ### what is laid anew -/
/-- The number behind the last one. -/
def nextN (first : Nat) (cs : List (List Bs)) : Nat := if cs = [] then 1 else first + cs.length
/-- The first j segments, and the new one. -/
structure Mid (fs : List AF) (first : Nat) (cs : List (List Bs)) (j n : Nat) (x : List Bs) : Prop where
  rises : Rises AF.name fs
  each : ∀ f, f ∈ fs ↔ f = sg n 0 x ∨ ∃ i rs, i < j ∧ cs[i]? = some rs ∧ f = sg first i rs
theorem Mid.names {j n : Nat} {x : List Bs} (h : Mid fs first cs j n x) {f : AF} (hf : f ∈ fs) : f.name = seg n ∨ ∃ i, i < j ∧ i < cs.length ∧ f.name = seg (first + i) := by
  rcases (h.each f).1 hf with rfl | ⟨i, rs, h1, h2, rfl⟩
  · exact .inl rfl
  · exact .inr ⟨i, h1, get_lt h2, rfl⟩
theorem perm_nums {fs : List AF} {first n : Nat} (h1 : 1 ≤ first) (hn : first + n ≤ 1000) (h : (fs.map AF.name).Perm ((List.range' first n).map seg)) : nums fs = (List.range' first n).reverse := by
  have hp : (numsOf (fs.map AF.name)).Perm (List.range' first n) := by
    have h2 : (numsOf (fs.map AF.name)).Perm (numsOf ((List.range' first n).map seg)) := (h.map numOf).filter _
    rw [numsOf_segs _ _ h1 hn] at h2
    exact h2
  unfold nums ups
  congr 1
  have s1 := List.pairwise_mergeSort (le := fun x y : Nat => decide (x ≤ y)) (fun a b c h1 h2 => by simp only [decide_eq_true_eq] at *; omega) (fun a b => by simp only [Bool.or_eq_true, decide_eq_true_eq]; omega) (numsOf (fs.map AF.name))
  refine List.Perm.eq_of_pairwise (le := fun x y => decide (x ≤ y) = true) (fun a b _ _ h1 h2 => by simp only [decide_eq_true_eq] at *; omega) s1 ?_ ((List.mergeSort_perm _ _).trans hp)
  exact List.Pairwise.imp (fun {a b} hab => by simp only [decide_eq_true_eq]; omega) (List.pairwise_lt_range' (s := first) (n := n))
theorem rises_names {fs : List AF} (h : Rises AF.name fs) : (fs.map AF.name).Nodup := by
  unfold List.Nodup
  rw [List.pairwise_map]
  exact List.Pairwise.imp (fun {a b} hab e => before_ne hab e) h
theorem Mid.nums {x : List Bs} (h : Mid fs first cs cs.length (first + cs.length) x) (h1 : 1 ≤ first) (hn : first + cs.length + 1 ≤ 1000) : nums fs = (List.range' first (cs.length + 1)).reverse := by
  refine perm_nums h1 (by omega) ((List.perm_ext_iff_of_nodup (rises_names h.rises) (segs_nodup _ _ (by omega))).2 fun k => ?_)
  rw [List.mem_map, List.mem_map]
  constructor
  · rintro ⟨f, hf, rfl⟩
    rcases h.names hf with e | ⟨i, _, hi, e⟩
    · exact ⟨first + cs.length, by rw [List.mem_range'_1]; omega, e.symm⟩
    · exact ⟨first + i, by rw [List.mem_range'_1]; omega, e.symm⟩
  · rintro ⟨m, hm, rfl⟩
    rw [List.mem_range'_1] at hm
    by_cases e : m = first + cs.length
    · subst e
      exact ⟨sg (first + cs.length) 0 x, (h.each _).2 (.inl rfl), rfl⟩
    · have hi : m - first < cs.length := by omega
      exact ⟨sg first (m - first) cs[m - first], (h.each _).2 (.inr ⟨_, _, hi, List.getElem?_eq_getElem hi, rfl⟩), by rw [sg_name, show first + (m - first) = m by omega]⟩
theorem Mid.done {x : List Bs} {n : Nat} (h : Mid fs first cs 0 n x) (h1 : 1 ≤ n) (h2 : n + 1 ≤ 1000) (hs : ∀ r ∈ x, r.length ≤ 1000) (hz : (frs x).length ≤ 2000) : Img fs n [x] := by
  refine ⟨h.rises, fun f => ?_, h1, by simpa using h2, by simpa using hs, by simpa using hz⟩
  rw [h.each]
  constructor
  · rintro (rfl | ⟨i, _, hi, _⟩)
    · exact ⟨0, x, rfl, rfl⟩
    · exact absurd hi (Nat.not_lt_zero _)
  · rintro ⟨i, rs, hi, rfl⟩
    cases i with
    | zero => cases hi; exact .inl rfl
    | succ i => simp at hi
/-- The others go, the last one first. -/
theorem Mid.sweep {x : List Bs} {n : Nat} (l : Lg) (hl : l.first = n) (hn : n < 1000) (hf : first + cs.length ≤ n) : ∀ (j : Nat) (a : A) (c : Nat), Mid a.files first cs j n x → j ≤ cs.length → a.fall = none → a.down = false →
    ∃ a', sweepOf l (List.range' first j).reverse a c = (a', c, 0) ∧ Mid a'.files first cs 0 n x ∧ a'.fall = none ∧ a'.down = false ∧ a'.room = a.room
  | 0, a, c, h, _, h1, h2 => ⟨a, rfl, h, h1, h2, rfl⟩
  | j + 1, a, c, h, hj, h1, h2 => by
    have hjl : j < cs.length := by omega
    have hm : sg first j cs[j] ∈ a.files := (h.each _).2 (.inr ⟨j, _, by omega, List.getElem?_eq_getElem hjl, rfl⟩)
    have hsk : seek AF.name (seg (first + j)) a.files = some (sg first j cs[j]) := seek_mem h.rises hm
    have hr : readN a.files (first + j) = some (sg first j cs[j]).bytes := by unfold readN; rw [hsk]; rfl
    have hrm : a.doRemove (seg (first + j)) = (a.left (del AF.name (seg (first + j)) a.files), 0) := by
      unfold A.doRemove
      have h3 : ableOf a (seg (first + j)) = 0 := by unfold ableOf; rw [h2, seg_ok _ (by omega)]; rfl
      have h4 : a.hit = none := by unfold A.hit; rw [h1]
      rw [h3, if_neg (by decide), hsk]
      simp only
      unfold A.change
      rw [h4]
    have ht : trimOf l (first + j) (sg first j cs[j]).bytes.length a = (a.left (del AF.name (seg (first + j)) a.files), (sg first j cs[j]).bytes.length, 0) := by
      unfold trimOf
      rw [if_pos (.inl (by omega)), hrm]
    have hM : Mid (a.left (del AF.name (seg (first + j)) a.files)).files first cs j n x := by
      refine ⟨h.rises.del, fun f => ?_⟩
      show f ∈ del AF.name (seg (first + j)) a.files ↔ _
      rw [mem_del, h.each]
      constructor
      · rintro ⟨rfl | ⟨i, rs, h3, h4, rfl⟩, h5⟩
        · exact .inl rfl
        · refine .inr ⟨i, rs, ?_, h4, rfl⟩
          have : i ≠ j := fun e => h5 (by rw [e]; rfl)
          omega
      · rintro (rfl | ⟨i, rs, h3, h4, rfl⟩)
        · exact ⟨.inl rfl, fun e => by
            have := seg_inj (by omega) (by omega) e
            omega⟩
        · exact ⟨.inr ⟨i, rs, by omega, h4, rfl⟩, fun e => by
            have := seg_inj (by have := get_lt h4; omega) (by omega) e
            omega⟩
    rw [List.range'_1_concat, List.reverse_append]
    show ∃ a', sweepOf l ((first + j) :: (List.range' first j).reverse) a c = _ ∧ _
    rw [sweepOf_go hr (by rw [ht]), ht]
    simp only
    rw [if_neg (by omega)]
    exact Mid.sweep l hl hn hf j _ c hM (by omega) h1 h2
theorem logOf_last (most first : Nat) (cs : List (List Bs)) (h : cs = [] → first = 1) (hp : 1 ≤ first) : (logOf most first cs).last + 1 = first + cs.length := by
  by_cases hc : cs = []
  · have := h hc
    subst hc this
    rfl
  · rw [logOf_ne hc]
    have hl : 0 < cs.length := List.length_pos_iff.2 hc
    simp only
    omega
theorem logOf_one (most n : Nat) (x : List Bs) : logOf most n [x] = ⟨most, n, n, (hd true ++ frs x).length, x⟩ := by
  rw [logOf_ne (by simp), List.length_append, hd_length]
  simp
theorem Ok.lay {a : A} (h : Ok a first cs) (x : List Bs) (hr : ¬ 0 ≤ a.room) (hfew : first + cs.length ≤ 900) :
    ∃ a', layOf a (first + cs.length) (hd true ++ frs x) = (a', 0) ∧ Mid a'.files first cs cs.length (first + cs.length) x ∧ a'.fall = none ∧ a'.down = false ∧ a'.room = a.room := by
  have hput := doPut_is (p := ⟨hd true ++ frs x, true⟩) h.down h.fall new_ok
  have hho : ∀ m, holdsOf a m = true := fun m => by unfold holdsOf; rw [decide_eq_false hr]; rfl
  rw [hho, if_neg (by decide)] at hput
  have hf : a.fileOf newB = ⟨newB, [], false, []⟩ := by unfold A.fileOf; rw [h.img.noNew]; rfl
  rw [hf] at hput
  obtain ⟨a2, ha2⟩ : ∃ a2, a2 = (a.puts ⟨newB, [], false, []⟩ ⟨hd true ++ frs x, true⟩).synced := ⟨_, rfl⟩
  have h2f : a2.files = (ins AF.name ((⟨newB, [], false, []⟩ : AF).put ⟨hd true ++ frs x, true⟩) a.files).map st := by rw [ha2]; rfl
  have hrs2 : Rises AF.name a2.files := by rw [h2f]; exact rises_st h.img.rises.ins
  have hmem : ∀ f, f ∈ a2.files ↔ f = ⟨newB, hd true ++ frs x, true, []⟩ ∨ f ∈ a.files := fun f => by
    rw [h2f, List.mem_map]
    constructor
    · rintro ⟨g, hg, rfl⟩
      rcases (mem_ins_iff h.img.rises).1 hg with rfl | ⟨h1, _⟩
      · exact .inl rfl
      · obtain ⟨i, rs, hi, rfl⟩ := (h.img.each g).1 h1
        exact .inr h1
    · rintro (rfl | h1)
      · exact ⟨_, (mem_ins_iff h.img.rises).2 (.inl rfl), rfl⟩
      · obtain ⟨i, rs, hi, rfl⟩ := (h.img.each f).1 h1
        exact ⟨_, (mem_ins_iff h.img.rises).2 (.inr ⟨h1, fun e => seg_new _ e⟩), rfl⟩
  have hsk : seek AF.name newB a2.files = some ⟨newB, hd true ++ frs x, true, []⟩ := seek_mem (x := (⟨newB, hd true ++ frs x, true, []⟩ : AF)) hrs2 ((hmem _).2 (.inl rfl))
  have h2d : a2.down = false := by rw [ha2]; exact h.down
  have h2l : a2.fall = none := by rw [ha2]; exact h.fall
  have h2r : a2.room = a.room := by rw [ha2]; rfl
  refine ⟨a2.left (ins AF.name (named (seg (first + cs.length)) (hd true ++ frs x)) (del AF.name newB a2.files)), ?_, ⟨hrs2.del.ins, fun f => ?_⟩, h2l, h2d, h2r⟩
  · unfold layOf
    rw [hput, if_neg (by simp), sync_is (by exact h.down), if_neg (by simp)]
    show (a.puts ⟨newB, [], false, []⟩ ⟨hd true ++ frs x, true⟩).synced.doMove newB _ = _
    rw [← ha2]
    unfold A.doMove
    have h3 : ableOf a2 newB = 0 := by unfold ableOf; rw [h2d, new_ok]; rfl
    have h4 : a2.hit = none := by unfold A.hit; rw [h2l]
    rw [h3, if_neg (by decide), hsk]
    simp only
    rw [seg_ok _ (by omega), if_neg (by decide), if_neg (fun e => seg_new _ e.symm)]
    unfold A.change
    rw [h4]
    rfl
  · show f ∈ ins AF.name _ _ ↔ _
    rw [mem_ins_iff hrs2.del, mem_del, hmem]
    constructor
    · rintro (rfl | ⟨⟨rfl | h1, h5⟩, h6⟩)
      · exact .inl rfl
      · exact absurd rfl h5
      · obtain ⟨i, rs, hi, rfl⟩ := (h.img.each f).1 h1
        exact .inr ⟨i, rs, get_lt hi, hi, rfl⟩
    · rintro (rfl | ⟨i, rs, h3, h4, rfl⟩)
      · exact .inl rfl
      · refine .inr ⟨⟨.inr (h.img.mem h4), fun e => seg_new _ e⟩, fun e => ?_⟩
        have := seg_inj (by omega) (by omega) e
        omega
theorem Mid.count {x : List Bs} (h : Mid fs first cs cs.length (first + cs.length) x) (hn : first + cs.length + 1 ≤ 1000) : fs.length = cs.length + 1 := by
  have hp : (fs.map AF.name).Perm ((List.range' first (cs.length + 1)).map seg) := by
    refine (List.perm_ext_iff_of_nodup (rises_names h.rises) (segs_nodup _ _ (by omega))).2 fun k => ?_
    rw [List.mem_map, List.mem_map]
    constructor
    · rintro ⟨f, hf, rfl⟩
      rcases h.names hf with e | ⟨i, _, hi, e⟩
      · exact ⟨first + cs.length, by rw [List.mem_range'_1]; omega, e.symm⟩
      · exact ⟨first + i, by rw [List.mem_range'_1]; omega, e.symm⟩
    · rintro ⟨m, hm, rfl⟩
      rw [List.mem_range'_1] at hm
      by_cases e : m = first + cs.length
      · subst e
        exact ⟨sg (first + cs.length) 0 x, (h.each _).2 (.inl rfl), rfl⟩
      · have hi : m - first < cs.length := by omega
        exact ⟨sg first (m - first) cs[m - first], (h.each _).2 (.inr ⟨_, _, hi, List.getElem?_eq_getElem hi, rfl⟩), by rw [sg_name, show first + (m - first) = m by omega]⟩
  have := hp.length_eq
  simpa using this
theorem Img.sm (h : Img fs first cs) : Sm fs := fun f hf => by
  obtain ⟨i, rs, hi, rfl⟩ := (h.each f).1 hf
  have := h.size rs (List.mem_of_getElem? hi)
  rw [sg_bytes, List.length_append, hd_length]
  omega
theorem Img.fews (h : Img fs first cs) : Few fs := fun f hf => by
  obtain ⟨i, rs, hi, rfl⟩ := (h.each f).1 hf
  have h1 := get_lt hi
  have h2 := h.few
  have h3 := h.pos
  rw [sg_name, numOf_seg _ (by omega) (by omega)]
  omega
theorem Mid.sm {x : List Bs} {n j : Nat} (h : Mid fs first cs j n x) (hs : ∀ rs ∈ cs, (frs rs).length ≤ 2000) (hz : (frs x).length ≤ 2000) : Sm fs := fun f hf => by
  rcases (h.each f).1 hf with rfl | ⟨i, rs, _, hi, rfl⟩
  · rw [sg_bytes, List.length_append, hd_length]; omega
  · have := hs rs (List.mem_of_getElem? hi)
    rw [sg_bytes, List.length_append, hd_length]; omega
/-- Reset, where there is any room. -/
theorem Ok.reset {a : A} (h : Ok a first cs) (most : Nat) (x : List Bs) (hr : ¬ 0 ≤ a.room) (hx : ∀ r ∈ x, r.length ≤ 200) (hxl : x.length ≤ 6) (hfew : first + cs.length ≤ 900) (hfirst : cs = [] → first = 1) :
    ∃ a', resetOf (logOf most first cs) a x = (a', logOf most (first + cs.length) [x], 0) ∧ Ok a' (first + cs.length) [x] ∧ a'.room = a.room := by
  have hz := frs_len x hx
  have hpos := h.img.pos
  obtain ⟨a3, hlay, hM, h3f, h3d, h3r⟩ := h.lay x hr hfew
  have hl1 := logOf_last most first cs hfirst hpos
  obtain ⟨a', hsw, hM0, h4f, h4d, h4r⟩ := Mid.sweep (logOf most (first + cs.length) [x]) (by rw [logOf_one]) (by omega) (Nat.le_refl _) cs.length a3 0 hM (Nat.le_refl _) h3f h3d
  have hm : sg (first + cs.length) 0 x ∈ a3.files := (hM.each _).2 (.inl rfl)
  have hrd : readN a3.files (first + cs.length) = some (hd true ++ frs x) := by
    unfold readN
    have := seek_mem hM.rises hm
    rw [sg_name, Nat.add_zero] at this
    rw [this]
    rfl
  have ht : trimOf (logOf most (first + cs.length) [x]) (first + cs.length) (hd true ++ frs x).length a3 = (a3, 0, 0) := by
    unfold trimOf
    rw [logOf_one]
    simp only
    rw [if_neg (by omega), if_neg (by omega)]
  have hs : sweepOf (logOf most (first + cs.length) [x]) (Wal.nums a3.files) a3 0 = (a', 0, 0) := by
    rw [hM.nums hpos (by omega), List.range'_1_concat, List.reverse_append]
    show sweepOf _ ((first + cs.length) :: (List.range' first cs.length).reverse) a3 0 = _
    rw [sweepOf_go hrd (by rw [ht]), ht]
    simp only [Nat.add_zero, ite_self]
    exact hsw
  refine ⟨a', ?_, ⟨hM0.done (by omega) (by omega) (fun r hr' => by have := hx r hr'; omega) (by omega), h4f, h4d⟩, by rw [h4r, h3r]⟩
  unfold resetOf
  rw [h.down, hl1, hlay, if_neg (by decide), if_neg (by simp)]
  simp only
  have e1 : (logOf most first cs).most = most := by unfold logOf; split <;> rfl
  rw [e1, ← logOf_one, hs]
end Go.Wal
/- Contract: the same texts? -/
namespace Go.Wal
open Go.RowKit Go.Dk
theorem under_drewN (w : World) (n : Nat) : Below w.heap.size w (w.drewN n) := ⟨rfl, rfl, rfl, Nat.le_refl _, fun _ _ => rfl⟩
theorem texts_form {w : World} {v : Value} {ls : List Bs} (h : Texts w v ls) : ∃ a c, v = .slice a ls.length c ∧ ls.length ≤ c := by
  obtain ⟨a, c, h1, h2, _⟩ := h; exact ⟨a, c, h1, h2⟩
theorem texts_at {w : World} {a : Option Addr} {n c : Nat} {ls : List Bs} (h : Texts w (.slice a n c) ls) {j : Nat} {l : Bs} (hj : ls[j]? = some l) : ∃ b off, a = some ⟨b, off, none⟩ ∧ ls.length ≤ c ∧ w.cell? ⟨b, off + j, none⟩ = some (.string ⟨l.toArray⟩) := by
  obtain ⟨a', c', h1, h2, h3⟩ := h
  cases h1
  obtain ⟨b, off, h4, h5⟩ := h3 j l hj
  exact ⟨b, off, h4, h2, h5⟩
theorem bytes_ne {l m : Bs} (h : l ≠ m) : ((⟨l.toArray⟩ : ByteArray).toList == (⟨m.toArray⟩ : ByteArray).toList) = false := by
  rw [ByteArray.toList_eq, ByteArray.toList_eq, beq_eq_false_iff_ne]
  exact h
theorem take_next_eq {α : Type} {a b : List α} {i : Nat} {x y : α} (h : a.take i = b.take i) (hx : a[i]? = some x) (hy : b[i]? = some y) (e : x = y) : a.take (i + 1) = b.take (i + 1) := by
  rw [List.take_add_one, List.take_add_one, h, hx, hy, e]
end Go.Wal
namespace Go.Proofs.YtoineobjmllicaaGreatDoor
open Go.RowKit Go.Dk Go.Wal
set_option maxRecDepth 100000 in
set_option maxHeartbeats 1000000 in
theorem same_any (va vb : Value) (la lb : List Bs) (w : World) (ha : Texts w va la) (hb : Texts w vb lb) (hla : la.length ≤ 1000000) :
    Calls Tryz.prog 19 #[va, vb] w fun e w' => e = .returned (.bool (decide (la = lb))) ∧ Below w.heap.size w w' := by
  obtain ⟨aa, ca, rfl, hca⟩ := texts_form ha
  obtain ⟨ab, cb, rfl, hcb⟩ := texts_form hb
  have HA := hide ha
  have HB := hide hb
  clear ha hb
  by_cases hlen : la.length = lb.length
  · have hlen' : (la.length : Int) = lb.length := by omega
    go_enter Tryz.func19, Tryz.ntmps19
    go_wp2
    go_loopw [5] (fun vi wr => ∃ i : Nat, i ≤ la.length ∧ vi = .int .i64 i ∧ Hid (la.take i = lb.take i) ∧ Hid (Below w.heap.size w wr)) (fun vi _ => la.length - (intOf vi).toNat)
    case atStart => exact ⟨0, Nat.zero_le _, rfl, rfl, Below.refl _ _⟩
    case round =>
      obtain ⟨i, hi, rfl, HT, HW⟩ := hrel
      by_cases hlt : i < la.length
      · have hlt2 : i < lb.length := by omega
        have hlt' : (i : Int) < la.length := by omega
        have e1 := List.getElem?_eq_getElem hlt
        have e2 := List.getElem?_eq_getElem hlt2
        generalize la[i] = x at *
        generalize lb[i] = y at *
        obtain ⟨b1, o1, rfl, hc1, q1⟩ := texts_at (HA.out.below HW.out) e1
        obtain ⟨b2, o2, rfl, hc2, q2⟩ := texts_at (HB.out.below HW.out) e2
        by_cases hxy : x = y
        · have HN := hide (take_next_eq HT.out e1 e2 hxy)
          subst hxy
          clear e1 e2
          generalize (⟨x.toArray⟩ : ByteArray) = X at *
          go_wp2_with fail
          go_quiet (fail)
          go_wp2
          go_roundw
          case rel => exact ⟨i + 1, by omega, by go_num, HN.out, HW.out.trans ((under_drewN wr nq).mono HW.out.size)⟩
          case measure => simp [intOf]; omega
        · have HE : Hid (la ≠ lb) := fun e => hxy (by rw [e, e2] at e1; cases e1; rfl)
          have hne := bytes_ne hxy
          clear e1 e2
          generalize (⟨x.toArray⟩ : ByteArray) = X at *
          generalize (⟨y.toArray⟩ : ByteArray) = Y at *
          go_wp2_with fail
          go_quiet (fail)
          go_wp2
          go_ret
          rw [decide_eq_false HE.out]
          exact ⟨rfl, HW.out.trans ((under_drewN wr nq).mono HW.out.size)⟩
      · have hie : i = la.length := by omega
        have HE : Hid (la = lb) := by
          have := HT.out
          rw [hie, List.take_length] at this
          rw [List.take_of_length_le (by omega)] at this
          exact this
        have hlt' : ¬ ((i : Int) < la.length) := by omega
        clear HT
        go_wp2
        go_ret
        rw [decide_eq_true HE.out]
        exact ⟨rfl, HW.out⟩
  · have HE : Hid (la ≠ lb) := fun e => hlen (by rw [e])
    have hlen' : ¬ ((la.length : Int) = lb.length) := by omega
    have hlen2 : ((la.length : Int) != lb.length) = true := bne_iff_ne.2 hlen'
    go_enter Tryz.func19, Tryz.ntmps19
    go_wp2
    go_ret
    rw [decide_eq_false HE.out]
    exact ⟨rfl, Below.refl _ _⟩
end Go.Proofs.YtoineobjmllicaaGreatDoor
/- Contract: a row of at most six texts of at most 200 bytes, laid anew. -/
namespace Go.Proofs.YtoineobjmllicaaGreatDoor
open Go.RowKit Go.Dk Go.Wal
set_option maxRecDepth 100000 in
set_option maxHeartbeats 1000000 in
theorem cut7s_any (v : Value) (ls : List Bs) (w : World) (h : Texts w v ls) (hs : ∀ l ∈ ls, l.length ≤ maxLen) (hn : ls.length ≤ maxLen) :
    Calls Tryz.prog 12 #[v] w fun e w' => ∃ g c, e = .returned (.slice (some ⟨g, 0, none⟩) (cut7 ls).length c) ∧ w'.ownsRow w.heap.size 9 1 (.slice (some ⟨g, 0, none⟩) (cut7 ls).length c) (cut7 ls).length (tv (cut7 ls)) ∧ Below w.heap.size w w' := by
  obtain ⟨i9, hi9, hz0, hz1, hz2⟩ := info_parts info_str
  obtain ⟨a, c, rfl, hc, hcells⟩ := h
  have HC := hide hcells
  have HS := hide hs
  unfold maxLen at hn
  clear hs hcells
  go_enter Tryz.func12, Tryz.ntmps12
  go_wp2_with fail
  go_loopw [3, 4] (fun vo vi wr => ∃ i rg rc : Nat, i ≤ ls.length ∧ i ≤ 6 ∧ vi = .int .i64 i ∧ vo = .slice (some ⟨rg, 0, none⟩) i rc ∧ Hid (wr.ownsRow w.heap.size 9 1 (.slice (some ⟨rg, 0, none⟩) i rc) i (tv ((ls.take i).map few7)) ∧ Below w.heap.size w wr)) (fun _ vi _ => 6 - (intOf vi).toNat)
  case atStart =>
    exact ⟨0, w.heap.size, 0, Nat.zero_le _, Nat.zero_le _, rfl, rfl, ⟨rfl, .inr ⟨w.heap.size, 0, #[], rfl, Nat.le_refl _, heap_alloc_new _ _, Nat.le_refl _, Nat.zero_le _, rfl, rfl⟩⟩, (Below.refl _ _).alloc (Nat.le_refl _) _⟩
  case round =>
    obtain ⟨i, rg, rc, hi, hi6, rfl, rfl, HH⟩ := hrel
    by_cases hlt : i < ls.length ∧ i < 6
    · obtain ⟨hl1, hl2⟩ := hlt
      obtain ⟨l, hl⟩ : ∃ l, ls[i]? = some l := ⟨_, List.getElem?_eq_getElem hl1⟩
      obtain ⟨b, off, rfl, hcell⟩ := HC.out i l hl
      have hll := HS.out l (List.mem_of_getElem? hl)
      have q0 : wr.cell? ⟨b, off + i, none⟩ = some (.string ⟨l.toArray⟩) := (HH.out.2.cell (p := ⟨b, off + i, none⟩) (cell_lt hcell)).trans hcell
      have HF : Hid (∀ w2, Calls Tryz.prog 29 #[.string ⟨l.toArray⟩] w2 fun e w' => e = .returned (.string ⟨(few7 l).toArray⟩) ∧ w' = w2) := fun w2 => few7_any l w2 hll
      have HE := hide (cut7_step hl hl2)
      clear hcell hl hll
      go_wp2_with (first
        | (go_at_call 29; refine (HF.out _).mono ?_; rintro e w2 ⟨rfl, rfl⟩)
        | (at_builtin; refine wpList_append_lies _ rfl _ _ 30 rfl w.heap.size 9 i9 (.string ⟨#[]⟩) 1 16 under_strs hi9 hz0 hz1 hz2 rfl (by decide) _ _ _ rfl (HH.out.1.alloc _) ⟨w2.heap.size, 0, none⟩ 1 1 [.string ⟨(few7 l).toArray⟩] rfl rfl ?a1 ?a2 (by decide) ?a3 ?a4 ?a5 (w2.heap.size + 1) (by simp) ?_))
      case a1 => exact cell_one_new _ _ _
      case a2 => intro u hu; simp at hu; subst hu; rfl
      case a3 => unfold maxLen; omega
      case a4 => omega
      case a5 => have h1 := HH.out.2.size; simp; omega
      intro g cap w3 hown hgrow _ _
      have H3 : Hid (w3.ownsRow w.heap.size 9 1 (.slice (some ⟨g, 0, none⟩) (i + 1) cap) (i + 1) (tv ((ls.take (i + 1)).map few7)) ∧ Below w.heap.size w w3) := by
        have hb2 := HH.out.2.alloc HH.out.2.size (.cells #[.string ⟨(few7 l).toArray⟩] 9)
        refine ⟨?_, hb2.grown hgrow hb2.size fun k e => ownsRow_ge HH.out.1 e⟩
        rw [HE.out]
        unfold tv at hown ⊢
        rw [← List.map_take] at hown
        rw [List.map_append]
        exact hown
      clear hown hgrow
      go_wp2_with fail
      exact ⟨⟨i + 1, g, cap, by omega, by omega, by first | rfl | go_num, rfl, H3.out.1, H3.out.2⟩, by simp [intOf]; omega⟩
    · have hE : (ls.take i).map few7 = cut7 ls := cut7_end (by omega) hi6
      have hlen : (cut7 ls).length = i := by rw [← hE, List.length_map, List.length_take]; omega
      have HD : Hid (wr.ownsRow w.heap.size 9 1 (.slice (some ⟨rg, 0, none⟩) (cut7 ls).length rc) (cut7 ls).length (tv (cut7 ls)) ∧ Below w.heap.size w wr) := by
        have := HH.out
        rw [hE] at this
        rw [hlen]
        exact this
      have HLN := hide hlen
      clear hE hlen
      by_cases h1 : i < ls.length
      · have h2 : i = 6 := by omega
        subst h2
        go_wp2_with fail
        go_ret
        refine ⟨rg, rc, ?_, HD.out.1, HD.out.2⟩
        rw [HLN.out]
        rfl
      · have h2 : i = ls.length := by omega
        subst h2
        go_wp2_with fail
        go_ret
        refine ⟨rg, rc, ?_, HD.out.1, HD.out.2⟩
        rw [HLN.out]
        rfl
end Go.Proofs.YtoineobjmllicaaGreatDoor
