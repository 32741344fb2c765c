/- Several texts in one: RegionInv, RegionOwn, RegionSteps. -/
import Derived.Orders
import Derived.StillTail
import Derived.Deep.Quiet
import Derived.Laws.AppendOwn
import Derived.Below
import Derived.Tactics
import Derived.Laws.OwnMore
/- A region that draws its order, by an invariant of what has been done: each operation that may come up keeps it; of no program. -/
namespace Go.RegionInv
variable {P : Program}
/-- How many have not come yet. -/
def left (n : Nat) (listed : Array Bool) : Nat := ((List.range n).filter fun i => listed.getD i true == false).length
theorem left_set {n i : Nat} {listed : Array Bool} (hi : i < n) (h : listed.getD i true = false) : left n (listed.setIfInBounds i true) + 1 = left n listed := by
 unfold left
 have hsz : i < listed.size := by
  rcases Nat.lt_or_ge i listed.size with h' | h'
  ·exact h'
  ·rw [Array.getD_eq_getD_getElem?, Array.getElem?_eq_none h'] at h; simp at h
 have key : ∀ j, ((listed.setIfInBounds i true).getD j true == false) = (decide (j ≠ i) && (listed.getD j true == false)) := fun j => by
  by_cases e : j = i
  ·subst e
   simp [Array.getD_eq_getD_getElem?, hsz]
  ·rw [Array.getD_eq_getD_getElem?, Array.getElem?_setIfInBounds_ne (Ne.symm e), ← Array.getD_eq_getD_getElem?]
   simp [e]
 rw [List.filter_congr (fun j _ => key j), ← List.filter_filter]
 have hmem : i ∈ (List.range n).filter fun i => listed.getD i true == false := by
  rw [List.mem_filter]
  exact ⟨List.mem_range.2 hi, by rw [h]; rfl⟩
 have hnd : ((List.range n).filter fun i => listed.getD i true == false).Nodup := List.Pairwise.filter _ List.nodup_range
 generalize (List.range n).filter (fun i => listed.getD i true == false) = L at hmem hnd
 induction L with
 | nil => cases hmem
 | cons x L ih =>
  obtain ⟨h1, h2⟩ := List.nodup_cons.1 hnd
  rw [List.filter_cons]
  by_cases e : x = i
  ·subst e
   simp only [ne_eq, not_true_eq_false, decide_false, Bool.false_eq_true, if_false]
   rw [List.filter_eq_self.2 fun y hy => by simpa using fun e : y = x => h1 (e ▸ hy)]
   rfl
  ·have hm : i ∈ L := by
    rcases List.mem_cons.1 hmem with rfl | h'
    ·exact absurd rfl e
    ·exact h'
   simp only [ne_eq, e, not_false_eq_true, decide_true, if_true, List.length_cons]
   rw [ih hm h2]
theorem ready_nil {md : Region.Mode} {ops : Array Oper} {listed : Array Bool} (h : left ops.size listed = 0) : Region.ready md ops listed = [] := by
 rw [List.eq_nil_iff_forall_not_mem]
 intro i hi
 obtain ⟨h1, o, ho, _⟩ := mem_ready.1 hi
 have hlt : i < ops.size := (Array.getElem?_eq_some_iff.1 ho).1
 have : i ∈ (List.range ops.size).filter fun i => listed.getD i true == false := List.mem_filter.2 ⟨List.mem_range.2 hlt, by rw [h1]; rfl⟩
 unfold left at h
 rw [List.eq_nil_of_length_eq_zero h] at this
 cases this
theorem any_of_inv {md : Region.Mode} {ops : Array Oper} {Q : Exit → Act → World → Prop} (Inv : Array Bool → Act → World → Prop)
  (hstep : ∀ listed a w i, Inv listed a w → i ∈ Region.ready md ops listed → wpOp P ops Q i (fun a' w' => Inv (listed.setIfInBounds i true) a' w') a w)
  (hdone : ∀ listed a w, Inv listed a w → Region.ready md ops listed = [] → Q .normal a w) :
  ∀ fuel listed a w, left ops.size listed ≤ fuel → Inv listed a w → wpAny P md ops Q fuel listed a w := by
 intro fuel
 induction fuel with
 | zero =>
  intro listed a w hl hI
  have hr := ready_nil (md := md) (ops := ops) (listed := listed) (by omega)
  exact ⟨hr, hdone _ _ _ hI hr⟩
 | succ fuel ih =>
  intro listed a w hl hI
  refine ⟨fun hr => hdone _ _ _ hI hr, fun i hi => ?_⟩
  obtain ⟨h1, o, ho, _⟩ := mem_ready.1 hi
  have hlt : i < ops.size := (Array.getElem?_eq_some_iff.1 ho).1
  have hs := left_set hlt h1
  exact wpOp_mono (fun a' w' hI' => ih _ a' w' (by omega) hI') (hstep listed a w i hI hi)
/-- The region. -/
theorem region {id : Nat} {Q : Exit → Act → World → Prop} {a : Act} {w : World} {ops : Array Oper} (hm : P.follows .mixedOrders = true) (Inv : Array Bool → Act → World → Prop)
  (h0 : Inv (Array.replicate ops.size false) a { w with drawn := w.drawn + 1 })
  (hstep : ∀ listed a w i, Inv listed a w → i ∈ Region.ready .any ops listed → wpOp P ops Q i (fun a' w' => Inv (listed.setIfInBounds i true) a' w') a w)
  (hdone : ∀ listed a w, Inv listed a w → Region.ready .any ops listed = [] → Q .normal a w) : (Code.region id ops true).wp P Q a w := by
 refine wp_region_any hm (any_of_inv Inv hstep hdone _ _ _ _ ?_ h0)
 unfold left
 exact Nat.le_trans (List.length_filter_le _ _) (by simp)
end Go.RegionInv
/- A region that draws its order: each operation leaves a value of which a fact is told; some own the block of their slice until another operation takes it; the last operations come in their order; of no program. -/
namespace Go.RegionOwn
open Go.RowKit
variable {P : Program} {ops : Array Oper} {Q : Exit → Act → World → Prop}
def T (a : Act) (k : Nat) : Value := a.tmps.getD k undef
def On (listed : Array Bool) (i : Nat) : Prop := listed.getD i false = true
def waits (ops : Array Oper) (i j : Nat) : Bool := match ops[i]? with | some o => o.after.any fun e => Region.binds .any e && e.on == j | none => false
def dstOf (ops : Array Oper) (i : Nat) : Option Nat := (ops[i]?).bind (·.dst)
structure Spec where
 F : Nat → World → Value → Prop
 own : Nat → Option Nat
def backB (ops : Array Oper) : Bool := (List.range ops.size).all fun i => match ops[i]? with | some o => o.after.all fun e => !Region.binds .any e || decide (e.on < i) | none => true
/-- Does one wait for another, through others? -/
def reachB (ops : Array Oper) : Nat → Nat → Nat → Bool
 | 0, i, j => waits ops i j
 | f + 1, i, j => waits ops i j || (List.range i).any fun k => waits ops i k && reachB ops f k j
def tailB (ops : Array Oper) (m : Nat) : Bool := (List.range' m (ops.size - m)).all fun i => (List.range i).all fun j => reachB ops ops.size i j
theorem reach_on {listed : Array Bool} (hc : ∀ i j, On listed i → waits ops i j = true → On listed j) : ∀ f i j, (∀ k, waits ops i k = true → On listed k) → reachB ops f i j = true → On listed j
 | 0, i, j, hi, h => hi j h
 | f + 1, i, j, hi, h => by
  unfold reachB at h
  rw [Bool.or_eq_true] at h
  rcases h with h | h
  ·exact hi j h
  ·obtain ⟨k, _, hk⟩ := List.any_eq_true.1 h
   rw [Bool.and_eq_true] at hk
   exact reach_on hc f k j (fun l hl => hc k l (hi k hk.1) hl) hk.2
def dstB (ops : Array Oper) (m : Nat) : Bool := (List.range m).all fun i => (List.range m).all fun j => i == j || dstOf ops i == none || dstOf ops i != dstOf ops j
/-- Edges lead back; the operations from m on come in their order, behind all others; no two of the others write one slot. -/
def fitB (ops : Array Oper) (m : Nat) : Bool := decide (m ≤ ops.size) && backB ops && tailB ops m && dstB ops m
structure Fr (ops : Array Oper) (m : Nat) (a b : Act) : Prop where
 size : b.tmps.size = a.tmps.size
 defers : b.defers = a.defers
 others : ∀ k, (∀ i, i < m → dstOf ops i ≠ some k) → T b k = T a k
def Live (sp : Spec) (listed : Array Bool) (i : Nat) : Prop := On listed i ∧ ∀ c, sp.own i = some c → ¬ On listed c
structure Inv (ops : Array Oper) (m : Nat) (sp : Spec) (a : Act) (w : World) (listed : Array Bool) (b : Act) (x : World) : Prop where
 size : listed.size = ops.size
 few : ∀ i, m ≤ i → ¬ On listed i
 closed : ∀ i j, On listed i → waits ops i j = true → On listed j
 fr : Fr ops m a b
 below : Below w.heap.size w x
 fact : ∀ i d, i < m → dstOf ops i = some d → Live sp listed i → sp.F i x (T b d)
 apart : ∀ i j d e, i < m → j < m → i ≠ j → dstOf ops i = some d → dstOf ops j = some e → Live sp listed i → Live sp listed j → sp.own i ≠ none → sp.own j ≠ none → (T b d).ownBlock = none ∨ (T b d).ownBlock ≠ (T b e).ownBlock
 old : ∀ i d, i < m → dstOf ops i = some d → ¬ On listed i → T b d = T a d
/-- The block g is one that operation i takes. -/
def Mine (ops : Array Oper) (m : Nat) (sp : Spec) (b : Act) (i g : Nat) : Prop := ∃ j d, j < m ∧ dstOf ops j = some d ∧ sp.own j = some i ∧ (T b d).ownBlock = some g
theorem on_set {listed : Array Bool} {i j : Nat} (hi : i < listed.size) : On (listed.setIfInBounds i true) j ↔ On listed j ∨ j = i := by
 unfold On
 by_cases e : j = i
 ·subst e
  simp [Array.getD_eq_getD_getElem?, hi]
 ·rw [Array.getD_eq_getD_getElem?, Array.getElem?_setIfInBounds_ne (Ne.symm e), ← Array.getD_eq_getD_getElem?]
  simp [e]
theorem not_on {listed : Array Bool} {i : Nat} (hi : i < listed.size) : ¬ On listed i ↔ listed.getD i true = false := by
 unfold On
 rw [Array.getD_eq_getD_getElem?, Array.getD_eq_getD_getElem?, Array.getElem?_eq_getElem hi]
 simp
theorem ready_waits {listed : Array Bool} {i j : Nat} (h : i ∈ Region.ready .any ops listed) (hw : waits ops i j = true) : On listed j := by
 obtain ⟨_, o, ho, hall⟩ := mem_ready.1 h
 unfold waits at hw
 rw [ho] at hw
 simp only [Array.any_eq_true', Bool.and_eq_true, beq_iff_eq] at hw
 obtain ⟨e, he, hb, rfl⟩ := hw
 exact hall e he hb
theorem ready_lt {listed : Array Bool} {i : Nat} (h : i ∈ Region.ready .any ops listed) : i < ops.size := by
 obtain ⟨_, o, ho, _⟩ := mem_ready.1 h
 exact (Array.getElem?_eq_some_iff.1 ho).1
/-- Where none may come, all have come. -/
theorem all_on {listed : Array Bool} (hb : backB ops = true) (hs : listed.size = ops.size) (h : Region.ready .any ops listed = []) : ∀ i, i < ops.size → On listed i := by
 intro i
 induction i using Nat.strongRecOn with
 | _ i ih =>
  intro hi
  refine Classical.byContradiction fun hn => ?_
  have hr : i ∈ Region.ready .any ops listed := by
   refine mem_ready.2 ⟨(not_on (by omega)).1 hn, _, Array.getElem?_eq_getElem hi, fun e he hbd => ?_⟩
   unfold backB at hb
   have h1 := List.all_eq_true.1 hb i (List.mem_range.2 hi)
   rw [Array.getElem?_eq_getElem hi] at h1
   simp only [Array.all_eq_true_iff_forall_mem] at h1
   have h2 := h1 e he
   simp only [hbd, Bool.not_true, Bool.false_or, decide_eq_true_eq] at h2
   exact ih e.on h2 (by omega)
  rw [h] at hr
  cases hr
theorem T_put_ne {b : Act} {d e : Nat} {v : Value} (h : d ≠ e) : T (b.put (some e) v) d = T b d := by
 unfold T Act.put
 simp only [Array.getD_eq_getD_getElem?]
 rw [Array.getElem?_setIfInBounds_ne (Ne.symm h)]
theorem T_put_eq {b : Act} {d : Nat} {v : Value} (h : d < b.tmps.size) : T (b.put (some d) v) d = v := by
 unfold T Act.put
 simp [Array.getD_eq_getD_getElem?, h]
theorem Fr.put {m : Nat} {a b : Act} (h : Fr ops m a b) {i : Nat} (hi : i < m) (v : Value) : Fr ops m a (b.put (dstOf ops i) v) := by
 cases hd : dstOf ops i with
 | none => exact h
 | some d =>
  refine ⟨by rw [← h.size]; simp [Act.put], h.defers, fun k hk => ?_⟩
  rw [T_put_ne (fun e => hk i hi (by rw [hd, e]))]
  exact h.others k hk
/-- The region. -/
theorem region {id m : Nat} {a : Act} {w : World} (sp : Spec) (hm : P.follows .mixedOrders = true) (hfit : fitB ops m = true)
  (hdst : ∀ i d, i < m → dstOf ops i = some d → d < a.tmps.size)
  (hown : ∀ j i, j < m → i < m → sp.own j = some i → waits ops i j = true)
  (hF : ∀ i x y v row, i < m → sp.F i x v → x.grownBy y row → (sp.own i ≠ none → v.ownBlock = none ∨ v.ownBlock ≠ row) → (∀ g, row = some g → w.heap.size ≤ g ∧ ∃ j, j < m ∧ sp.own j ≠ none) → sp.F i y v)
  (hlt : ∀ i x v, i < m → sp.F i x v → sp.own i ≠ none → ∀ g, v.ownBlock = some g → w.heap.size ≤ g ∧ g < x.heap.size)
  (hstep : ∀ i, i < m → ∀ (b : Act) (x : World), Fr ops m a b → Below w.heap.size w x →
   (∀ j d, j < m → dstOf ops j = some d → waits ops i j = true → (sp.own j = none ∨ sp.own j = some i) → sp.F j x (T b d)) →
   (∀ j d, j < m → dstOf ops j = some d → waits ops j i = true → T b d = T a d) →
   ∀ K : Act → World → Prop, (∀ v y row, x.grownBy y row → (∀ g, row = some g → Mine ops m sp b i g) → sp.F i y v → (sp.own i ≠ none → ∀ g, v.ownBlock = some g → x.heap.size ≤ g ∨ Mine ops m sp b i g) → K (b.put (dstOf ops i) v) y) → wpOp P ops Q i K b x)
  (hlast : ∀ (b : Act) (x : World), Fr ops m a b → Below w.heap.size w x →
   (∀ j d, j < m → dstOf ops j = some d → (∀ i, i < m → sp.own j ≠ some i) → sp.F j x (T b d)) → wpOps P ops Q (List.range' m (ops.size - m)) b x) :
  (Code.region id ops true).wp P Q a w := by
 unfold fitB at hfit
 simp only [Bool.and_eq_true, decide_eq_true_eq] at hfit
 obtain ⟨⟨⟨hmN, hback⟩, htail⟩, hdist⟩ := hfit
 have hwt : ∀ i j, m ≤ i → i < ops.size → j < i → reachB ops ops.size i j = true := fun i j h1 h2 h3 => by
  unfold tailB at htail
  have := List.all_eq_true.1 htail i (by rw [List.mem_range']; exact ⟨i - m, by omega, by omega⟩)
  exact List.all_eq_true.1 this j (List.mem_range.2 h3)
 have hlow : ∀ i j, waits ops i j = true → j < i := fun i j hw => by
  unfold waits at hw
  cases ho : ops[i]? with
  | none => rw [ho] at hw; cases hw
  | some o =>
   rw [ho] at hw
   simp only [Array.any_eq_true', Bool.and_eq_true, beq_iff_eq] at hw
   obtain ⟨e, he, hb, rfl⟩ := hw
   unfold backB at hback
   have h1 := List.all_eq_true.1 hback i (List.mem_range.2 (Array.getElem?_eq_some_iff.1 ho).1)
   rw [ho] at h1
   simp only [Array.all_eq_true_iff_forall_mem] at h1
   have h2 := h1 e he
   simpa [hb] using h2
 have hne : ∀ i j d e, i < m → j < m → i ≠ j → dstOf ops i = some d → dstOf ops j = some e → d ≠ e := fun i j d e hi hj hij h1 h2 hde => by
  unfold dstB at hdist
  have := List.all_eq_true.1 (List.all_eq_true.1 hdist i (List.mem_range.2 hi)) j (List.mem_range.2 hj)
  rw [h1, h2, hde] at this
  simp [hij] at this
 refine RegionInv.region hm (fun listed b x => Inv ops m sp a w listed b x ∨ ∃ t, m < t ∧ t ≤ ops.size ∧ listed.size = ops.size ∧ (∀ i, i < ops.size → (On listed i ↔ i < t)) ∧ wpOps P ops Q (List.range' t (ops.size - t)) b x) ?_ ?_ ?_
 ·refine .inl ⟨by simp, fun i _ h => ?_, fun i j h => ?_, ⟨rfl, rfl, fun _ _ => rfl⟩, ⟨rfl, rfl, rfl, Nat.le_refl _, fun _ _ => rfl⟩, fun i d _ _ h => ?_, fun i j d e _ _ _ _ _ h => ?_, fun _ _ _ _ _ => rfl⟩
  ·simp [On, Array.getD_eq_getD_getElem?, Array.getElem?_replicate] at h
   split at h <;> simp at h
  ·simp [On, Array.getD_eq_getD_getElem?, Array.getElem?_replicate] at h
   split at h <;> simp at h
  ·have := h.1
   simp [On, Array.getD_eq_getD_getElem?, Array.getElem?_replicate] at this
   split at this <;> simp at this
  ·have := h.1
   simp [On, Array.getD_eq_getD_getElem?, Array.getElem?_replicate] at this
   split at this <;> simp at this
 ·intro listed b x i hI hr
  have hiN := ready_lt hr
  have hun := (mem_ready.1 hr).1
  rcases hI with I | ⟨t, h1, h2, hsz, hon, hw⟩
  ·have hil : i < listed.size := by rw [I.size]; exact hiN
   have hnot := (not_on hil).2 hun
   by_cases him : i < m
   ·refine hstep i him b x I.fr I.below (fun j d hj hd hwj ho => ?_) (fun j d hj hd hwj => I.old j d hj hd fun hon => hnot (I.closed j i hon hwj)) _ fun v y row hg hrow hFi hv => ?_
    ·refine I.fact j d hj hd ⟨ready_waits hr hwj, fun c hc => ?_⟩
     rcases ho with ho | ho
     ·rw [ho] at hc; cases hc
     ·rw [ho] at hc; cases hc; exact hnot
    ·have hmine : ∀ g, Mine ops m sp b i g → w.heap.size ≤ g ∧ g < x.heap.size ∧ ∃ j d, j < m ∧ dstOf ops j = some d ∧ sp.own j = some i ∧ (T b d).ownBlock = some g ∧ Live sp listed j := fun g ⟨j, d, hj, hd, ho, hb⟩ => by
      have hl : Live sp listed j := ⟨ready_waits hr (hown j i hj him ho), fun c hc => by rw [ho] at hc; cases hc; exact hnot⟩
      have := hlt j x _ hj (I.fact j d hj hd hl) (by rw [ho]; simp) g hb
      exact ⟨this.1, this.2, j, d, hj, hd, ho, hb, hl⟩
     have hlive : ∀ l, l ≠ i → Live sp (listed.setIfInBounds i true) l → Live sp listed l ∧ sp.own l ≠ some i := fun l hli ⟨h1, h2⟩ => by
      refine ⟨⟨((on_set hil).1 h1).resolve_right hli, fun c hc hcn => h2 c hc ((on_set hil).2 (.inl hcn))⟩, fun ho => h2 i ho ((on_set hil).2 (.inr rfl))⟩
     have hTi : ∀ d, dstOf ops i = some d → T (b.put (dstOf ops i) v) d = v := fun d hd => by
      rw [hd]; exact T_put_eq (by rw [I.fr.size]; exact hdst i d him hd)
     have hTo : ∀ l d, l < m → l ≠ i → dstOf ops l = some d → T (b.put (dstOf ops i) v) d = T b d := fun l d hl hli hd => by
      cases hdi : dstOf ops i with
      | none => rfl
      | some e => exact T_put_ne (hne l i d e hl him hli hd hdi)
     have hother : ∀ l d, l < m → l ≠ i → dstOf ops l = some d → Live sp (listed.setIfInBounds i true) l → sp.own l ≠ none → ∀ g, Mine ops m sp b i g → (T b d).ownBlock ≠ some g := fun l d hl hli hd hlv ho g hg => by
      obtain ⟨_, _, j, e, hj, he, hoj, hbj, hlj⟩ := hmine g hg
      obtain ⟨hlv', hnl⟩ := hlive l hli hlv
      have hlj' : l ≠ j := fun e' => hnl (by rw [e', hoj])
      rcases I.apart l j d e hl hj hlj' hd he hlv' hlj ho (by rw [hoj]; simp) with h' | h'
      ·rw [h']; simp
      ·rw [hbj] at h'; exact h'
     refine .inl ⟨by simp [I.size], fun l hl hon => ?_, fun l k hon hw => ?_, I.fr.put him v, ?_, fun l d hl hd hlv => ?_, ?_, fun l d hl hd hno => (hTo l d hl (fun e => hno ((on_set hil).2 (.inr e))) hd).trans (I.old l d hl hd fun hon => hno ((on_set hil).2 (.inl hon)))⟩
     ·rcases (on_set hil).1 hon with h' | h'
      ·exact I.few l hl h'
      ·omega
     ·rcases (on_set hil).1 hon with h' | h'
      ·exact (on_set hil).2 (.inl (I.closed l k h' hw))
      ·subst h'
       exact (on_set hil).2 (.inl (ready_waits hr hw))
     ·exact I.below.grown hg I.below.size (fun k hk => (hmine k (hrow k hk)).1)
     ·by_cases hli : l = i
      ·subst hli
       rw [hTi d hd]
       exact hFi
      ·rw [hTo l d hl hli hd]
       refine hF l x y _ row hl (I.fact l d hl hd (hlive l hli hlv).1) hg (fun ho => ?_) fun g hg' => ?_
       ·cases row with
        | none => cases (T b d).ownBlock with
         | none => exact .inl rfl
         | some _ => exact .inr (by simp)
        | some g => exact .inr (hother l d hl hli hd hlv ho g (hrow g rfl))
       ·obtain ⟨h1, _, j, _, hj, _, ho, _⟩ := hmine g (hrow g hg')
        exact ⟨h1, j, hj, by rw [ho]; simp⟩
     ·have half : ∀ l d e, l < m → l ≠ i → dstOf ops i = some d → dstOf ops l = some e → Live sp (listed.setIfInBounds i true) l → sp.own i ≠ none → sp.own l ≠ none → v.ownBlock = none ∨ v.ownBlock ≠ (T b e).ownBlock := fun l d e hl hli hd he hlv hoi hol => by
       cases hv' : v.ownBlock with
       | none => exact .inl rfl
       | some g =>
        refine .inr fun hcl => ?_
        rcases hv hoi g hv' with h' | h'
        ·have := (hlt l x _ hl (I.fact l e hl he (hlive l hli hlv).1) hol g hcl.symm).2
         omega
        ·exact hother l e hl hli he hlv hol g h' hcl.symm
      intro l k d e hl hk hlk hd he hlv hkv hol hok
      by_cases hli : l = i
      ·subst hli
       rw [hTi d hd, hTo k e hk (Ne.symm hlk) he]
       exact half k d e hk (Ne.symm hlk) hd he hkv hol hok
      ·by_cases hki : k = i
       ·subst hki
        rw [hTi e he, hTo l d hl hli hd]
        rcases half l e d hl hli he hd hlv hok hol with h' | h'
        ·rw [h']
         cases (T b d).ownBlock with
         | none => exact .inl rfl
         | some _ => exact .inr (by simp)
        ·exact .inr (Ne.symm h')
       ·rw [hTo l d hl hli hd, hTo k e hk hki he]
        exact I.apart l k d e hl hk hlk hd he (hlive l hli hlv).1 (hlive k hki hkv).1 hol hok
   ·have hall : ∀ j, j < i → On listed j := fun j hj => reach_on I.closed _ i j (fun k hk => ready_waits hr hk) (hwt i j (by omega) hiN hj)
    have him' : i = m := by
     rcases Nat.lt_or_ge m i with h' | h'
     ·exact absurd (hall m h') (I.few m (Nat.le_refl _))
     ·omega
    subst him'
    have H := hlast b x I.fr I.below fun j d hj hd ho => I.fact j d hj hd ⟨hall j hj, fun c hc hcn => (by
     rcases Nat.lt_or_ge c i with h' | h'
     ·exact ho c h' hc
     ·exact I.few c h' hcn)⟩
    rw [show ops.size - i = (ops.size - (i + 1)) + 1 from by omega, List.range'_succ, wpOps_cons] at H
    refine wpOp_mono (fun b' x' h' => .inr ⟨i + 1, by omega, by omega, by simp [I.size], fun j hj => ?_, h'⟩) H
    rw [on_set hil]
    constructor
    ·rintro (h' | h')
     ·rcases Nat.lt_or_ge j i with h'' | h''
      ·omega
      ·exact absurd h' (I.few j h'')
     ·omega
    ·intro h'
     rcases Nat.lt_or_ge j i with h'' | h''
     ·exact .inl (hall j h'')
     ·exact .inr (by omega)
  ·have hil : i < listed.size := by rw [hsz]; exact hiN
   have hnot := (not_on hil).2 hun
   have hit : t ≤ i := Nat.le_of_not_lt fun h' => hnot ((hon i hiN).2 h')
   have hit' : i = t := by
    rcases Nat.lt_or_ge t i with h' | h'
    ·have hcl : ∀ a b, On listed a → waits ops a b = true → On listed b := fun a b ha hw => by
      have ha' : a < ops.size := by
       rcases Nat.lt_or_ge a ops.size with h'' | h''
       ·exact h''
       ·unfold On at ha
        rw [Array.getD_eq_getD_getElem?, Array.getElem?_eq_none (by omega)] at ha
        cases ha
      have h1 := (hon a ha').1 ha
      have h2 := hlow a b hw
      exact (hon b (by omega)).2 (by omega)
     have := (hon t (by omega)).1 (reach_on hcl _ i t (fun k hk => ready_waits hr hk) (hwt i t (by omega) hiN h'))
     omega
    ·omega
   subst hit'
   rw [show ops.size - i = (ops.size - (i + 1)) + 1 from by omega, List.range'_succ, wpOps_cons] at hw
   refine wpOp_mono (fun b' x' h' => .inr ⟨i + 1, by omega, by omega, by simp [hsz], fun j hj => ?_, h'⟩) hw
   rw [on_set hil, hon j hj]
   omega
 ·intro listed b x hI hr
  rcases hI with I | ⟨t, h1, h2, hsz, hon, hw⟩
  ·rcases Nat.lt_or_ge m ops.size with h' | h'
   ·exact absurd (all_on hback I.size hr m h') (I.few m (Nat.le_refl _))
   ·have H := hlast b x I.fr I.below fun j d hj hd ho => I.fact j d hj hd ⟨all_on hback I.size hr j (by omega), fun c hc hcn => (by
     rcases Nat.lt_or_ge c m with h'' | h''
     ·exact ho c h'' hc
     ·exact I.few c h'' hcn)⟩
    rw [show ops.size - m = 0 from by omega] at H
    exact H
  ·have : t = ops.size := by
    rcases Nat.lt_or_ge t ops.size with h' | h'
    ·have := (hon t h').1 (all_on hback hsz hr t h')
     omega
    ·omega
   subst this
   rw [Nat.sub_self] at hw
   exact hw
end Go.RegionOwn
/- Single operations of a region by RegionOwn: one that leaves the world alone, one that makes a block, append, a call; of no program. -/
namespace Go.RegionOwn
open Go.RowKit
variable {P : Program} {ops : Array Oper} {Q : Exit → Act → World → Prop} {m : Nat} {sp : Spec} {b : Act} {x : World} {i : Nat} {K : Act → World → Prop} {o : Oper}
/-- What is asked behind operation i. -/
def Then (ops : Array Oper) (m : Nat) (sp : Spec) (b : Act) (i : Nat) (x : World) (K : Act → World → Prop) : Prop :=
 ∀ v y row, x.grownBy y row → (∀ g, row = some g → Mine ops m sp b i g) → sp.F i y v → (sp.own i ≠ none → ∀ g, v.ownBlock = some g → x.heap.size ≤ g ∨ Mine ops m sp b i g) → K (b.put (dstOf ops i) v) y
theorem dst_of (ho : ops[i]? = some o) : dstOf ops i = o.dst := by unfold dstOf; rw [ho]; rfl
theorem wpOp_value {v : Value} {y : World} (ho : ops[i]? = some o) (hg : o.guard = none) (hr : (execOp b.eval o).run P x = .ok (.value v) y) (h : K (b.put (dstOf ops i) v) y) : wpOp P ops Q i K b x := by
 rw [dst_of ho] at h
 unfold wpOp
 simp only [ho]
 rw [if_pos (by simp [Region.wanted, hg])]
 left
 unfold Oper.wp
 rw [hr]
 exact h
theorem quiet {v : Value} (ho : ops[i]? = some o) (hg : o.guard = none) (hK : Then ops m sp b i x K) (hno : sp.own i = none) (hF : sp.F i x v) (hr : (execOp b.eval o).run P x = .ok (.value v) x) : wpOp P ops Q i K b x :=
 wpOp_value ho hg hr (hK v x none ⟨rfl, rfl, rfl, Nat.le_refl _, fun _ _ _ => rfl⟩ (fun _ h => by cases h) hF (fun h => absurd hno h))
theorem made {v : Value} {ob : Obj} (ho : ops[i]? = some o) (hg : o.guard = none) (hK : Then ops m sp b i x K) (hF : sp.F i (x.alloc ob) v) (hb : ∀ g, v.ownBlock = some g → x.heap.size ≤ g) (hr : (execOp b.eval o).run P x = .ok (.value v) (x.alloc ob)) : wpOp P ops Q i K b x :=
 wpOp_value ho hg hr (hK v _ none (World.grownBy_alloc x ob none) (fun _ h => by cases h) hF (fun _ g h => .inl (hb g h)))
theorem called {f : FuncId} {args : Array Value} (ho : ops[i]? = some o) (hg : o.guard = none) (hK : Then ops m sp b i x K) (hno : sp.own i = none)
  (hr : (execOp b.eval o).run P x = .ok (.enter f args) x) (hc : Calls P f args x fun e y => ∃ v, e = .returned v ∧ Below x.heap.size x y ∧ sp.F i y v) : wpOp P ops Q i K b x := by
 unfold wpOp
 simp only [ho]
 rw [if_pos (by simp [Region.wanted, hg])]
 left
 unfold Oper.wp
 rw [hr]
 refine Calls.mono hc ?_
 rintro e y ⟨v, rfl, hb, hF⟩
 have := hK v y none ⟨hb.os, hb.tape, hb.output, hb.size, fun k hk _ => hb.block k hk⟩ (fun _ h => by cases h) hF (fun h => absurd hno h)
 rw [dst_of ho] at this
 exact this
/-- A slice that holds n elements of k cells: these cells. -/
def Holds (w : World) (v : Value) (k n : Nat) (xs : List Value) : Prop :=
 xs.length = n * k ∧ ((v = .slice none 0 0 ∧ n = 0) ∨ ∃ ad cap, v = .slice (some ad) n cap ∧ ∀ j u, xs[j]? = some u → w.cell? (ad.add j) = some u)
theorem Holds.of_own {base e k n : Nat} {v : Value} {xs : List Value} (h : x.ownsRow base e k v n xs) : Holds x v k n xs := by
 refine ⟨h.1, ?_⟩
 rcases h.2 with h' | ⟨g, cap, cur, rfl, _⟩
 ·exact .inl h'
 ·exact .inr ⟨⟨g, 0, none⟩, cap, rfl, h.cells (g := g) rfl⟩
/-- append to a row that is owned till then. -/
theorem appended {d e t el : Nat} (ho : ops[i]? = some o) (hg : o.guard = none) (hK : Then ops m sp b i x K)
  (hop : o.op = .call { callee := .builtin .append, args := #[.tmp d, .tmp e], argTypes := #[t, t] })
  (ti : TypeInfo) (z : Value) (size bytes : Nat) (ht : P.underlying t = some (.slice el)) (hi : P.info? el = some ti) (hz : ti.zero = some z) (hsize : ti.size = size) (hby : ti.bytes = bytes) (hzs : z.cells.size = size) (hsz : 0 < size)
  {base n k j : Nat} {xs ys : List Value} (hj : j < m) (hd : dstOf ops j = some d) (hoj : sp.own j = some i) (hown : x.ownsRow base el size (T b d) n xs) (hbase : base ≤ x.heap.size)
  (hsrc : Holds x (T b e) size k ys) (hone : ∀ u ∈ ys, u.oneCell' = true) (h63 : n + k ≤ maxLen) (hbytes : (n + k) * bytes ≤ 140737488355328)
  (hF : ∀ v y, y.ownsRow base el size v (n + k) (xs ++ ys) → sp.F i y v) : wpOp P ops Q i K b x := by
 have hmine : ∀ g, (T b d).ownBlock = some g → Mine ops m sp b i g := fun g h => ⟨j, d, hj, hd, hoj, h⟩
 have key : ∃ v y, (Builtin.append_ #[t, t] o.type #[T b d, T b e]).run P x = .ok v y ∧ y.ownsRow base el size v (n + k) (xs ++ ys) ∧ x.grownBy y (T b d).ownBlock ∧ ∀ g, v.ownBlock = some g → x.heap.size ≤ g ∨ (T b d).ownBlock = some g := by
  rcases hsrc.2 with ⟨h1, h2⟩ | ⟨ad, cap, h1, h2⟩
  ·subst h2
   have hys : ys = [] := List.eq_nil_of_length_eq_zero (by simpa using hsrc.1)
   subst hys
   rw [h1]
   exact ⟨_, _, run_append_owned_none (P := P) (w := x) base t o.type el ti size ht hi _ n xs hown, by simpa using hown, ⟨rfl, rfl, rfl, Nat.le_refl _, fun _ _ _ => rfl⟩, fun g h => .inr h⟩
  ·rw [h1]
   obtain ⟨v, y, hr, h3, h4, _⟩ := run_append_own (P := P) x base t o.type el ti z size bytes ht hi hz hsize hby hzs hsz _ n xs hown ad k cap ys hsrc.1 h2 hone h63 hbytes hbase
   refine ⟨v, y, hr, h3, h4, ?_⟩
   subst hsize
   subst hby
   have hsmall : n + k ≤ 9223372036854775807 := by simp only [maxLen] at h63; omega
   rcases hown.2 with ⟨hv, hn⟩ | ⟨g0, cap0, cur, hv, hbg, hg0, hnc, hcm, hcs, htake⟩
   ·rw [hv] at hr
    by_cases hk0 : k = 0
    ·subst hk0
     have hys : ys = [] := List.eq_nil_of_length_eq_zero (by simpa using hsrc.1)
     have : (Builtin.append_ #[t, t] o.type #[.slice none 0 0, .slice (some ad) 0 cap]).run P x = .ok (.slice none 0 0) x := by simp [Builtin.append_, run_underlying ht, sizeOf, typeInfo, hi, Builtin.lenOf, Builtin.firstCells, loadCells, loadCellsFrom]
     rw [this] at hr
     cases hr
     intro g h
     cases h
    ·have h5 := run_append_nil (P := P) x t o.type el ti z ht hi hz ad k cap ys hsrc.1 h2 (by omega) (by omega) (by rw [hn] at hbytes; simp only [Nat.zero_add] at hbytes; omega)
     rw [h5] at hr
     cases hr
     intro g h
     simp [Value.ownBlock] at h
     exact .inl (by omega)
   ·rw [hv] at hr ⊢
    by_cases hroom : n + k ≤ cap0
    ·have h5 := run_append_room (P := P) x t o.type el ti ht hi g0 n cap0 cur hg0 ad k cap ys hsrc.1 h2 hone hroom (by rw [hsrc.1, hcs, ← Nat.add_mul]; exact Nat.mul_le_mul_right _ hroom)
     rw [h5] at hr
     cases hr
     exact fun g h => .inr h
    ·have h5 := run_append_grow (P := P) x t o.type el ti z ht hi hz ⟨g0, 0, none⟩ n cap0 xs hown.1 (hown.cells (g := g0) (by rw [hv]; rfl)) ad k cap ys hsrc.1 h2 (by omega) (by omega) (growslice_fits (by omega) hbytes)
     rw [h5] at hr
     cases hr
     intro g h
     simp [Value.ownBlock] at h
     exact .inl (by omega)
 obtain ⟨v, y, hr, h1, h2, h3⟩ := key
 refine wpOp_value (v := v) (y := y) ho hg ?_ (hK v y _ h2 hmine (hF v y h1) fun _ g h => (h3 g h).imp id (hmine g))
 unfold execOp
 simp only [hop, resolve, invoke, builtin, Sem.run_bind, Sem.run_pure, Result.andThen_ok, List.map_toArray, List.map_cons, List.map_nil, Act.eval]
 unfold T at hr
 rw [hr]
 rfl
theorem act_lit (b : Act) (n : Nat) (h : b.tmps.size = n) : b = ⟨((List.range n).map (T b)).toArray, b.defers⟩ := by
 obtain ⟨⟨l⟩, d⟩ := b
 subst h
 congr 1
 refine congrArg List.toArray (List.ext_getElem (by simp) fun k h1 h2 => ?_)
 simp only [List.getElem_map, List.getElem_range, T, Array.getD_eq_getD_getElem?]
 rw [List.getElem?_toArray, List.getElem?_eq_getElem h1]
 rfl
theorem own_form {w : World} {base e k n : Nat} {v : Value} {xs : List Value} (h : w.ownsRow base e k v n xs) : ∃ a c, v = .slice a n c := by
 rcases h.2 with ⟨h1, h2⟩ | ⟨g, cap, cur, h1, _⟩
 ·exact ⟨none, 0, by rw [h2]; exact h1⟩
 ·exact ⟨_, _, h1⟩
/-- A row that was made with one element in it. -/
theorem made_one (w : World) (base e k : Nat) (cs : Array Value) (hb : base ≤ w.heap.size) (hk : cs.size = k) : (w.alloc (.cells cs e)).ownsRow base e k (.slice (some ⟨w.heap.size, 0, none⟩) 1 1) 1 cs.toList :=
 ⟨by simp [hk], .inr ⟨w.heap.size, 1, cs, rfl, hb, heap_alloc_new w _, Nat.le_refl _, by simp [maxLen], by simp [hk], by rw [Nat.one_mul, ← hk, ← Array.length_toList, List.take_length]⟩⟩
def freeB (ops : Array Oper) (m k : Nat) : Bool := (List.range m).all fun i => dstOf ops i != some k
theorem Fr.at {a b : Act} (h : Fr ops m a b) {k : Nat} {v : Value} (hk : freeB ops m k = true) (hv : T a k = v) : T b k = v := by
 rw [← hv]
 refine h.others k fun i hi e => ?_
 unfold freeB at hk
 have := List.all_eq_true.1 hk i (List.mem_range.2 hi)
 rw [e] at this
 simp at this
/-- What an operation leaves: this value; a row of its own until operation c; a value with this property. -/
abbrev Kd := Sum Value (Sum (Nat × List Value × Nat) (World → Value → Prop))
abbrev val (u : Value) : Kd := .inl u
abbrev row (n : Nat) (xs : List Value) (c : Nat) : Kd := .inr (.inl (n, xs, c))
abbrev fact (p : World → Value → Prop) : Kd := .inr (.inr p)
def Kown : Kd → Option Nat
 | .inr (.inl (_, _, c)) => some c
 | _ => none
def KF (base el size : Nat) (x : World) (v : Value) : Kd → Prop
 | .inl u => v = u
 | .inr (.inl (n, xs, _)) => x.ownsRow base el size v n xs
 | .inr (.inr p) => p x v
def specOf (base el size : Nat) (kind : Nat → Kd) : Spec := ⟨fun i x v => KF base el size x v (kind i), fun i => Kown (kind i)⟩
def ownB (ops : Array Oper) (m : Nat) (own : Nat → Option Nat) : Bool := (List.range m).all fun j => match own j with | some i => decide (m ≤ i) || waits ops i j | none => true
def ltB (ops : Array Oper) (m n : Nat) : Bool := (List.range m).all fun i => match dstOf ops i with | some d => decide (d < n) | none => true
/-- The region, told by kinds. -/
theorem regionK {id : Nat} {l : List Oper} {a : Act} {w : World} (m n el size : Nat) (kind : Nat → Kd) (own : Nat → Option Nat) (hkind : ∀ i, i < m → Kown (kind i) = own i) (hm : P.follows .mixedOrders = true) (hn : a.tmps.size = n)
  (hfit : (fitB l.toArray m && ownB l.toArray m own && ltB l.toArray m n) = true)
  (hfact : ∀ i p, i < m → kind i = fact p → (∀ j, j < m → own j = none) ∧ ∀ x y v, p x v → Below x.heap.size x y → p y v)
  (hstep : ∀ i, i < m → ∀ (b : Act) (x : World), Fr l.toArray m a b → Below w.heap.size w x →
   (∀ j d, j < m → dstOf l.toArray j = some d → waits l.toArray i j = true → (own j = none ∨ own j = some i) → KF w.heap.size el size x (T b d) (kind j)) →
   (∀ j d, j < m → dstOf l.toArray j = some d → waits l.toArray j i = true → T b d = T a d) →
   ∀ K : Act → World → Prop, Then l.toArray m (specOf w.heap.size el size kind) b i x K → wpOp P l.toArray Q i K b x)
  (hlast : ∀ (b : Act) (x : World), Fr l.toArray m a b → Below w.heap.size w x →
   (∀ j d, j < m → dstOf l.toArray j = some d → (∀ i, i < m → own j ≠ some i) → KF w.heap.size el size x (T b d) (kind j)) → wpList P l.toArray Q (l.drop m) b x) :
  (Code.region id l.toArray true).wp P Q a w := by
 simp only [Bool.and_eq_true] at hfit
 obtain ⟨⟨h1, h2⟩, h3⟩ := hfit
 have hml : m ≤ l.length := by
  unfold fitB at h1
  simp only [Bool.and_eq_true, decide_eq_true_eq] at h1
  simpa using h1.1.1.1
 refine region (specOf w.heap.size el size kind) hm h1 ?_ ?_ ?_ ?_ ?_ ?_
 ·intro i d hi hd
  unfold ltB at h3
  have := List.all_eq_true.1 h3 i (List.mem_range.2 hi)
  rw [hd] at this
  rw [hn]
  simpa using this
 ·intro j i hj hi ho
  have ho' : own j = some i := by rw [← hkind j hj]; exact ho
  unfold ownB at h2
  have := List.all_eq_true.1 h2 j (List.mem_range.2 hj)
  rw [ho'] at this
  simp only [Bool.or_eq_true, decide_eq_true_eq] at this
  rcases this with h | h
  ·omega
  ·exact h
 ·intro i x y v row hi hF hg hne hrow
  show KF _ _ _ y v (kind i)
  replace hF : KF w.heap.size el size x v (kind i) := hF
  replace hne : Kown (kind i) ≠ none → v.ownBlock = none ∨ v.ownBlock ≠ row := hne
  cases hk : kind i with
  | inl u => rw [hk] at hF; exact hF
  | inr k =>
  cases k with
  | inl r =>
   rw [hk] at hF hne
   exact World.ownsRow.kept hF hg (hne (by simp [Kown]))
  | inr p =>
   rw [hk] at hF
   obtain ⟨hno, hst⟩ := hfact i p hi hk
   cases row with
   | none => exact hst x y v hF ⟨hg.os, hg.tape, hg.output, hg.size, fun k hk => hg.block k hk (by simp)⟩
   | some g =>
    obtain ⟨_, j, hj, ho⟩ := hrow g rfl
    exact absurd ((hkind j hj).trans (hno j hj)) ho
 ·intro i x v hi hF ho g hg
  replace hF : KF w.heap.size el size x v (kind i) := hF
  replace ho : Kown (kind i) ≠ none := ho
  cases hk : kind i with
  | inl u => rw [hk] at ho; exact absurd rfl ho
  | inr k =>
   cases k with
   | inl r => rw [hk] at hF; exact World.ownsRow.lt hF g hg
   | inr p => rw [hk] at ho; exact absurd rfl ho
 ·intro i hi b x hfr hb hD hO K hK
  exact hstep i hi b x hfr hb (fun j d hj hd hw ho => hD j d hj hd hw (by
   show Kown (kind j) = none ∨ Kown (kind j) = some i
   rw [hkind j hj]; exact ho)) hO K hK
 ·intro b x hfr hb hD
  have := hlast b x hfr hb fun j d hj hd ho => hD j d hj hd fun i hi => (by
   show Kown (kind j) ≠ some i
   rw [hkind j hj]; exact ho i hi)
  rw [← wpOps_eq_wpList (ops := l.toArray) (l.drop m) m (fun j => by simp [List.getElem?_drop])] at this
  simpa using this
end Go.RegionOwn
