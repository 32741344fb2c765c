/- Several texts in one: RegionFact, RegionOwnIn. -/
import Derived.Test.YtnbhchdaobimmaaGreatDoorRegionAll
import Derived.Test.YtnbhchdaobimmaaGreatDoorRunAS
/- A region that draws its order: each operation leaves a value of which a fact is told; the facts stand while the world goes on as it may. Inside a round too; of no program. -/
namespace Go.RegionFact
open Go.RowKit Go.RegionOwn
variable {P : Program} {ops : Array Oper} {Q : Exit → Act → World → Prop} {a : Act}
structure Inv (ops : Array Oper) (F : Nat → World → Value → Prop) (C : World → Prop) (a : Act) (listed : Array Bool) (b : Act) (x : World) : Prop where
 size : listed.size = ops.size
 fr : Fr ops ops.size a b
 cls : C x
 fact : ∀ i d, i < ops.size → dstOf ops i = some d → On listed i → F i x (T b d)
theorem dst_lt {i d : Nat} (h : dstOf ops i = some d) : i < ops.size := by
 unfold dstOf at h
 cases ho : ops[i]? with
 | none => rw [ho] at h; cases h
 | some o => exact (Array.getElem?_eq_some_iff.1 ho).1
/-- Edges lead back; no two operations write one slot; each slot is there. -/
def fit (ops : Array Oper) (n : Nat) : Bool := backB ops && dstB ops ops.size && (List.range ops.size).all fun i => match dstOf ops i with | some d => decide (d < n) | none => true
theorem any (F : Nat → World → Value → Prop) (R : World → World → Prop) (C : World → Prop) (hfit : fit ops a.tmps.size = true) (hF : ∀ i x y v, F i x v → R x y → F i y v)
  (hstep : ∀ i, i < ops.size → ∀ (b : Act) (x : World), Fr ops ops.size a b → C x → (∀ j d, dstOf ops j = some d → waits ops i j = true → F j x (T b d)) → ∀ K : Act → World → Prop, (∀ v y, R x y → C y → F i y v → K (b.put (dstOf ops i) v) y) → wpOp P ops Q i K b x)
  (hdone : ∀ (b : Act) (x : World), Fr ops ops.size a b → C x → (∀ j d, dstOf ops j = some d → F j x (T b d)) → Q .normal b x) {x0 : World} (h0 : C x0) (fuel : Nat) (hfu : ops.size ≤ fuel) :
  wpAny P .any ops Q fuel (Array.replicate ops.size false) a x0 := by
 unfold fit at hfit
 simp only [Bool.and_eq_true] at hfit
 obtain ⟨⟨hback, hdist⟩, hsz⟩ := hfit
 have hne : ∀ i j d e, i < ops.size → j < ops.size → i ≠ j → dstOf ops i = some d → dstOf ops j = some e → d ≠ e := fun i j d e hi hj hij h1 h2 hde => by
  unfold dstB at hdist
  have := List.all_eq_true.1 (List.all_eq_true.1 hdist i (List.mem_range.2 hi)) j (List.mem_range.2 hj)
  rw [h1, h2, hde] at this
  simp [hij] at this
 have hlt : ∀ i d, i < ops.size → dstOf ops i = some d → d < a.tmps.size := fun i d hi hd => by
  have := List.all_eq_true.1 hsz i (List.mem_range.2 hi)
  rw [hd] at this
  simpa using this
 refine RegionInv.any_of_inv (Inv ops F C a) ?_ ?_ fuel _ a x0 ?_ ⟨by simp, ⟨rfl, rfl, fun _ _ => rfl⟩, h0, fun i d _ _ h => ?_⟩
 ·intro listed b x i I hr
  have hiN := ready_lt hr
  have hil : i < listed.size := by rw [I.size]; exact hiN
  refine hstep i hiN b x I.fr I.cls (fun j d hd hw => I.fact j d (dst_lt hd) hd (ready_waits hr hw)) _ fun v y hR hC hFi => ?_
  refine ⟨by simp [I.size], I.fr.put hiN v, hC, fun l d hl hd hon => ?_⟩
  by_cases hli : l = i
  ·subst hli
   have : T (b.put (dstOf ops l) v) d = v := by rw [hd]; exact T_put_eq (by rw [I.fr.size]; exact hlt l d hl hd)
   rw [this]
   exact hFi
  ·have : T (b.put (dstOf ops i) v) d = T b d := by
    cases hdi : dstOf ops i with
    | none => rfl
    | some e => exact T_put_ne (hne l i d e hl hiN hli hd hdi)
   rw [this]
   exact hF l x y _ (I.fact l d hl hd (((on_set hil).1 hon).resolve_right hli)) hR
 ·intro listed b x I hr
  exact hdone b x I.fr I.cls fun j d hd => I.fact j d (dst_lt hd) hd (all_on hback I.size hr j (dst_lt hd))
 ·unfold RegionInv.left
  exact Nat.le_trans (List.length_filter_le _ _) (by simpa using hfu)
 ·simp [On, Array.getD_eq_getD_getElem?, Array.getElem?_replicate] at h
  split at h <;> simp at h
/-- The region, inside a round of a loop that goes over a function. -/
theorem regionIn {id n r : Nat} {l : List Oper} {w : World} (F : Nat → World → Value → Prop) (R : World → World → Prop) (C : World → Prop) (hm : P.follows .mixedOrders = true) (hd : (l.all fun o => match o.op with | .defer _ => false | _ => true) = true) (hfit : fit l.toArray a.tmps.size = true) (hF : ∀ i x y v, F i x v → R x y → F i y v)
  (h0 : C w.drew)
  (hstep : ∀ i, i < l.toArray.size → ∀ (b : Act) (x : World), Fr l.toArray l.toArray.size a b → C x → (∀ j d, dstOf l.toArray j = some d → waits l.toArray i j = true → F j x (T b d)) → ∀ K : Act → World → Prop, (∀ v y, R x y → C y → F i y v → K (b.put (dstOf l.toArray i) v) y) → wpOp P l.toArray (RoundR.Only fun a w => Q .normal a w) i K b x)
  (hdone : ∀ (b : Act) (x : World), Fr l.toArray l.toArray.size a b → C x → (∀ j d, dstOf l.toArray j = some d → F j x (T b d)) → Q .normal b x) : (Code.region id l.toArray true).wpIn (Fence.wide.inRound r) n P Q a w := by
 refine wpIn_region_any hm ?_
 refine RoundR.any_round (R := fun a w => Q .normal a w) (fun i o ho c e => ?_) (fun _ _ h => h) _ _ _ _ (any F R C hfit hF hstep hdone h0 _ (by simp))
 have hmem : o ∈ l := List.mem_of_getElem? (i := i) (by simpa using ho)
 have := List.all_eq_true.1 hd o hmem
 rw [e] at this
 cases this
variable {b : Act} {x : World} {i : Nat} {K : Act → World → Prop} {o : Oper}
theorem wpOp_skip {y : World} (ho : ops[i]? = some o) (hg : o.guard = none) (hr : (execOp b.eval o).run P x = .ok .skip y) (h : K (b.put (dstOf ops i) undef) y) : wpOp P ops Q i K b x := by
 rw [dst_of ho] at h
 unfold wpOp
 simp only [ho]
 rw [if_pos (by simp [Region.wanted, hg])]
 left
 unfold Oper.wp
 rw [hr]
 exact h
theorem wpOp_call {f : FuncId} {args : Array Value} (ho : ops[i]? = some o) (hg : o.guard = none) (hr : (execOp b.eval o).run P x = .ok (.enter f args) x)
  (hc : Calls P f args x fun e y => ∃ v, e = .returned v ∧ K (b.put (dstOf ops i) v) y) : wpOp P ops Q i K b x := by
 unfold wpOp
 simp only [ho]
 rw [if_pos (by simp [Region.wanted, hg])]
 left
 unfold Oper.wp
 rw [hr]
 refine Calls.mono hc ?_
 rintro e y ⟨v, rfl, hk⟩
 rw [dst_of ho] at hk
 exact hk
theorem run_store {ty : TypeId} {p q : Operand} (ho : o.op = .store ty p q) (g : Nat) (cells old : Array Value) (hx : b.eval p = .pointer (some ⟨g, 0, none⟩)) (hy : b.eval q = .agg cells) (t : TypeId) (hg : x.heap[g]? = some (.cells old t (0, 0))) (hi : (P.info? ty).map (·.size) = some cells.size) (hs : old.size = cells.size) (h1 : cells.all (·.oneCell') = true) :
  (execOp b.eval o).run P x = .ok .skip (x.setRow g cells) := by
 unfold execOp
 simp only [ho, hx, hy, Instr.storeAt, Instr.sureAddr, Sem.run_bind, Sem.run_pure, Result.andThen_ok, run_storeVar_row x g t ty old cells hg hi hs h1]
theorem run_load {ty : TypeId} {p : Operand} (ho : o.op = .load ty p) (g : Nat) (cs : Array Value) (hx : b.eval p = .pointer (some ⟨g, 0, none⟩)) (t : TypeId) (fr : Nat × Nat) (d : TypeDesc) (hg : x.heap[g]? = some (.cells cs t fr)) (hu : P.underlying ty = some d) (hd : (match d with | .struct _ | .array _ _ => true | _ => false) = true) (hi : (P.info? ty).map (·.size) = some cs.size) :
  (execOp b.eval o).run P x = .ok (.value (.agg cs)) x := by
 unfold execOp
 simp only [ho, hx, Instr.loadAt, Instr.sureAddr, Sem.run_bind, Sem.run_pure, Result.andThen_ok, run_loadVar_row x g t ty cs fr d hg hu hd hi]
end Go.RegionFact
/- A region told by RegionOwn, inside a round of a loop that goes over a function; laid by tools/mkowin.py; of no program. -/
namespace Go.RegionOwn
open Go.RowKit
variable {P : Program} {ops : Array Oper} {Q : Exit → Act → World → Prop}
theorem anyFrom {a : Act} {w : World} (Inv : Array Bool → Act → World → Prop)
  (h0 : Inv (Array.replicate ops.size false) a { w with drawn := w.drawn + 1 })
  (hstep : ∀ listed a w i, Inv listed a w → i ∈ Region.ready .any ops listed → wpOp P ops Q i (fun a' w' => Inv (listed.setIfInBounds i true) a' w') a w)
  (hdone : ∀ listed a w, Inv listed a w → Region.ready .any ops listed = [] → Q .normal a w) : wpAny P .any ops Q ops.size (Array.replicate ops.size false) a { w with drawn := w.drawn + 1 } := by
 refine RegionInv.any_of_inv Inv hstep hdone _ _ _ _ ?_ h0
 unfold RegionInv.left
 exact Nat.le_trans (List.length_filter_le _ _) (by simp)
/-- The region. -/
theorem anyOwn {m : Nat} {a : Act} {w : World} (sp : Spec) (hfit : fitB ops m = true)
  (hdst : ∀ i d, i < m → dstOf ops i = some d → d < a.tmps.size)
  (hown : ∀ j i, j < m → i < m → sp.own j = some i → waits ops i j = true)
  (hF : ∀ i x y v row, i < m → sp.F i x v → x.grownBy y row → (sp.own i ≠ none → v.ownBlock = none ∨ v.ownBlock ≠ row) → (∀ g, row = some g → w.heap.size ≤ g ∧ ∃ j, j < m ∧ sp.own j ≠ none) → sp.F i y v)
  (hlt : ∀ i x v, i < m → sp.F i x v → sp.own i ≠ none → ∀ g, v.ownBlock = some g → w.heap.size ≤ g ∧ g < x.heap.size)
  (hstep : ∀ i, i < m → ∀ (b : Act) (x : World), Fr ops m a b → Below w.heap.size w x →
   (∀ j d, j < m → dstOf ops j = some d → waits ops i j = true → (sp.own j = none ∨ sp.own j = some i) → sp.F j x (T b d)) →
   (∀ j d, j < m → dstOf ops j = some d → waits ops j i = true → T b d = T a d) →
   ∀ K : Act → World → Prop, (∀ v y row, x.grownBy y row → (∀ g, row = some g → Mine ops m sp b i g) → sp.F i y v → (sp.own i ≠ none → ∀ g, v.ownBlock = some g → x.heap.size ≤ g ∨ Mine ops m sp b i g) → K (b.put (dstOf ops i) v) y) → wpOp P ops Q i K b x)
  (hlast : ∀ (b : Act) (x : World), Fr ops m a b → Below w.heap.size w x →
   (∀ j d, j < m → dstOf ops j = some d → (∀ i, i < m → sp.own j ≠ some i) → sp.F j x (T b d)) → wpOps P ops Q (List.range' m (ops.size - m)) b x) :
  wpAny P .any ops Q ops.size (Array.replicate ops.size false) a { w with drawn := w.drawn + 1 } := by
 unfold fitB at hfit
 simp only [Bool.and_eq_true, decide_eq_true_eq] at hfit
 obtain ⟨⟨⟨hmN, hback⟩, htail⟩, hdist⟩ := hfit
 have hwt : ∀ i j, m ≤ i → i < ops.size → j < i → reachB ops ops.size i j = true := fun i j h1 h2 h3 => by
  unfold tailB at htail
  have := List.all_eq_true.1 htail i (by rw [List.mem_range']; exact ⟨i - m, by omega, by omega⟩)
  exact List.all_eq_true.1 this j (List.mem_range.2 h3)
 have hlow : ∀ i j, waits ops i j = true → j < i := fun i j hw => by
  unfold waits at hw
  cases ho : ops[i]? with
  | none => rw [ho] at hw; cases hw
  | some o =>
   rw [ho] at hw
   simp only [Array.any_eq_true', Bool.and_eq_true, beq_iff_eq] at hw
   obtain ⟨e, he, hb, rfl⟩ := hw
   unfold backB at hback
   have h1 := List.all_eq_true.1 hback i (List.mem_range.2 (Array.getElem?_eq_some_iff.1 ho).1)
   rw [ho] at h1
   simp only [Array.all_eq_true_iff_forall_mem] at h1
   have h2 := h1 e he
   simpa [hb] using h2
 have hne : ∀ i j d e, i < m → j < m → i ≠ j → dstOf ops i = some d → dstOf ops j = some e → d ≠ e := fun i j d e hi hj hij h1 h2 hde => by
  unfold dstB at hdist
  have := List.all_eq_true.1 (List.all_eq_true.1 hdist i (List.mem_range.2 hi)) j (List.mem_range.2 hj)
  rw [h1, h2, hde] at this
  simp [hij] at this
 refine anyFrom (fun listed b x => Inv ops m sp a w listed b x ∨ ∃ t, m < t ∧ t ≤ ops.size ∧ listed.size = ops.size ∧ (∀ i, i < ops.size → (On listed i ↔ i < t)) ∧ wpOps P ops Q (List.range' t (ops.size - t)) b x) ?_ ?_ ?_
 ·refine .inl ⟨by simp, fun i _ h => ?_, fun i j h => ?_, ⟨rfl, rfl, fun _ _ => rfl⟩, ⟨rfl, rfl, rfl, Nat.le_refl _, fun _ _ => rfl⟩, fun i d _ _ h => ?_, fun i j d e _ _ _ _ _ h => ?_, fun _ _ _ _ _ => rfl⟩
  ·simp [On, Array.getD_eq_getD_getElem?, Array.getElem?_replicate] at h
   split at h <;> simp at h
  ·simp [On, Array.getD_eq_getD_getElem?, Array.getElem?_replicate] at h
   split at h <;> simp at h
  ·have := h.1
   simp [On, Array.getD_eq_getD_getElem?, Array.getElem?_replicate] at this
   split at this <;> simp at this
  ·have := h.1
   simp [On, Array.getD_eq_getD_getElem?, Array.getElem?_replicate] at this
   split at this <;> simp at this
 ·intro listed b x i hI hr
  have hiN := ready_lt hr
  have hun := (mem_ready.1 hr).1
  rcases hI with I | ⟨t, h1, h2, hsz, hon, hw⟩
  ·have hil : i < listed.size := by rw [I.size]; exact hiN
   have hnot := (not_on hil).2 hun
   by_cases him : i < m
   ·refine hstep i him b x I.fr I.below (fun j d hj hd hwj ho => ?_) (fun j d hj hd hwj => I.old j d hj hd fun hon => hnot (I.closed j i hon hwj)) _ fun v y row hg hrow hFi hv => ?_
    ·refine I.fact j d hj hd ⟨ready_waits hr hwj, fun c hc => ?_⟩
     rcases ho with ho | ho
     ·rw [ho] at hc; cases hc
     ·rw [ho] at hc; cases hc; exact hnot
    ·have hmine : ∀ g, Mine ops m sp b i g → w.heap.size ≤ g ∧ g < x.heap.size ∧ ∃ j d, j < m ∧ dstOf ops j = some d ∧ sp.own j = some i ∧ (T b d).ownBlock = some g ∧ Live sp listed j := fun g ⟨j, d, hj, hd, ho, hb⟩ => by
      have hl : Live sp listed j := ⟨ready_waits hr (hown j i hj him ho), fun c hc => by rw [ho] at hc; cases hc; exact hnot⟩
      have := hlt j x _ hj (I.fact j d hj hd hl) (by rw [ho]; simp) g hb
      exact ⟨this.1, this.2, j, d, hj, hd, ho, hb, hl⟩
     have hlive : ∀ l, l ≠ i → Live sp (listed.setIfInBounds i true) l → Live sp listed l ∧ sp.own l ≠ some i := fun l hli ⟨h1, h2⟩ => by
      refine ⟨⟨((on_set hil).1 h1).resolve_right hli, fun c hc hcn => h2 c hc ((on_set hil).2 (.inl hcn))⟩, fun ho => h2 i ho ((on_set hil).2 (.inr rfl))⟩
     have hTi : ∀ d, dstOf ops i = some d → T (b.put (dstOf ops i) v) d = v := fun d hd => by
      rw [hd]; exact T_put_eq (by rw [I.fr.size]; exact hdst i d him hd)
     have hTo : ∀ l d, l < m → l ≠ i → dstOf ops l = some d → T (b.put (dstOf ops i) v) d = T b d := fun l d hl hli hd => by
      cases hdi : dstOf ops i with
      | none => rfl
      | some e => exact T_put_ne (hne l i d e hl him hli hd hdi)
     have hother : ∀ l d, l < m → l ≠ i → dstOf ops l = some d → Live sp (listed.setIfInBounds i true) l → sp.own l ≠ none → ∀ g, Mine ops m sp b i g → (T b d).ownBlock ≠ some g := fun l d hl hli hd hlv ho g hg => by
      obtain ⟨_, _, j, e, hj, he, hoj, hbj, hlj⟩ := hmine g hg
      obtain ⟨hlv', hnl⟩ := hlive l hli hlv
      have hlj' : l ≠ j := fun e' => hnl (by rw [e', hoj])
      rcases I.apart l j d e hl hj hlj' hd he hlv' hlj ho (by rw [hoj]; simp) with h' | h'
      ·rw [h']; simp
      ·rw [hbj] at h'; exact h'
     refine .inl ⟨by simp [I.size], fun l hl hon => ?_, fun l k hon hw => ?_, I.fr.put him v, ?_, fun l d hl hd hlv => ?_, ?_, fun l d hl hd hno => (hTo l d hl (fun e => hno ((on_set hil).2 (.inr e))) hd).trans (I.old l d hl hd fun hon => hno ((on_set hil).2 (.inl hon)))⟩
     ·rcases (on_set hil).1 hon with h' | h'
      ·exact I.few l hl h'
      ·omega
     ·rcases (on_set hil).1 hon with h' | h'
      ·exact (on_set hil).2 (.inl (I.closed l k h' hw))
      ·subst h'
       exact (on_set hil).2 (.inl (ready_waits hr hw))
     ·exact I.below.grown hg I.below.size (fun k hk => (hmine k (hrow k hk)).1)
     ·by_cases hli : l = i
      ·subst hli
       rw [hTi d hd]
       exact hFi
      ·rw [hTo l d hl hli hd]
       refine hF l x y _ row hl (I.fact l d hl hd (hlive l hli hlv).1) hg (fun ho => ?_) fun g hg' => ?_
       ·cases row with
        | none => cases (T b d).ownBlock with
         | none => exact .inl rfl
         | some _ => exact .inr (by simp)
        | some g => exact .inr (hother l d hl hli hd hlv ho g (hrow g rfl))
       ·obtain ⟨h1, _, j, _, hj, _, ho, _⟩ := hmine g (hrow g hg')
        exact ⟨h1, j, hj, by rw [ho]; simp⟩
     ·have half : ∀ l d e, l < m → l ≠ i → dstOf ops i = some d → dstOf ops l = some e → Live sp (listed.setIfInBounds i true) l → sp.own i ≠ none → sp.own l ≠ none → v.ownBlock = none ∨ v.ownBlock ≠ (T b e).ownBlock := fun l d e hl hli hd he hlv hoi hol => by
       cases hv' : v.ownBlock with
       | none => exact .inl rfl
       | some g =>
        refine .inr fun hcl => ?_
        rcases hv hoi g hv' with h' | h'
        ·have := (hlt l x _ hl (I.fact l e hl he (hlive l hli hlv).1) hol g hcl.symm).2
         omega
        ·exact hother l e hl hli he hlv hol g h' hcl.symm
      intro l k d e hl hk hlk hd he hlv hkv hol hok
      by_cases hli : l = i
      ·subst hli
       rw [hTi d hd, hTo k e hk (Ne.symm hlk) he]
       exact half k d e hk (Ne.symm hlk) hd he hkv hol hok
      ·by_cases hki : k = i
       ·subst hki
        rw [hTi e he, hTo l d hl hli hd]
        rcases half l e d hl hli he hd hlv hok hol with h' | h'
        ·rw [h']
         cases (T b d).ownBlock with
         | none => exact .inl rfl
         | some _ => exact .inr (by simp)
        ·exact .inr (Ne.symm h')
       ·rw [hTo l d hl hli hd, hTo k e hk hki he]
        exact I.apart l k d e hl hk hlk hd he (hlive l hli hlv).1 (hlive k hki hkv).1 hol hok
   ·have hall : ∀ j, j < i → On listed j := fun j hj => reach_on I.closed _ i j (fun k hk => ready_waits hr hk) (hwt i j (by omega) hiN hj)
    have him' : i = m := by
     rcases Nat.lt_or_ge m i with h' | h'
     ·exact absurd (hall m h') (I.few m (Nat.le_refl _))
     ·omega
    subst him'
    have H := hlast b x I.fr I.below fun j d hj hd ho => I.fact j d hj hd ⟨hall j hj, fun c hc hcn => (by
     rcases Nat.lt_or_ge c i with h' | h'
     ·exact ho c h' hc
     ·exact I.few c h' hcn)⟩
    rw [show ops.size - i = (ops.size - (i + 1)) + 1 from by omega, List.range'_succ, wpOps_cons] at H
    refine wpOp_mono (fun b' x' h' => .inr ⟨i + 1, by omega, by omega, by simp [I.size], fun j hj => ?_, h'⟩) H
    rw [on_set hil]
    constructor
    ·rintro (h' | h')
     ·rcases Nat.lt_or_ge j i with h'' | h''
      ·omega
      ·exact absurd h' (I.few j h'')
     ·omega
    ·intro h'
     rcases Nat.lt_or_ge j i with h'' | h''
     ·exact .inl (hall j h'')
     ·exact .inr (by omega)
  ·have hil : i < listed.size := by rw [hsz]; exact hiN
   have hnot := (not_on hil).2 hun
   have hit : t ≤ i := Nat.le_of_not_lt fun h' => hnot ((hon i hiN).2 h')
   have hit' : i = t := by
    rcases Nat.lt_or_ge t i with h' | h'
    ·have hcl : ∀ a b, On listed a → waits ops a b = true → On listed b := fun a b ha hw => by
      have ha' : a < ops.size := by
       rcases Nat.lt_or_ge a ops.size with h'' | h''
       ·exact h''
       ·unfold On at ha
        rw [Array.getD_eq_getD_getElem?, Array.getElem?_eq_none (by omega)] at ha
        cases ha
      have h1 := (hon a ha').1 ha
      have h2 := hlow a b hw
      exact (hon b (by omega)).2 (by omega)
     have := (hon t (by omega)).1 (reach_on hcl _ i t (fun k hk => ready_waits hr hk) (hwt i t (by omega) hiN h'))
     omega
    ·omega
   subst hit'
   rw [show ops.size - i = (ops.size - (i + 1)) + 1 from by omega, List.range'_succ, wpOps_cons] at hw
   refine wpOp_mono (fun b' x' h' => .inr ⟨i + 1, by omega, by omega, by simp [hsz], fun j hj => ?_, h'⟩) hw
   rw [on_set hil, hon j hj]
   omega
 ·intro listed b x hI hr
  rcases hI with I | ⟨t, h1, h2, hsz, hon, hw⟩
  ·rcases Nat.lt_or_ge m ops.size with h' | h'
   ·exact absurd (all_on hback I.size hr m h') (I.few m (Nat.le_refl _))
   ·have H := hlast b x I.fr I.below fun j d hj hd ho => I.fact j d hj hd ⟨all_on hback I.size hr j (by omega), fun c hc hcn => (by
     rcases Nat.lt_or_ge c m with h'' | h''
     ·exact ho c h'' hc
     ·exact I.few c h'' hcn)⟩
    rw [show ops.size - m = 0 from by omega] at H
    exact H
  ·have : t = ops.size := by
    rcases Nat.lt_or_ge t ops.size with h' | h'
    ·have := (hon t h').1 (all_on hback hsz hr t h')
     omega
    ·omega
   subst this
   rw [Nat.sub_self] at hw
   exact hw
/-- The region, told by kinds. -/
theorem regionKIn {id N r : Nat} {l : List Oper} {R : Act → World → Prop} {Q' : Exit → Act → World → Prop} {a : Act} {w : World} (hR : ∀ a w, R a w → Q' .normal a w) (hdf : (l.all fun o => match o.op with | .defer _ => false | _ => true) = true) (m n el size : Nat) (kind : Nat → Kd) (own : Nat → Option Nat) (hkind : ∀ i, i < m → Kown (kind i) = own i) (hm : P.follows .mixedOrders = true) (hn : a.tmps.size = n)
  (hfit : (fitB l.toArray m && ownB l.toArray m own && ltB l.toArray m n) = true)
  (hfact : ∀ i p, i < m → kind i = fact p → (∀ j, j < m → own j = none) ∧ ∀ x y v, p x v → Below x.heap.size x y → p y v)
  (hstep : ∀ i, i < m → ∀ (b : Act) (x : World), Fr l.toArray m a b → Below w.heap.size w x →
   (∀ j d, j < m → dstOf l.toArray j = some d → waits l.toArray i j = true → (own j = none ∨ own j = some i) → KF w.heap.size el size x (T b d) (kind j)) →
   (∀ j d, j < m → dstOf l.toArray j = some d → waits l.toArray j i = true → T b d = T a d) →
   ∀ K : Act → World → Prop, Then l.toArray m (specOf w.heap.size el size kind) b i x K → wpOp P l.toArray (RoundR.Only R) i K b x)
  (hlast : ∀ (b : Act) (x : World), Fr l.toArray m a b → Below w.heap.size w x →
   (∀ j d, j < m → dstOf l.toArray j = some d → (∀ i, i < m → own j ≠ some i) → KF w.heap.size el size x (T b d) (kind j)) → wpList P l.toArray (RoundR.Only R) (l.drop m) b x) :
  (Code.region id l.toArray true).wpIn (Fence.wide.inRound r) N P Q' a w := by
 simp only [Bool.and_eq_true] at hfit
 obtain ⟨⟨h1, h2⟩, h3⟩ := hfit
 have hml : m ≤ l.length := by
  unfold fitB at h1
  simp only [Bool.and_eq_true, decide_eq_true_eq] at h1
  simpa using h1.1.1.1
 refine wpIn_region_any hm ?_
 refine RoundR.any_round (R := R) (fun i o ho c e => ?_) hR _ _ _ _ ?_
 ·have hmem : o ∈ l := List.mem_of_getElem? (i := i) (by simpa using ho)
  have := List.all_eq_true.1 hdf o hmem
  rw [e] at this
  cases this
 refine anyOwn (specOf w.heap.size el size kind) h1 ?_ ?_ ?_ ?_ ?_ ?_
 ·intro i d hi hd
  unfold ltB at h3
  have := List.all_eq_true.1 h3 i (List.mem_range.2 hi)
  rw [hd] at this
  rw [hn]
  simpa using this
 ·intro j i hj hi ho
  have ho' : own j = some i := by rw [← hkind j hj]; exact ho
  unfold ownB at h2
  have := List.all_eq_true.1 h2 j (List.mem_range.2 hj)
  rw [ho'] at this
  simp only [Bool.or_eq_true, decide_eq_true_eq] at this
  rcases this with h | h
  ·omega
  ·exact h
 ·intro i x y v row hi hF hg hne hrow
  show KF _ _ _ y v (kind i)
  replace hF : KF w.heap.size el size x v (kind i) := hF
  replace hne : Kown (kind i) ≠ none → v.ownBlock = none ∨ v.ownBlock ≠ row := hne
  cases hk : kind i with
  | inl u => rw [hk] at hF; exact hF
  | inr k =>
  cases k with
  | inl r =>
   rw [hk] at hF hne
   exact World.ownsRow.kept hF hg (hne (by simp [Kown]))
  | inr p =>
   rw [hk] at hF
   obtain ⟨hno, hst⟩ := hfact i p hi hk
   cases row with
   | none => exact hst x y v hF ⟨hg.os, hg.tape, hg.output, hg.size, fun k hk => hg.block k hk (by simp)⟩
   | some g =>
    obtain ⟨_, j, hj, ho⟩ := hrow g rfl
    exact absurd ((hkind j hj).trans (hno j hj)) ho
 ·intro i x v hi hF ho g hg
  replace hF : KF w.heap.size el size x v (kind i) := hF
  replace ho : Kown (kind i) ≠ none := ho
  cases hk : kind i with
  | inl u => rw [hk] at ho; exact absurd rfl ho
  | inr k =>
   cases k with
   | inl r => rw [hk] at hF; exact World.ownsRow.lt hF g hg
   | inr p => rw [hk] at ho; exact absurd rfl ho
 ·intro i hi b x hfr hb hD hO K hK
  exact hstep i hi b x hfr hb (fun j d hj hd hw ho => hD j d hj hd hw (by
   show Kown (kind j) = none ∨ Kown (kind j) = some i
   rw [hkind j hj]; exact ho)) hO K hK
 ·intro b x hfr hb hD
  have := hlast b x hfr hb fun j d hj hd ho => hD j d hj hd fun i hi => (by
   show Kown (kind j) ≠ some i
   rw [hkind j hj]; exact ho i hi)
  rw [← wpOps_eq_wpList (ops := l.toArray) (l.drop m) m (fun j => by simp [List.getElem?_drop])] at this
  simpa using this
end Go.RegionOwn
