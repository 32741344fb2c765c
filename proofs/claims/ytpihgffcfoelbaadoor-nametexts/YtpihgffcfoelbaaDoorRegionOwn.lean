/- A region that draws its order: each operation leaves a value of which a fact is told; some own the block of their slice until another operation takes it; the last operations come in their order; of no program. -/
import Derived.Test.YtpihgffcfoelbaaDoorRegionInv
import Derived.Laws.AppendOwn
import Derived.Below
import Derived.Tactics
namespace Go.RegionOwn
open Go.RowKit
variable {P : Program} {ops : Array Oper} {Q : Exit → Act → World → Prop}
def T (a : Act) (k : Nat) : Value := a.tmps.getD k undef
def On (listed : Array Bool) (i : Nat) : Prop := listed.getD i false = true
def waits (ops : Array Oper) (i j : Nat) : Bool := match ops[i]? with | some o => o.after.any fun e => Region.binds .any e && e.on == j | none => false
def dstOf (ops : Array Oper) (i : Nat) : Option Nat := (ops[i]?).bind (·.dst)
structure Spec where
  F : Nat → World → Value → Prop
  own : Nat → Option Nat
def backB (ops : Array Oper) : Bool := (List.range ops.size).all fun i => match ops[i]? with | some o => o.after.all fun e => !Region.binds .any e || decide (e.on < i) | none => true
/-- Does one wait for another, through others? -/
def reachB (ops : Array Oper) : Nat → Nat → Nat → Bool
  | 0, i, j => waits ops i j
  | f + 1, i, j => waits ops i j || (List.range i).any fun k => waits ops i k && reachB ops f k j
def tailB (ops : Array Oper) (m : Nat) : Bool := (List.range' m (ops.size - m)).all fun i => (List.range i).all fun j => reachB ops ops.size i j
theorem reach_on {listed : Array Bool} (hc : ∀ i j, On listed i → waits ops i j = true → On listed j) : ∀ f i j, (∀ k, waits ops i k = true → On listed k) → reachB ops f i j = true → On listed j
  | 0, i, j, hi, h => hi j h
  | f + 1, i, j, hi, h => by
    unfold reachB at h
    rw [Bool.or_eq_true] at h
    rcases h with h | h
    · exact hi j h
    · obtain ⟨k, _, hk⟩ := List.any_eq_true.1 h
      rw [Bool.and_eq_true] at hk
      exact reach_on hc f k j (fun l hl => hc k l (hi k hk.1) hl) hk.2
def dstB (ops : Array Oper) (m : Nat) : Bool := (List.range m).all fun i => (List.range m).all fun j => i == j || dstOf ops i == none || dstOf ops i != dstOf ops j
/-- Edges lead back; the operations from m on come in their order, behind all others; no two of the others write one slot. -/
def fitB (ops : Array Oper) (m : Nat) : Bool := decide (m ≤ ops.size) && backB ops && tailB ops m && dstB ops m
structure Fr (ops : Array Oper) (m : Nat) (a b : Act) : Prop where
  size : b.tmps.size = a.tmps.size
  defers : b.defers = a.defers
  others : ∀ k, (∀ i, i < m → dstOf ops i ≠ some k) → T b k = T a k
def Live (sp : Spec) (listed : Array Bool) (i : Nat) : Prop := On listed i ∧ ∀ c, sp.own i = some c → ¬ On listed c
structure Inv (ops : Array Oper) (m : Nat) (sp : Spec) (a : Act) (w : World) (listed : Array Bool) (b : Act) (x : World) : Prop where
  size : listed.size = ops.size
  few : ∀ i, m ≤ i → ¬ On listed i
  closed : ∀ i j, On listed i → waits ops i j = true → On listed j
  fr : Fr ops m a b
  below : Below w.heap.size w x
  fact : ∀ i d, i < m → dstOf ops i = some d → Live sp listed i → sp.F i x (T b d)
  apart : ∀ i j d e, i < m → j < m → i ≠ j → dstOf ops i = some d → dstOf ops j = some e → Live sp listed i → Live sp listed j → sp.own i ≠ none → sp.own j ≠ none → (T b d).ownBlock = none ∨ (T b d).ownBlock ≠ (T b e).ownBlock
  old : ∀ i d, i < m → dstOf ops i = some d → ¬ On listed i → T b d = T a d
/-- The block g is one that operation i takes. -/
def Mine (ops : Array Oper) (m : Nat) (sp : Spec) (b : Act) (i g : Nat) : Prop := ∃ j d, j < m ∧ dstOf ops j = some d ∧ sp.own j = some i ∧ (T b d).ownBlock = some g
theorem on_set {listed : Array Bool} {i j : Nat} (hi : i < listed.size) : On (listed.setIfInBounds i true) j ↔ On listed j ∨ j = i := by
  unfold On
  by_cases e : j = i
  · subst e
    simp [Array.getD_eq_getD_getElem?, hi]
  · rw [Array.getD_eq_getD_getElem?, Array.getElem?_setIfInBounds_ne (Ne.symm e), ← Array.getD_eq_getD_getElem?]
    simp [e]
theorem not_on {listed : Array Bool} {i : Nat} (hi : i < listed.size) : ¬ On listed i ↔ listed.getD i true = false := by
  unfold On
  rw [Array.getD_eq_getD_getElem?, Array.getD_eq_getD_getElem?, Array.getElem?_eq_getElem hi]
  simp
theorem ready_waits {listed : Array Bool} {i j : Nat} (h : i ∈ Region.ready .any ops listed) (hw : waits ops i j = true) : On listed j := by
  obtain ⟨_, o, ho, hall⟩ := mem_ready.1 h
  unfold waits at hw
  rw [ho] at hw
  simp only [Array.any_eq_true', Bool.and_eq_true, beq_iff_eq] at hw
  obtain ⟨e, he, hb, rfl⟩ := hw
  exact hall e he hb
theorem ready_lt {listed : Array Bool} {i : Nat} (h : i ∈ Region.ready .any ops listed) : i < ops.size := by
  obtain ⟨_, o, ho, _⟩ := mem_ready.1 h
  exact (Array.getElem?_eq_some_iff.1 ho).1
/-- Where none may come, all have come. -/
theorem all_on {listed : Array Bool} (hb : backB ops = true) (hs : listed.size = ops.size) (h : Region.ready .any ops listed = []) : ∀ i, i < ops.size → On listed i := by
  intro i
  induction i using Nat.strongRecOn with
  | _ i ih =>
    intro hi
    refine Classical.byContradiction fun hn => ?_
    have hr : i ∈ Region.ready .any ops listed := by
      refine mem_ready.2 ⟨(not_on (by omega)).1 hn, _, Array.getElem?_eq_getElem hi, fun e he hbd => ?_⟩
      unfold backB at hb
      have h1 := List.all_eq_true.1 hb i (List.mem_range.2 hi)
      rw [Array.getElem?_eq_getElem hi] at h1
      simp only [Array.all_eq_true_iff_forall_mem] at h1
      have h2 := h1 e he
      simp only [hbd, Bool.not_true, Bool.false_or, decide_eq_true_eq] at h2
      exact ih e.on h2 (by omega)
    rw [h] at hr
    cases hr
theorem T_put_ne {b : Act} {d e : Nat} {v : Value} (h : d ≠ e) : T (b.put (some e) v) d = T b d := by
  unfold T Act.put
  simp only [Array.getD_eq_getD_getElem?]
  rw [Array.getElem?_setIfInBounds_ne (Ne.symm h)]
theorem T_put_eq {b : Act} {d : Nat} {v : Value} (h : d < b.tmps.size) : T (b.put (some d) v) d = v := by
  unfold T Act.put
  simp [Array.getD_eq_getD_getElem?, h]
theorem Fr.put {m : Nat} {a b : Act} (h : Fr ops m a b) {i : Nat} (hi : i < m) (v : Value) : Fr ops m a (b.put (dstOf ops i) v) := by
  cases hd : dstOf ops i with
  | none => exact h
  | some d =>
    refine ⟨by rw [← h.size]; simp [Act.put], h.defers, fun k hk => ?_⟩
    rw [T_put_ne (fun e => hk i hi (by rw [hd, e]))]
    exact h.others k hk
/-- The region. -/
theorem region {id m : Nat} {a : Act} {w : World} (sp : Spec) (hm : P.follows .mixedOrders = true) (hfit : fitB ops m = true)
    (hdst : ∀ i d, i < m → dstOf ops i = some d → d < a.tmps.size)
    (hown : ∀ j i, j < m → i < m → sp.own j = some i → waits ops i j = true)
    (hF : ∀ i x y v row, i < m → sp.F i x v → x.grownBy y row → (sp.own i ≠ none → v.ownBlock = none ∨ v.ownBlock ≠ row) → (∀ g, row = some g → w.heap.size ≤ g ∧ ∃ j, j < m ∧ sp.own j ≠ none) → sp.F i y v)
    (hlt : ∀ i x v, i < m → sp.F i x v → sp.own i ≠ none → ∀ g, v.ownBlock = some g → w.heap.size ≤ g ∧ g < x.heap.size)
    (hstep : ∀ i, i < m → ∀ (b : Act) (x : World), Fr ops m a b → Below w.heap.size w x →
      (∀ j d, j < m → dstOf ops j = some d → waits ops i j = true → (sp.own j = none ∨ sp.own j = some i) → sp.F j x (T b d)) →
      (∀ j d, j < m → dstOf ops j = some d → waits ops j i = true → T b d = T a d) →
      ∀ K : Act → World → Prop, (∀ v y row, x.grownBy y row → (∀ g, row = some g → Mine ops m sp b i g) → sp.F i y v → (sp.own i ≠ none → ∀ g, v.ownBlock = some g → x.heap.size ≤ g ∨ Mine ops m sp b i g) → K (b.put (dstOf ops i) v) y) → wpOp P ops Q i K b x)
    (hlast : ∀ (b : Act) (x : World), Fr ops m a b → Below w.heap.size w x →
      (∀ j d, j < m → dstOf ops j = some d → (∀ i, i < m → sp.own j ≠ some i) → sp.F j x (T b d)) → wpOps P ops Q (List.range' m (ops.size - m)) b x) :
    (Code.region id ops true).wp P Q a w := by
  unfold fitB at hfit
  simp only [Bool.and_eq_true, decide_eq_true_eq] at hfit
  obtain ⟨⟨⟨hmN, hback⟩, htail⟩, hdist⟩ := hfit
  have hwt : ∀ i j, m ≤ i → i < ops.size → j < i → reachB ops ops.size i j = true := fun i j h1 h2 h3 => by
    unfold tailB at htail
    have := List.all_eq_true.1 htail i (by rw [List.mem_range']; exact ⟨i - m, by omega, by omega⟩)
    exact List.all_eq_true.1 this j (List.mem_range.2 h3)
  have hlow : ∀ i j, waits ops i j = true → j < i := fun i j hw => by
    unfold waits at hw
    cases ho : ops[i]? with
    | none => rw [ho] at hw; cases hw
    | some o =>
      rw [ho] at hw
      simp only [Array.any_eq_true', Bool.and_eq_true, beq_iff_eq] at hw
      obtain ⟨e, he, hb, rfl⟩ := hw
      unfold backB at hback
      have h1 := List.all_eq_true.1 hback i (List.mem_range.2 (Array.getElem?_eq_some_iff.1 ho).1)
      rw [ho] at h1
      simp only [Array.all_eq_true_iff_forall_mem] at h1
      have h2 := h1 e he
      simpa [hb] using h2
  have hne : ∀ i j d e, i < m → j < m → i ≠ j → dstOf ops i = some d → dstOf ops j = some e → d ≠ e := fun i j d e hi hj hij h1 h2 hde => by
    unfold dstB at hdist
    have := List.all_eq_true.1 (List.all_eq_true.1 hdist i (List.mem_range.2 hi)) j (List.mem_range.2 hj)
    rw [h1, h2, hde] at this
    simp [hij] at this
  refine RegionInv.region hm (fun listed b x => Inv ops m sp a w listed b x ∨ ∃ t, m < t ∧ t ≤ ops.size ∧ listed.size = ops.size ∧ (∀ i, i < ops.size → (On listed i ↔ i < t)) ∧ wpOps P ops Q (List.range' t (ops.size - t)) b x) ?_ ?_ ?_
  · refine .inl ⟨by simp, fun i _ h => ?_, fun i j h => ?_, ⟨rfl, rfl, fun _ _ => rfl⟩, ⟨rfl, rfl, rfl, Nat.le_refl _, fun _ _ => rfl⟩, fun i d _ _ h => ?_, fun i j d e _ _ _ _ _ h => ?_, fun _ _ _ _ _ => rfl⟩
    · simp [On, Array.getD_eq_getD_getElem?, Array.getElem?_replicate] at h
      split at h <;> simp at h
    · simp [On, Array.getD_eq_getD_getElem?, Array.getElem?_replicate] at h
      split at h <;> simp at h
    · have := h.1
      simp [On, Array.getD_eq_getD_getElem?, Array.getElem?_replicate] at this
      split at this <;> simp at this
    · have := h.1
      simp [On, Array.getD_eq_getD_getElem?, Array.getElem?_replicate] at this
      split at this <;> simp at this
  · intro listed b x i hI hr
    have hiN := ready_lt hr
    have hun := (mem_ready.1 hr).1
    rcases hI with I | ⟨t, h1, h2, hsz, hon, hw⟩
    · have hil : i < listed.size := by rw [I.size]; exact hiN
      have hnot := (not_on hil).2 hun
      by_cases him : i < m
      · refine hstep i him b x I.fr I.below (fun j d hj hd hwj ho => ?_) (fun j d hj hd hwj => I.old j d hj hd fun hon => hnot (I.closed j i hon hwj)) _ fun v y row hg hrow hFi hv => ?_
        · refine I.fact j d hj hd ⟨ready_waits hr hwj, fun c hc => ?_⟩
          rcases ho with ho | ho
          · rw [ho] at hc; cases hc
          · rw [ho] at hc; cases hc; exact hnot
        · have hmine : ∀ g, Mine ops m sp b i g → w.heap.size ≤ g ∧ g < x.heap.size ∧ ∃ j d, j < m ∧ dstOf ops j = some d ∧ sp.own j = some i ∧ (T b d).ownBlock = some g ∧ Live sp listed j := fun g ⟨j, d, hj, hd, ho, hb⟩ => by
            have hl : Live sp listed j := ⟨ready_waits hr (hown j i hj him ho), fun c hc => by rw [ho] at hc; cases hc; exact hnot⟩
            have := hlt j x _ hj (I.fact j d hj hd hl) (by rw [ho]; simp) g hb
            exact ⟨this.1, this.2, j, d, hj, hd, ho, hb, hl⟩
          have hlive : ∀ l, l ≠ i → Live sp (listed.setIfInBounds i true) l → Live sp listed l ∧ sp.own l ≠ some i := fun l hli ⟨h1, h2⟩ => by
            refine ⟨⟨((on_set hil).1 h1).resolve_right hli, fun c hc hcn => h2 c hc ((on_set hil).2 (.inl hcn))⟩, fun ho => h2 i ho ((on_set hil).2 (.inr rfl))⟩
          have hTi : ∀ d, dstOf ops i = some d → T (b.put (dstOf ops i) v) d = v := fun d hd => by
            rw [hd]; exact T_put_eq (by rw [I.fr.size]; exact hdst i d him hd)
          have hTo : ∀ l d, l < m → l ≠ i → dstOf ops l = some d → T (b.put (dstOf ops i) v) d = T b d := fun l d hl hli hd => by
            cases hdi : dstOf ops i with
            | none => rfl
            | some e => exact T_put_ne (hne l i d e hl him hli hd hdi)
          have hother : ∀ l d, l < m → l ≠ i → dstOf ops l = some d → Live sp (listed.setIfInBounds i true) l → sp.own l ≠ none → ∀ g, Mine ops m sp b i g → (T b d).ownBlock ≠ some g := fun l d hl hli hd hlv ho g hg => by
            obtain ⟨_, _, j, e, hj, he, hoj, hbj, hlj⟩ := hmine g hg
            obtain ⟨hlv', hnl⟩ := hlive l hli hlv
            have hlj' : l ≠ j := fun e' => hnl (by rw [e', hoj])
            rcases I.apart l j d e hl hj hlj' hd he hlv' hlj ho (by rw [hoj]; simp) with h' | h'
            · rw [h']; simp
            · rw [hbj] at h'; exact h'
          refine .inl ⟨by simp [I.size], fun l hl hon => ?_, fun l k hon hw => ?_, I.fr.put him v, ?_, fun l d hl hd hlv => ?_, ?_, fun l d hl hd hno => (hTo l d hl (fun e => hno ((on_set hil).2 (.inr e))) hd).trans (I.old l d hl hd fun hon => hno ((on_set hil).2 (.inl hon)))⟩
          · rcases (on_set hil).1 hon with h' | h'
            · exact I.few l hl h'
            · omega
          · rcases (on_set hil).1 hon with h' | h'
            · exact (on_set hil).2 (.inl (I.closed l k h' hw))
            · subst h'
              exact (on_set hil).2 (.inl (ready_waits hr hw))
          · exact I.below.grown hg I.below.size (fun k hk => (hmine k (hrow k hk)).1)
          · by_cases hli : l = i
            · subst hli
              rw [hTi d hd]
              exact hFi
            · rw [hTo l d hl hli hd]
              refine hF l x y _ row hl (I.fact l d hl hd (hlive l hli hlv).1) hg (fun ho => ?_) fun g hg' => ?_
              · cases row with
                | none => cases (T b d).ownBlock with
                  | none => exact .inl rfl
                  | some _ => exact .inr (by simp)
                | some g => exact .inr (hother l d hl hli hd hlv ho g (hrow g rfl))
              · obtain ⟨h1, _, j, _, hj, _, ho, _⟩ := hmine g (hrow g hg')
                exact ⟨h1, j, hj, by rw [ho]; simp⟩
          · have half : ∀ l d e, l < m → l ≠ i → dstOf ops i = some d → dstOf ops l = some e → Live sp (listed.setIfInBounds i true) l → sp.own i ≠ none → sp.own l ≠ none → v.ownBlock = none ∨ v.ownBlock ≠ (T b e).ownBlock := fun l d e hl hli hd he hlv hoi hol => by
              cases hv' : v.ownBlock with
              | none => exact .inl rfl
              | some g =>
                refine .inr fun hcl => ?_
                rcases hv hoi g hv' with h' | h'
                · have := (hlt l x _ hl (I.fact l e hl he (hlive l hli hlv).1) hol g hcl.symm).2
                  omega
                · exact hother l e hl hli he hlv hol g h' hcl.symm
            intro l k d e hl hk hlk hd he hlv hkv hol hok
            by_cases hli : l = i
            · subst hli
              rw [hTi d hd, hTo k e hk (Ne.symm hlk) he]
              exact half k d e hk (Ne.symm hlk) hd he hkv hol hok
            · by_cases hki : k = i
              · subst hki
                rw [hTi e he, hTo l d hl hli hd]
                rcases half l e d hl hli he hd hlv hok hol with h' | h'
                · rw [h']
                  cases (T b d).ownBlock with
                  | none => exact .inl rfl
                  | some _ => exact .inr (by simp)
                · exact .inr (Ne.symm h')
              · rw [hTo l d hl hli hd, hTo k e hk hki he]
                exact I.apart l k d e hl hk hlk hd he (hlive l hli hlv).1 (hlive k hki hkv).1 hol hok
      · have hall : ∀ j, j < i → On listed j := fun j hj => reach_on I.closed _ i j (fun k hk => ready_waits hr hk) (hwt i j (by omega) hiN hj)
        have him' : i = m := by
          rcases Nat.lt_or_ge m i with h' | h'
          · exact absurd (hall m h') (I.few m (Nat.le_refl _))
          · omega
        subst him'
        have H := hlast b x I.fr I.below fun j d hj hd ho => I.fact j d hj hd ⟨hall j hj, fun c hc hcn => (by
          rcases Nat.lt_or_ge c i with h' | h'
          · exact ho c h' hc
          · exact I.few c h' hcn)⟩
        rw [show ops.size - i = (ops.size - (i + 1)) + 1 from by omega, List.range'_succ, wpOps_cons] at H
        refine wpOp_mono (fun b' x' h' => .inr ⟨i + 1, by omega, by omega, by simp [I.size], fun j hj => ?_, h'⟩) H
        rw [on_set hil]
        constructor
        · rintro (h' | h')
          · rcases Nat.lt_or_ge j i with h'' | h''
            · omega
            · exact absurd h' (I.few j h'')
          · omega
        · intro h'
          rcases Nat.lt_or_ge j i with h'' | h''
          · exact .inl (hall j h'')
          · exact .inr (by omega)
    · have hil : i < listed.size := by rw [hsz]; exact hiN
      have hnot := (not_on hil).2 hun
      have hit : t ≤ i := Nat.le_of_not_lt fun h' => hnot ((hon i hiN).2 h')
      have hit' : i = t := by
        rcases Nat.lt_or_ge t i with h' | h'
        · have hcl : ∀ a b, On listed a → waits ops a b = true → On listed b := fun a b ha hw => by
            have ha' : a < ops.size := by
              rcases Nat.lt_or_ge a ops.size with h'' | h''
              · exact h''
              · unfold On at ha
                rw [Array.getD_eq_getD_getElem?, Array.getElem?_eq_none (by omega)] at ha
                cases ha
            have h1 := (hon a ha').1 ha
            have h2 := hlow a b hw
            exact (hon b (by omega)).2 (by omega)
          have := (hon t (by omega)).1 (reach_on hcl _ i t (fun k hk => ready_waits hr hk) (hwt i t (by omega) hiN h'))
          omega
        · omega
      subst hit'
      rw [show ops.size - i = (ops.size - (i + 1)) + 1 from by omega, List.range'_succ, wpOps_cons] at hw
      refine wpOp_mono (fun b' x' h' => .inr ⟨i + 1, by omega, by omega, by simp [hsz], fun j hj => ?_, h'⟩) hw
      rw [on_set hil, hon j hj]
      omega
  · intro listed b x hI hr
    rcases hI with I | ⟨t, h1, h2, hsz, hon, hw⟩
    · rcases Nat.lt_or_ge m ops.size with h' | h'
      · exact absurd (all_on hback I.size hr m h') (I.few m (Nat.le_refl _))
      · have H := hlast b x I.fr I.below fun j d hj hd ho => I.fact j d hj hd ⟨all_on hback I.size hr j (by omega), fun c hc hcn => (by
          rcases Nat.lt_or_ge c m with h'' | h''
          · exact ho c h'' hc
          · exact I.few c h'' hcn)⟩
        rw [show ops.size - m = 0 from by omega] at H
        exact H
    · have : t = ops.size := by
        rcases Nat.lt_or_ge t ops.size with h' | h'
        · have := (hon t h').1 (all_on hback hsz hr t h')
          omega
        · omega
      subst this
      rw [Nat.sub_self] at hw
      exact hw
end Go.RegionOwn
