/- A region that draws its order: its first n operations quiet in a class of worlds, then s operations that are forced to come one behind the other (a call that turns memory among them), then operations that only hand on what is there (a tuple's parts, assigned): one walk of the text's order serves every order; of no program. -/
import Derived.Test.YtkbboddibgfjbaaGreatDoorQuietAll
namespace Go.QTail
open Go.RowKit Go.Sort
variable {P : Program} {ops : Array Oper} {md : Region.Mode} {C : World → Prop}
/-- What is asked behind the forced operations: X where they end well. -/
def Mid (Q : Exit → Act → World → Prop) (X : Act → World → Prop) : Exit → Act → World → Prop
  | .normal, a, w => X a w
  | e, a, w => Q e a w
/-- s operations forced from k on, then g in the lexical order. -/
def seqL (md : Region.Mode) (ops : Array Oper) : Nat → Nat → Nat → Array Bool → Bool
  | 0, g, k, listed => Region.lexFrom md ops g k listed
  | s + 1, g, k, listed => decide (Region.ready md ops listed = [k]) && seqL md ops s g (k + 1) (listed.setIfInBounds k true)
theorem seqL_ready {s g k : Nat} {listed : Array Bool} (h : seqL md ops (s + 1) g k listed = true) : ∀ j ∈ Region.ready md ops listed, k ≤ j := by
  intro j hj
  simp only [seqL, Bool.and_eq_true, decide_eq_true_eq] at h
  rw [h.1] at hj
  have : j = k := by simpa using hj
  omega
theorem Mid.any {Q : Exit → Act → World → Prop} {X : Act → World → Prop} {g e : Nat} (hX : ∀ listed a w, Region.lexFrom md ops g e listed = true → X a w → wpAny P md ops Q g listed a w) :
    ∀ (l : List Oper) (k : Nat) (listed : Array Bool) (a : Act) (w : World), (∀ j, j < l.length → l[j]? = ops[k + j]?) → k + l.length = e → seqL md ops l.length g k listed = true →
      wpList P ops (Mid Q X) l a w → wpAny P md ops Q (l.length + g) listed a w := by
  intro l
  induction l with
  | nil =>
    intro k listed a w _ hk hB h
    have hk' : k = e := by simpa using hk
    subst hk'
    rw [List.length_nil, Nat.zero_add]
    exact hX _ _ _ hB h
  | cons o l ih =>
    intro k listed a w hl hk hB h
    have h0 : ops[k]? = some o := by simpa using (hl 0 (by simp)).symm
    simp only [List.length_cons, seqL, Bool.and_eq_true, decide_eq_true_eq] at hB
    have e1 : (o :: l).length + g = (l.length + g) + 1 := by simp; omega
    rw [e1]
    refine ⟨fun h1 => (by rw [hB.1] at h1; cases h1), fun i hi => ?_⟩
    rw [hB.1] at hi
    have hik : i = k := by simpa using hi
    subst hik
    have hw : wpOp P ops Q i (wpList P ops (Mid Q X) l) a w := by unfold wpOp; simp only [h0]; exact h
    refine wpOp_mono (fun a' w' h' => ih (i + 1) _ a' w' (fun j hj => ?_) ?_ hB.2 h') hw
    · have := hl (j + 1) (by simp; omega)
      simpa [Nat.add_assoc, Nat.add_comm 1 j] using this
    · simp only [List.length_cons] at hk; omega
/-- Each operation behind the n-th waits for one that is no earlier than the n-th. -/
def chain2B (md : Region.Mode) (ops : Array Oper) (n : Nat) : Bool :=
  (List.range ops.size).all fun t => decide (t ≤ n) || (List.range t).any fun u => decide (n ≤ u) && Region.waitsFor md ops t u
theorem sink_waits {n : Nat} {listed : Array Bool} (hs : Region.sinkB md ops n = true) (hn : n < ops.size) (inv : HeadInv md ops n listed) :
    ∀ (f i : Nat), n ≤ f + i → i < n → listed.getD i true = false → n ∉ Region.ready md ops listed := by
  intro f
  induction f with
  | zero => intro i h1 h2; omega
  | succ f ih =>
    intro i h1 hi hun hr
    obtain ⟨j, hj, hw⟩ := List.any_eq_true.1 (List.all_eq_true.1 hs i (List.mem_range.2 hi))
    rw [Bool.and_eq_true, decide_eq_true_eq] at hw
    obtain ⟨oj, hoj, e, he, hb, rfl⟩ := Region.waitsFor_spec hw.2
    have hjn := List.mem_range.1 hj
    rcases Nat.lt_or_ge j n with h | h
    · cases hl : listed.getD j false with
      | true => exact absurd (inv.closed j oj hoj hl e he hb) (by rw [getD_both hun]; simp)
      | false => exact ih j (by omega) h (getD_in (by rw [inv.size]; omega) hl) hr
    · have hjn' : j = n := by omega
      subst hjn'
      obtain ⟨_, o2, ho2, hall⟩ := mem_ready.1 hr
      rw [hoj] at ho2
      cases ho2
      exact absurd (hall e he hb) (by rw [getD_both hun]; simp)
theorem tail_waits2 {n : Nat} (hs : Region.sinkB md ops n = true) (hc : chain2B md ops n = true) (hn : n < ops.size) :
    ∀ listed, HeadInv md ops n listed → ∀ i, i < n → listed.getD i true = false → ∀ t, n ≤ t → t ∉ Region.ready md ops listed := by
  intro listed inv i hi hun t ht hr
  by_cases htn : t = n
  · subst htn; exact sink_waits hs hn inv t i (by omega) hi hun hr
  · obtain ⟨_, ot, hot, hall⟩ := mem_ready.1 hr
    have htl : t < ops.size := (Array.getElem?_eq_some_iff.1 hot).1
    have h1 := List.all_eq_true.1 hc t (List.mem_range.2 htl)
    rw [Bool.or_eq_true, decide_eq_true_eq] at h1
    rcases h1 with h1 | h1
    · omega
    · obtain ⟨u, hu, hw⟩ := List.any_eq_true.1 h1
      rw [Bool.and_eq_true, decide_eq_true_eq] at hw
      obtain ⟨o2, ho2, e, he, hb, rfl⟩ := Region.waitsFor_spec hw.2
      rw [hot] at ho2
      cases ho2
      have hul := List.mem_range.1 hu
      exact absurd (hall e he hb) (by rw [getD_both (inv.tail e.on hw.1 (by omega))]; simp)
theorem Head.first2 {n i : Nat} {oi : Oper} {v : Value} {L : Array Bool → Act → Prop} (hi : ops[i]? = some oi) (hsel : ∀ (j : Nat) (o : Oper) cs b, ops[j]? = some o → o.op ≠ .select cs b)
    (hW : ∀ listed, HeadInv md ops n listed → ∀ i, i < n → listed.getD i true = false → ∀ t, n ≤ t → t ∉ Region.ready md ops listed) (hin : i < n) (hdone : ∀ listed a, L listed a → ∀ j ∈ Region.ready md ops listed, n ≤ j) :
    ∀ (f : Nat) (listed : Array Bool) (a : Act), HeadInv md ops n listed →
      (∀ j oj, ops[j]? = some oj → j ≠ i → listed.getD j true = false → (∀ e ∈ oj.after, Region.binds md e = true → e.on ≠ i) → oi.apart ops oj = true) →
      i ∈ Region.ready md ops listed → YieldsIn P ops C oi v a →
      Head P md ops C n L f (listed.setIfInBounds i true) (a.put oi.dst v) → Head P md ops C n L (f + 1) listed a := by
  intro f
  induction f with
  | zero =>
    intro listed a inv _ hr hy H
    refine ⟨fun h => (by rw [h] at hr; cases hr), fun j hj => ?_⟩
    have hjn : j < n := Nat.lt_of_not_le fun h => hW _ inv i hin (mem_ready.1 hr).1 j h hj
    refine ⟨hjn, ?_⟩
    by_cases hji : j = i
    · subst hji; exact hy.qOp hi H
    · have := hdone _ _ H j (ready_mono hj hji); omega
  | succ f ih =>
    intro listed a inv hfree hr hy H
    have hun := (mem_ready.1 hr).1
    refine ⟨fun h => (by rw [h] at hr; cases hr), fun j hj => ?_⟩
    have hjn : j < n := Nat.lt_of_not_le fun h => hW _ inv i hin hun j h hj
    refine ⟨hjn, ?_⟩
    by_cases hji : j = i
    · subst hji; exact hy.qOp hi H
    · obtain ⟨hjun, oj, hoj, hall⟩ := mem_ready.1 hj
      have hnot : ∀ e ∈ oj.after, Region.binds md e = true → e.on ≠ i := fun e he hb heq => by
        have h1 := hall e he hb
        rw [heq, getD_both hun] at h1
        cases h1
      have h2 := qOp_put hoj (hfree j oj hoj hji hjun hnot) (fun cs b => hsel i oi cs b hi) (fun cs b => hsel j oj cs b hoj) hy (H.2 j (ready_mono hj hji)).2
      refine qOp_mono (fun a' h3 => ih (listed.setIfInBounds j true) a' (inv.set hj hjn) (fun k ok hk hki hkun hno => hfree k ok hk hki ?_ hno) (ready_mono hr (Ne.symm hji)) h3.1 ?_) h2
      · by_cases hjk : j = k
        · subst hjk; exact hjun
        · rw [getD_set_ne true hjk] at hkun; exact hkun
      · rw [Array.setIfInBounds_comm _ _ hji]; exact h3.2
def lexHead2 (md : Region.Mode) (ops : Array Oper) (s g : Nat) : Nat → Nat → Array Bool → Bool
  | 0, k, listed => seqL md ops (s + 1) g k listed
  | f + 1, k, listed => (Region.ready md ops listed).contains k && Region.free md ops listed k && lexHead2 md ops s g f (k + 1) (listed.setIfInBounds k true)
theorem Head.lex2 {n s g : Nat} {Lq : Act → Prop} (hsel : Region.noSelect ops = true) (hs : Region.sinkB md ops n = true) (hc : chain2B md ops n = true) (hn : n < ops.size) :
    ∀ (l : List Oper) (k : Nat) (listed : Array Bool) (a : Act), (∀ j, j < l.length → l[j]? = ops[k + j]?) → k + l.length = n → HeadInv md ops n listed →
    lexHead2 md ops s g l.length k listed = true → wpQuiet P ops C Lq l a →
    Head P md ops C n (fun listed' a' => seqL md ops (s + 1) g n listed' = true ∧ Lq a') l.length listed a := by
  intro l
  induction l with
  | nil =>
    intro k listed a _ hk _ hB h
    have hk' : k = n := by simpa using hk
    subst hk'
    exact ⟨by simpa [lexHead2] using hB, h⟩
  | cons o l ih =>
    intro k listed a hl hk inv hB h
    have h0 : ops[k]? = some o := by simpa using (hl 0 (by simp)).symm
    simp only [List.length_cons, lexHead2, Bool.and_eq_true] at hB
    obtain ⟨⟨hr, hf⟩, hB'⟩ := hB
    have hkn : k < n := by simp only [List.length_cons] at hk; omega
    have hr' : k ∈ Region.ready md ops listed := by simpa using hr
    have hq : qOp P ops C k (wpQuiet P ops C Lq l) a := by unfold qOp; simp only [h0]; exact h
    obtain ⟨v, hy, hK⟩ := yieldsIn_of_qOp h0 hq
    refine Head.first2 h0 (Region.noSelect_spec hsel) (tail_waits2 hs hc hn) hkn (fun listed' a' hL => seqL_ready hL.1) l.length listed a inv (Region.free_spec h0 hf) hr' hy (ih (k + 1) _ _ (fun j hj => ?_) ?_ (inv.set hr' hkn) hB' hK)
    · have := hl (j + 1) (by simp; omega)
      simpa [Nat.add_assoc, Nat.add_comm 1 j] using this
    · simp only [List.length_cons] at hk; omega
def tail2B (ops : Array Oper) (n s : Nat) : Bool :=
  Region.noSelect ops && decide (n + (s + 1) ≤ ops.size) && Region.sinkB .any ops n && chain2B .any ops n && lexHead2 .any ops s (ops.size - n - (s + 1)) n 0 (Array.replicate ops.size false)
theorem wp_region_tail2 {id : Nat} {Q : Exit → Act → World → Prop} {a : Act} {w : World} {l : List Oper} (C : World → Prop) (n s : Nat) (hm : P.follows .mixedOrders = true) (hB : tail2B l.toArray n s = true)
    (hC : C { w with drawn := w.drawn + 1 })
    (h : wpQuiet P l.toArray C (fun a' => ∀ w', C w' → wpList P l.toArray (Mid Q fun a2 w2 => wpQuiet P l.toArray (fun x => x = w2) (fun a3 => Q .normal a3 w2) (l.drop (n + (s + 1))) a2) ((l.drop n).take (s + 1)) a' w') (l.take n) a) : (Code.region id l.toArray true).wp P Q a w := by
  simp only [tail2B, Bool.and_eq_true, decide_eq_true_eq] at hB
  obtain ⟨⟨⟨⟨hsel, hn⟩, hs⟩, hc⟩, hlex⟩ := hB
  have hz : l.toArray.size = l.length := by simp
  rw [hz] at hn
  have htl : (l.take n).length = n := by simp; omega
  have hml : ((l.drop n).take (s + 1)).length = s + 1 := by simp; omega
  have hdl : (l.drop (n + (s + 1))).length = l.toArray.size - n - (s + 1) := by simp; omega
  have inv0 : HeadInv .any l.toArray n (Array.replicate l.toArray.size false) :=
    ⟨by simp, fun j oj _ hl => (by rw [getD_replicate_false] at hl; cases hl), fun t _ ht => getD_in (by simpa using ht) (getD_replicate_false _ _)⟩
  have H := Head.lex2 (md := .any) (s := s) (g := l.toArray.size - n - (s + 1)) hsel hs hc (by rw [hz]; omega) (l.take n) 0 _ a (fun j hj => by
    have hj' : j < n := by rw [htl] at hj; exact hj
    simp [hj']) (by simpa using htl) inv0 (by rw [htl]; exact hlex) h
  refine wp_region_any hm ?_
  have K := Head.any (Q := Q) (g := s + 1 + (l.toArray.size - n - (s + 1))) (fun listed a' w' hw' hL => by
    have := Mid.any (P := P) (md := .any) (ops := l.toArray) (Q := Q) (X := fun a2 w2 => wpQuiet P l.toArray (fun x => x = w2) (fun a3 => Q .normal a3 w2) (l.drop (n + (s + 1))) a2) (g := l.toArray.size - n - (s + 1)) (e := n + (s + 1)) (fun listed a2 w2 hB2 hX => by
      have q := wpAnyQ_lex (C := fun x => x = w2) (md := .any) hsel (l.drop (n + (s + 1))) (n + (s + 1)) listed a2 (fun j => by simp [List.getElem?_drop]) (by rw [hdl]; exact hB2) hX
      rw [hdl] at q
      exact wpAny_of_quiet (C := fun x => x = w2) (fun a3 w3 hw3 h3 => by rw [hw3]; exact h3) _ _ _ _ rfl q) ((l.drop n).take (s + 1)) n listed a' w' (fun j hj => by
        rw [hml] at hj
        rw [List.getElem?_take_of_lt hj, List.getElem?_drop]
        simp) (by rw [hml]) (by rw [hml]; exact hL.1) (hL.2 w' hw')
    rwa [hml] at this) _ _ _ _ hC H
  rw [htl, show n + (s + 1 + (l.toArray.size - n - (s + 1))) = l.toArray.size by rw [hz]; omega] at K
  exact K
end Go.QTail
namespace Go.QuietCalls
open Go.RowKit Go.Sort
/-- The first n operations quiet, or calls that leave all that was there; the next s + 1 in their order; the rest hands on. -/
theorem tail2 {P : Program} {id : Nat} {Q : Exit → Act → World → Prop} {a : Act} {w : World} {l : List Oper} (n s : Nat) (hm : P.follows .mixedOrders = true) (hB : QTail.tail2B l.toArray n s = true)
    (h : wpQuiet P l.toArray (fun w' => ∃ p : Regrown, w' = grow (redrawn w p.d) p.os) (fun a' => ∀ w', Below w.heap.size w w' → wpList P l.toArray (QTail.Mid Q fun a2 w2 => wpQuiet P l.toArray (fun x => x = w2) (fun a3 => Q .normal a3 w2) (l.drop (n + (s + 1))) a2) ((l.drop n).take (s + 1)) a' w') (l.take n) a) : (Code.region id l.toArray true).wp P Q a w := by
  have e : (fun a' : Act => ∀ w', Below w.heap.size w w' → wpList P l.toArray (QTail.Mid Q fun a2 w2 => wpQuiet P l.toArray (fun x => x = w2) (fun a3 => Q .normal a3 w2) (l.drop (n + (s + 1))) a2) ((l.drop n).take (s + 1)) a' w') = (fun a' : Act => ∀ w', (∃ p : Regrown, w' = grow (redrawn w p.d) p.os) → wpList P l.toArray (QTail.Mid Q fun a2 w2 => wpQuiet P l.toArray (fun x => x = w2) (fun a3 => Q .normal a3 w2) (l.drop (n + (s + 1))) a2) ((l.drop n).take (s + 1)) a' w') := by
    funext a'
    apply propext
    constructor
    · rintro h w' ⟨p, rfl⟩; exact h _ (below_regrown _ _ _)
    · intro h w' k; exact h _ (regrown_of_below k)
  rw [e] at h
  exact QTail.wp_region_tail2 _ n s hm hB ⟨⟨w.drawn + 1, #[]⟩, by rw [grow_empty]; rfl⟩ h
end Go.QuietCalls
