/- As Tail, inside a round of a loop that goes over a function: the first n operations quiet, the rest in its order; of no program. -/
import Derived.Test.YtnbhchdaobimmaaGreatDoorQuietAll
import Derived.OwnWalkIn
import Derived.OrdersIn
import Derived.TacticsInMore
import Derived.RangeFuncCalls
namespace Go.QTail
variable {P : Program} {ops : Array Oper} {md : Region.Mode} {C : World → Prop} {n : Nat} {l : Nat}
theorem wpOpIn_of_qOp {i : Nat} {a : Act} {K : Act → Prop} {K' : Act → World → Prop} {Q' : Exit → Act → World → Prop} {w : World} (hd : ∀ o, ops[i]? = some o → ∀ c, o.op ≠ .defer c) (hC : C w) (h : ∀ a w', C w' → K a → K' a w') (hh : qOp P ops C i K a) :
  wpOpIn (Fence.wide.inRound l) n P ops Q' i K' a w := by
 unfold qOp at hh
 unfold wpOpIn
 cases ho : ops[i]? with
 | none => simp only [ho] at hh ⊢; exact h _ _ hC hh
 | some o =>
  simp only [ho] at hh ⊢
  split
  ·rename_i hw
   simp only [hw, if_true] at hh
   obtain ⟨v, hv, hK⟩ := hh
   have hq := hv w hC
   refine ⟨fun _ _ => trivial, ?_⟩
   rw [Fence.inRound_round, Oper.semAt_some l a.eval o (hd o ho)]
   unfold Oper.quietAt at hq
   generalize (execOp a.eval o).run P w = r at hq
   cases r with
   | halt x w' => simp [Oper.quietUpon] at hq
   | ok x w' =>
    cases x with
    | value u => simp only [Oper.quietUpon] at hq; obtain ⟨rfl, rfl⟩ := hq; exact h _ _ hC hK
    | skip => simp only [Oper.quietUpon] at hq; obtain ⟨rfl, rfl⟩ := hq; exact h _ _ hC hK
    | enter f args =>
     simp only [Oper.quietUpon] at hq
     obtain ⟨rfl, hc⟩ := hq
     refine ⟨fun h => (by cases h), (CallsIn.inRound l (callsIn_wide.2 hc)).mono ?_⟩
     rintro e w'' ⟨rfl, hw''⟩
     exact h _ _ hw'' hK
    | _ => exact False.elim hq
  ·rename_i hw
   simp only [hw] at hh
   exact ⟨fun _ _ => trivial, h _ _ hC hh⟩
theorem Head.anyIn {k g : Nat} {L : Array Bool → Act → Prop} {Q : Exit → Act → World → Prop} (hd : ∀ (i : Nat) (o : Oper), ops[i]? = some o → ∀ c, o.op ≠ .defer c) (hL : ∀ listed a w, C w → L listed a → wpAnyIn (Fence.wide.inRound l) n P md ops Q g listed a w) :
  ∀ (f : Nat) (listed : Array Bool) (a : Act) (w : World), C w → Head P md ops C k L f listed a → wpAnyIn (Fence.wide.inRound l) n P md ops Q (f + g) listed a w := by
 intro f
 induction f with
 | zero => intro listed a w hw h; rw [Nat.zero_add]; exact hL _ _ _ hw h
 | succ f ih =>
  intro listed a w hw h
  have e : f + 1 + g = (f + g) + 1 := by omega
  rw [e]
  exact ⟨fun h0 => absurd h0 h.1, fun i hi => wpOpIn_of_qOp (hd i) hw (fun a' w' hw' h' => ih _ a' w' hw' h') (h.2 i hi).2⟩
theorem wpAnyIn_of_seq {F : Fence} {Q' : Exit → Act → World → Prop} : ∀ (l : List Oper) (k : Nat) (listed : Array Bool) (a : Act) (w : World), (∀ j, l[j]? = ops[k + j]?) →
  Region.seqB md ops l.length k listed = true → wpListIn F n P ops Q' l a w → wpAnyIn F n P md ops Q' l.length listed a w
 | [], _, _, _, _, _, hB, h => ⟨by simpa [Region.seqB] using hB, h⟩
 | o :: l, k, listed, a, w, hl, hB, h => by
  have h0 : ops[k]? = some o := by simpa using (hl 0).symm
  simp only [List.length_cons, Region.seqB, Bool.and_eq_true, decide_eq_true_eq] at hB
  refine ⟨fun h1 => (by rw [hB.1] at h1; cases h1), fun i hi => ?_⟩
  rw [hB.1] at hi
  have hik : i = k := by simpa using hi
  subst hik
  have hw : wpOpIn F n P ops Q' i (wpListIn F n P ops Q' l) a w := by unfold wpOpIn; simp only [h0]; exact h
  exact wpOpIn_mono (fun a' w' h' => wpAnyIn_of_seq l (i + 1) _ a' w' (fun j => by have := hl (j + 1); simpa [Nat.add_assoc, Nat.add_comm 1 j] using this) hB.2 h') hw
theorem wpIn_region_tail {id : Nat} {Q : Exit → Act → World → Prop} {a : Act} {w : World} {ls : List Oper} (C : World → Prop) (k : Nat) (hm : P.follows .mixedOrders = true) (hd : ls.all (fun o => match o.op with | .defer _ => false | _ => true) = true) (hB : Region.lexTailB .any ls.toArray k = true)
  (hC : C { w with drawn := w.drawn + 1 })
  (h : wpQuiet P ls.toArray C (fun a' => ∀ w', C w' → wpListIn (Fence.wide.inRound l) n P ls.toArray Q (ls.drop k) a' w') (ls.take k) a) : (Code.region id ls.toArray true).wpIn (Fence.wide.inRound l) n P Q a w := by
 simp only [Region.lexTailB, Bool.and_eq_true, decide_eq_true_eq] at hB
 obtain ⟨⟨⟨⟨hsel, hn⟩, hs⟩, hc⟩, hlex⟩ := hB
 have hdf : ∀ (i : Nat) (o : Oper), ls.toArray[i]? = some o → ∀ c, o.op ≠ .defer c := fun i o ho c e => by
  have := List.all_eq_true.1 hd o (by rw [List.getElem?_toArray] at ho; exact List.mem_of_getElem? ho)
  rw [e] at this; cases this
 have htl : (ls.take k).length = k := by simp at hn ⊢; omega
 have hdl : (ls.drop k).length = ls.toArray.size - k := by simp
 have inv0 : HeadInv .any ls.toArray k (Array.replicate ls.toArray.size false) :=
  ⟨by simp, fun j oj _ hl => (by rw [getD_replicate_false] at hl; cases hl), fun t _ ht => getD_in (by simpa using ht) (getD_replicate_false _ _)⟩
 have H := Head.lex (md := .any) (g := ls.toArray.size - k) hsel hs hc hn (ls.take k) 0 _ a (fun j hj => by
  have hj' : j < k := by rw [htl] at hj; exact hj
  simp [hj']) (by simpa using htl) inv0 (by rw [htl]; exact hlex) h
 refine wpIn_region_any hm ?_
 have K := Head.anyIn (l := l) (n := n) (Q := Q) (g := ls.toArray.size - k) hdf (fun listed a' w' hw' hL => by
  have := wpAnyIn_of_seq (md := .any) (Q' := Q) (ls.drop k) k listed a' w' (fun j => by simp [List.getElem?_drop]) (by rw [hdl]; exact hL.1) (hL.2 w' hw')
  rwa [hdl] at this) _ _ _ _ hC H
 rw [htl, show k + (ls.toArray.size - k) = ls.toArray.size by omega] at K
 exact K
end Go.QTail
namespace Go.QuietCalls
open Go.RowKit Go.Sort
/-- The first k operations quiet, or calls that leave all that was there. -/
theorem tailIn {P : Program} {id n r : Nat} {Q : Exit → Act → World → Prop} {a : Act} {w : World} {l : List Oper} (k : Nat) (hm : P.follows .mixedOrders = true) (hd : l.all (fun o => match o.op with | .defer _ => false | _ => true) = true) (hB : Region.lexTailB .any l.toArray k = true)
  (h : wpQuiet P l.toArray (fun w' => ∃ p : Regrown, w' = grow (redrawn w p.d) p.os) (fun a' => ∀ w', Below w.heap.size w w' → wpListIn (Fence.wide.inRound r) n P l.toArray Q (l.drop k) a' w') (l.take k) a) : (Code.region id l.toArray true).wpIn (Fence.wide.inRound r) n P Q a w := by
 have e : (fun a' : Act => ∀ w', Below w.heap.size w w' → wpListIn (Fence.wide.inRound r) n P l.toArray Q (l.drop k) a' w') = (fun a' : Act => ∀ w', (∃ p : Regrown, w' = grow (redrawn w p.d) p.os) → wpListIn (Fence.wide.inRound r) n P l.toArray Q (l.drop k) a' w') := by
  funext a'
  apply propext
  constructor
  ·rintro h w' ⟨p, rfl⟩; exact h _ (below_regrown _ _ _)
  ·intro h w' k; exact h _ (regrown_of_below k)
 rw [e] at h
 exact QTail.wpIn_region_tail _ k hm hd hB ⟨⟨w.drawn + 1, #[]⟩, by rw [grow_empty]; rfl⟩ h
end Go.QuietCalls
