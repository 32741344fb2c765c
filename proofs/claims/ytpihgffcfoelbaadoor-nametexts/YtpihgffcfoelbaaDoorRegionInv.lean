/- A region that draws its order, by an invariant of what has been done: each operation that may come up keeps it; of no program. -/
import Derived.Orders
import Derived.StillTail
import Derived.Deep.Quiet
namespace Go.RegionInv
variable {P : Program}
/-- How many have not come yet. -/
def left (n : Nat) (listed : Array Bool) : Nat := ((List.range n).filter fun i => listed.getD i true == false).length
theorem left_set {n i : Nat} {listed : Array Bool} (hi : i < n) (h : listed.getD i true = false) : left n (listed.setIfInBounds i true) + 1 = left n listed := by
  unfold left
  have hsz : i < listed.size := by
    rcases Nat.lt_or_ge i listed.size with h' | h'
    · exact h'
    · rw [Array.getD_eq_getD_getElem?, Array.getElem?_eq_none h'] at h; simp at h
  have key : ∀ j, ((listed.setIfInBounds i true).getD j true == false) = (decide (j ≠ i) && (listed.getD j true == false)) := fun j => by
    by_cases e : j = i
    · subst e
      simp [Array.getD_eq_getD_getElem?, hsz]
    · rw [Array.getD_eq_getD_getElem?, Array.getElem?_setIfInBounds_ne (Ne.symm e), ← Array.getD_eq_getD_getElem?]
      simp [e]
  rw [List.filter_congr (fun j _ => key j), ← List.filter_filter]
  have hmem : i ∈ (List.range n).filter fun i => listed.getD i true == false := by
    rw [List.mem_filter]
    exact ⟨List.mem_range.2 hi, by rw [h]; rfl⟩
  have hnd : ((List.range n).filter fun i => listed.getD i true == false).Nodup := List.Pairwise.filter _ List.nodup_range
  generalize (List.range n).filter (fun i => listed.getD i true == false) = L at hmem hnd
  induction L with
  | nil => cases hmem
  | cons x L ih =>
    obtain ⟨h1, h2⟩ := List.nodup_cons.1 hnd
    rw [List.filter_cons]
    by_cases e : x = i
    · subst e
      simp only [ne_eq, not_true_eq_false, decide_false, Bool.false_eq_true, if_false]
      rw [List.filter_eq_self.2 fun y hy => by simpa using fun e : y = x => h1 (e ▸ hy)]
      rfl
    · have hm : i ∈ L := by
        rcases List.mem_cons.1 hmem with rfl | h'
        · exact absurd rfl e
        · exact h'
      simp only [ne_eq, e, not_false_eq_true, decide_true, if_true, List.length_cons]
      rw [ih hm h2]
theorem ready_nil {md : Region.Mode} {ops : Array Oper} {listed : Array Bool} (h : left ops.size listed = 0) : Region.ready md ops listed = [] := by
  rw [List.eq_nil_iff_forall_not_mem]
  intro i hi
  obtain ⟨h1, o, ho, _⟩ := mem_ready.1 hi
  have hlt : i < ops.size := (Array.getElem?_eq_some_iff.1 ho).1
  have : i ∈ (List.range ops.size).filter fun i => listed.getD i true == false := List.mem_filter.2 ⟨List.mem_range.2 hlt, by rw [h1]; rfl⟩
  unfold left at h
  rw [List.eq_nil_of_length_eq_zero h] at this
  cases this
theorem any_of_inv {md : Region.Mode} {ops : Array Oper} {Q : Exit → Act → World → Prop} (Inv : Array Bool → Act → World → Prop)
    (hstep : ∀ listed a w i, Inv listed a w → i ∈ Region.ready md ops listed → wpOp P ops Q i (fun a' w' => Inv (listed.setIfInBounds i true) a' w') a w)
    (hdone : ∀ listed a w, Inv listed a w → Region.ready md ops listed = [] → Q .normal a w) :
    ∀ fuel listed a w, left ops.size listed ≤ fuel → Inv listed a w → wpAny P md ops Q fuel listed a w := by
  intro fuel
  induction fuel with
  | zero =>
    intro listed a w hl hI
    have hr := ready_nil (md := md) (ops := ops) (listed := listed) (by omega)
    exact ⟨hr, hdone _ _ _ hI hr⟩
  | succ fuel ih =>
    intro listed a w hl hI
    refine ⟨fun hr => hdone _ _ _ hI hr, fun i hi => ?_⟩
    obtain ⟨h1, o, ho, _⟩ := mem_ready.1 hi
    have hlt : i < ops.size := (Array.getElem?_eq_some_iff.1 ho).1
    have hs := left_set hlt h1
    exact wpOp_mono (fun a' w' hI' => ih _ a' w' (by omega) hI') (hstep listed a w i hI hi)
/-- The region. -/
theorem region {id : Nat} {Q : Exit → Act → World → Prop} {a : Act} {w : World} {ops : Array Oper} (hm : P.follows .mixedOrders = true) (Inv : Array Bool → Act → World → Prop)
    (h0 : Inv (Array.replicate ops.size false) a { w with drawn := w.drawn + 1 })
    (hstep : ∀ listed a w i, Inv listed a w → i ∈ Region.ready .any ops listed → wpOp P ops Q i (fun a' w' => Inv (listed.setIfInBounds i true) a' w') a w)
    (hdone : ∀ listed a w, Inv listed a w → Region.ready .any ops listed = [] → Q .normal a w) : (Code.region id ops true).wp P Q a w := by
  refine wp_region_any hm (any_of_inv Inv hstep hdone _ _ _ _ ?_ h0)
  unfold left
  exact Nat.le_trans (List.length_filter_le _ _) (by simp)
end Go.RegionInv
