/- A region that draws its order, walked in the order of its text: each operation either yields its value in every world that meets a condition S (it is taken first), or is the only one that may come up; of no program. -/
import Derived.OrdersHeld
import Derived.Deep.MidRow
import Derived.Laws.Tables
import Derived.Laws.Rows
namespace Go.Held

variable {P : Program} {ops : Array Oper} {S : World → Prop} {Q : Exit → Act → World → Prop}
/-- The walk: true: taken first; false: the only one. -/
def wp (P : Program) (ops : Array Oper) (S : World → Prop) (Q : Exit → Act → World → Prop) : List Bool → List Oper → Act → World → Prop
  | _, [], a, w => Q .normal a w
  | [], _ :: _, _, _ => False
  | true :: ks, o :: r, a, w => ∃ v, YieldsIf P ops S o v a ∧ wp P ops S Q ks r (a.put o.dst v) w
  | false :: ks, o :: r, a, w => if Region.wanted o (yielded ops a.tmps) = true then o.wp P a w (fun a' w' => S w' ∧ wp P ops S Q ks r a' w') Q else wp P ops S Q ks r (a.put o.dst undef) w
def fitB (ops : Array Oper) : List Bool → Nat → Array Bool → Bool
  | [], _, listed => decide (Region.ready .any ops listed = [])
  | true :: ks, k, listed => Region.free .any ops listed k && (Region.ready .any ops listed).contains k && fitB ops ks (k + 1) (listed.setIfInBounds k true)
  | false :: ks, k, listed => decide (Region.ready .any ops listed = [k]) && fitB ops ks (k + 1) (listed.setIfInBounds k true)
theorem anyH (hs : Region.noSelect ops = true) (hQ : ∀ d v c a w, Q (.panic c) (Act.put a d v) w → Q (.panic c) a w) :
    ∀ (ks : List Bool) (l : List Oper) (k : Nat) (listed : Array Bool) (a : Act) (w : World), (∀ j, l[j]? = ops[k + j]?) → ks.length = l.length → fitB ops ks k listed = true → S w → wp P ops S Q ks l a w → wpAnyH P .any ops Q S l.length listed a w
  | [], [], _, _, _, _, _, _, hB, _, h => wpAnyH_done (by simpa [fitB] using hB) h _
  | [], _ :: _, _, _, _, _, _, hl, _, _, _ => by simp at hl
  | _ :: _, [], _, _, _, _, _, hl, _, _, _ => by simp at hl
  | true :: ks, o :: r, k, listed, a, w, hl, hn, hB, hS, h => by
    have h0 : ops[k]? = some o := by simpa using (hl 0).symm
    simp only [fitB, Bool.and_eq_true] at hB
    obtain ⟨v, hy, h⟩ := h
    exact wpAnyH_take h0 hs hB.1.1 hB.1.2 (fun c a w => hQ _ _ c a w) hy hS (anyH hs hQ ks r (k + 1) _ _ _ (fun j => by have := hl (j + 1); simpa [Nat.add_assoc, Nat.add_comm 1 j] using this) (by simpa using hn) hB.2 hS h)
  | false :: ks, o :: r, k, listed, a, w, hl, hn, hB, hS, h => by
    have h0 : ops[k]? = some o := by simpa using (hl 0).symm
    simp only [fitB, Bool.and_eq_true, decide_eq_true_eq] at hB
    have hnext : ∀ a' w', S w' → wp P ops S Q ks r a' w' → wpAnyH P .any ops Q S r.length (listed.setIfInBounds k true) a' w' := fun a' w' hs' h' =>
      anyH hs hQ ks r (k + 1) _ _ _ (fun j => by have := hl (j + 1); simpa [Nat.add_assoc, Nat.add_comm 1 j] using this) (by simpa using hn) hB.2 hs' h'
    refine wpAnyH_all hB.1 (by simp) fun i hi => ?_
    obtain rfl : i = k := by simpa using hi
    unfold wpOp
    simp only [h0]
    unfold wp at h
    by_cases hw : Region.wanted o (yielded ops a.tmps) = true
    · rw [if_pos hw] at h
      rw [if_pos hw]
      exact .inl (Oper.wp_mono (fun a' w' ⟨s, h'⟩ => ⟨s, hnext a' w' s h'⟩) h)
    · rw [if_neg hw] at h
      rw [if_neg hw]
      exact ⟨hS, hnext _ _ hS h⟩
theorem region {id : Nat} {l : List Oper} {a : Act} {w : World} (S : World → Prop) (ks : List Bool) (hm : P.follows .mixedOrders = true) (hB : (Region.noSelect l.toArray && fitB l.toArray ks 0 (Array.replicate l.length false)) = true) (hlen : ks.length = l.length)
    (hQ : ∀ d v c a w, Q (.panic c) (Act.put a d v) w → Q (.panic c) a w) (hS : S w.drew) (h : wp P l.toArray S Q ks l a w.drew) : (Code.region id l.toArray true).wp P Q a w := by
  rw [Bool.and_eq_true] at hB
  refine wp_region_held (S := S) hm ?_
  have := anyH hB.1 hQ ks l 0 _ a _ (fun j => by simp) hlen hB.2 hS h
  simpa using this
/-! Rows. -/
variable {ks : List Bool} {r : List Oper} {o : Oper} {a : Act} {w : World}
theorem take (v : Value) (hw : Region.wanted o (yielded ops a.tmps) = true) (hv : ∀ x, S x → (execOp a.eval o).run P x = .ok (.value v) x) (h : wp P ops S Q ks r (a.put o.dst v) w) : wp P ops S Q (true :: ks) (o :: r) a w := ⟨v, .inl ⟨hw, hv⟩, h⟩
theorem skip (hw : Region.wanted o (yielded ops a.tmps) = false) (h : wp P ops S Q ks r (a.put o.dst undef) w) : wp P ops S Q (true :: ks) (o :: r) a w := ⟨undef, .inr ⟨hw, rfl⟩, h⟩
theorem skip' (hw : Region.wanted o (yielded ops a.tmps) = false) (h : wp P ops S Q ks r (a.put o.dst undef) w) : wp P ops S Q (false :: ks) (o :: r) a w := by
  unfold wp
  rw [if_neg (by rw [hw]; simp)]
  exact h
theorem load (ty : TypeId) (x : Operand) (ho : o.op = .load ty x) (hw : Region.wanted o (yielded ops a.tmps) = true) (g : Nat) (hx : a.eval x = .pointer (some ⟨g, 0, none⟩)) (t : TypeId) (cs : Array Value) (fr : Nat × Nat) (d : TypeDesc) (hg : ∀ v, S v → v.heap[g]? = some (.cells cs t fr))
    (hu : P.underlying ty = some d) (hd : (match d with | .struct _ | .array _ _ => true | _ => false) = true) (hi : (P.info? ty).map (·.size) = some cs.size) (h : wp P ops S Q ks r (a.put o.dst (.agg cs)) w) : wp P ops S Q (true :: ks) (o :: r) a w :=
  take (.agg cs) hw (fun v hv => by
    unfold execOp
    simp only [ho, hx, Instr.loadAt, Instr.sureAddr, Sem.run_bind, Sem.run_pure, Result.andThen_ok, run_loadVar_row v g t ty cs fr d (hg v hv) hu hd hi]) h
theorem call (f : FuncId) (args : Array Value) (v : Value) (R : World → Prop) (hw : Region.wanted o (yielded ops a.tmps) = true) (ho : (execOp a.eval o).run P w = .ok (.enter f args) w) (hc : Calls P f args w fun e w' => e = .returned v ∧ R w') (h : ∀ w', R w' → S w' ∧ wp P ops S Q ks r (a.put o.dst v) w') : wp P ops S Q (false :: ks) (o :: r) a w := by
  unfold wp
  rw [if_pos hw]
  unfold Oper.wp
  rw [ho]
  refine hc.mono ?_
  rintro e w' ⟨rfl, hr⟩
  exact h w' hr
theorem store (ty : TypeId) (x y : Operand) (ho : o.op = .store ty x y) (hw : Region.wanted o (yielded ops a.tmps) = true) (g : Nat) (cells : Array Value) (hx : a.eval x = .pointer (some ⟨g, 0, none⟩)) (hy : a.eval y = .agg cells) (t : TypeId) (old : Array Value) (hg : w.heap[g]? = some (.cells old t (0, 0)))
    (hi : (P.info? ty).map (·.size) = some cells.size) (hold : old.size = cells.size) (h1 : cells.all (·.oneCell') = true) (h : S (w.setRow g cells) ∧ wp P ops S Q ks r (a.put o.dst undef) (w.setRow g cells)) : wp P ops S Q (false :: ks) (o :: r) a w := by
  unfold wp
  rw [if_pos hw]
  exact wp_store_row ty x y ho g cells hx hy t old hg hi hold h1 h
end Go.Held
