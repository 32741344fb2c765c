/- Several texts in one: HeldLex, HeldOrd. -/
import Derived.OrdersHeld
import Derived.Deep.MidRow
import Derived.Laws.Tables
import Derived.Laws.Rows
/- A region that draws its order, walked in the order of its text: each operation either yields its value in every world that meets a condition S (it is taken first), or is the only one that may come up; of no program. -/
namespace Go.Held

variable {P : Program} {ops : Array Oper} {S : World → Prop} {Q : Exit → Act → World → Prop}
/-- The walk: true: taken first; false: the only one. -/
def wp (P : Program) (ops : Array Oper) (S : World → Prop) (Q : Exit → Act → World → Prop) : List Bool → List Oper → Act → World → Prop
 | _, [], a, w => Q .normal a w
 | [], _ :: _, _, _ => False
 | true :: ks, o :: r, a, w => ∃ v, YieldsIf P ops S o v a ∧ wp P ops S Q ks r (a.put o.dst v) w
 | false :: ks, o :: r, a, w => if Region.wanted o (yielded ops a.tmps) = true then o.wp P a w (fun a' w' => S w' ∧ wp P ops S Q ks r a' w') Q else wp P ops S Q ks r (a.put o.dst undef) w
def fitB (ops : Array Oper) : List Bool → Nat → Array Bool → Bool
 | [], _, listed => decide (Region.ready .any ops listed = [])
 | true :: ks, k, listed => Region.free .any ops listed k && (Region.ready .any ops listed).contains k && fitB ops ks (k + 1) (listed.setIfInBounds k true)
 | false :: ks, k, listed => decide (Region.ready .any ops listed = [k]) && fitB ops ks (k + 1) (listed.setIfInBounds k true)
theorem anyH (hs : Region.noSelect ops = true) (hQ : ∀ d v c a w, Q (.panic c) (Act.put a d v) w → Q (.panic c) a w) :
  ∀ (ks : List Bool) (l : List Oper) (k : Nat) (listed : Array Bool) (a : Act) (w : World), (∀ j, l[j]? = ops[k + j]?) → ks.length = l.length → fitB ops ks k listed = true → S w → wp P ops S Q ks l a w → wpAnyH P .any ops Q S l.length listed a w
 | [], [], _, _, _, _, _, _, hB, _, h => wpAnyH_done (by simpa [fitB] using hB) h _
 | [], _ :: _, _, _, _, _, _, hl, _, _, _ => by simp at hl
 | _ :: _, [], _, _, _, _, _, hl, _, _, _ => by simp at hl
 | true :: ks, o :: r, k, listed, a, w, hl, hn, hB, hS, h => by
  have h0 : ops[k]? = some o := by simpa using (hl 0).symm
  simp only [fitB, Bool.and_eq_true] at hB
  obtain ⟨v, hy, h⟩ := h
  exact wpAnyH_take h0 hs hB.1.1 hB.1.2 (fun c a w => hQ _ _ c a w) hy hS (anyH hs hQ ks r (k + 1) _ _ _ (fun j => by have := hl (j + 1); simpa [Nat.add_assoc, Nat.add_comm 1 j] using this) (by simpa using hn) hB.2 hS h)
 | false :: ks, o :: r, k, listed, a, w, hl, hn, hB, hS, h => by
  have h0 : ops[k]? = some o := by simpa using (hl 0).symm
  simp only [fitB, Bool.and_eq_true, decide_eq_true_eq] at hB
  have hnext : ∀ a' w', S w' → wp P ops S Q ks r a' w' → wpAnyH P .any ops Q S r.length (listed.setIfInBounds k true) a' w' := fun a' w' hs' h' =>
   anyH hs hQ ks r (k + 1) _ _ _ (fun j => by have := hl (j + 1); simpa [Nat.add_assoc, Nat.add_comm 1 j] using this) (by simpa using hn) hB.2 hs' h'
  refine wpAnyH_all hB.1 (by simp) fun i hi => ?_
  obtain rfl : i = k := by simpa using hi
  unfold wpOp
  simp only [h0]
  unfold wp at h
  by_cases hw : Region.wanted o (yielded ops a.tmps) = true
  ·rw [if_pos hw] at h
   rw [if_pos hw]
   exact .inl (Oper.wp_mono (fun a' w' ⟨s, h'⟩ => ⟨s, hnext a' w' s h'⟩) h)
  ·rw [if_neg hw] at h
   rw [if_neg hw]
   exact ⟨hS, hnext _ _ hS h⟩
theorem region {id : Nat} {l : List Oper} {a : Act} {w : World} (S : World → Prop) (ks : List Bool) (hm : P.follows .mixedOrders = true) (hB : (Region.noSelect l.toArray && fitB l.toArray ks 0 (Array.replicate l.length false)) = true) (hlen : ks.length = l.length)
  (hQ : ∀ d v c a w, Q (.panic c) (Act.put a d v) w → Q (.panic c) a w) (hS : S w.drew) (h : wp P l.toArray S Q ks l a w.drew) : (Code.region id l.toArray true).wp P Q a w := by
 rw [Bool.and_eq_true] at hB
 refine wp_region_held (S := S) hm ?_
 have := anyH hB.1 hQ ks l 0 _ a _ (fun j => by simp) hlen hB.2 hS h
 simpa using this
/-! Rows. -/
variable {ks : List Bool} {r : List Oper} {o : Oper} {a : Act} {w : World}
theorem take (v : Value) (hw : Region.wanted o (yielded ops a.tmps) = true) (hv : ∀ x, S x → (execOp a.eval o).run P x = .ok (.value v) x) (h : wp P ops S Q ks r (a.put o.dst v) w) : wp P ops S Q (true :: ks) (o :: r) a w := ⟨v, .inl ⟨hw, hv⟩, h⟩
theorem skip (hw : Region.wanted o (yielded ops a.tmps) = false) (h : wp P ops S Q ks r (a.put o.dst undef) w) : wp P ops S Q (true :: ks) (o :: r) a w := ⟨undef, .inr ⟨hw, rfl⟩, h⟩
theorem skip' (hw : Region.wanted o (yielded ops a.tmps) = false) (h : wp P ops S Q ks r (a.put o.dst undef) w) : wp P ops S Q (false :: ks) (o :: r) a w := by
 unfold wp
 rw [if_neg (by rw [hw]; simp)]
 exact h
theorem load (ty : TypeId) (x : Operand) (ho : o.op = .load ty x) (hw : Region.wanted o (yielded ops a.tmps) = true) (g : Nat) (hx : a.eval x = .pointer (some ⟨g, 0, none⟩)) (t : TypeId) (cs : Array Value) (fr : Nat × Nat) (d : TypeDesc) (hg : ∀ v, S v → v.heap[g]? = some (.cells cs t fr))
  (hu : P.underlying ty = some d) (hd : (match d with | .struct _ | .array _ _ => true | _ => false) = true) (hi : (P.info? ty).map (·.size) = some cs.size) (h : wp P ops S Q ks r (a.put o.dst (.agg cs)) w) : wp P ops S Q (true :: ks) (o :: r) a w :=
 take (.agg cs) hw (fun v hv => by
  unfold execOp
  simp only [ho, hx, Instr.loadAt, Instr.sureAddr, Sem.run_bind, Sem.run_pure, Result.andThen_ok, run_loadVar_row v g t ty cs fr d (hg v hv) hu hd hi]) h
theorem call (f : FuncId) (args : Array Value) (v : Value) (R : World → Prop) (hw : Region.wanted o (yielded ops a.tmps) = true) (ho : (execOp a.eval o).run P w = .ok (.enter f args) w) (hc : Calls P f args w fun e w' => e = .returned v ∧ R w') (h : ∀ w', R w' → S w' ∧ wp P ops S Q ks r (a.put o.dst v) w') : wp P ops S Q (false :: ks) (o :: r) a w := by
 unfold wp
 rw [if_pos hw]
 unfold Oper.wp
 rw [ho]
 refine hc.mono ?_
 rintro e w' ⟨rfl, hr⟩
 exact h w' hr
theorem store (ty : TypeId) (x y : Operand) (ho : o.op = .store ty x y) (hw : Region.wanted o (yielded ops a.tmps) = true) (g : Nat) (cells : Array Value) (hx : a.eval x = .pointer (some ⟨g, 0, none⟩)) (hy : a.eval y = .agg cells) (t : TypeId) (old : Array Value) (hg : w.heap[g]? = some (.cells old t (0, 0)))
  (hi : (P.info? ty).map (·.size) = some cells.size) (hold : old.size = cells.size) (h1 : cells.all (·.oneCell') = true) (h : S (w.setRow g cells) ∧ wp P ops S Q ks r (a.put o.dst undef) (w.setRow g cells)) : wp P ops S Q (false :: ks) (o :: r) a w := by
 unfold wp
 rw [if_pos hw]
 exact wp_store_row ty x y ho g cells hx hy t old hg hi hold h1 h
end Go.Held
/- As HeldLex, in an order that is given; of no program. -/
namespace Go.HeldO
variable {P : Program} {ops : Array Oper} {S : World → Prop} {Q : Exit → Act → World → Prop}
/-- The walk, operation by operation: true: taken first; false: the only one. -/
def wp (P : Program) (ops : Array Oper) (S : World → Prop) (Q : Exit → Act → World → Prop) : List (Bool × Nat) → Act → World → Prop
 | [], a, w => Q .normal a w
 | (true, i) :: r, a, w => ∃ o v, ops[i]? = some o ∧ YieldsIf P ops S o v a ∧ wp P ops S Q r (a.put o.dst v) w
 | (false, i) :: r, a, w => ∃ o, ops[i]? = some o ∧ if Region.wanted o (yielded ops a.tmps) = true then o.wp P a w (fun a' w' => S w' ∧ wp P ops S Q r a' w') Q else wp P ops S Q r (a.put o.dst undef) w
/-- Operation i comes up; then K. -/
def one (P : Program) (ops : Array Oper) (S : World → Prop) (Q : Exit → Act → World → Prop) (i : Nat) (K : Act → World → Prop) (a : Act) (w : World) : Prop :=
 ∃ o, ops[i]? = some o ∧ if Region.wanted o (yielded ops a.tmps) = true then o.wp P a w (fun a' w' => S w' ∧ K a' w') Q else K (a.put o.dst undef) w
def fitB (ops : Array Oper) : List (Bool × Nat) → Array Bool → Bool
 | [], listed => decide (Region.ready .any ops listed = [])
 | (true, k) :: r, listed => Region.free .any ops listed k && (Region.ready .any ops listed).contains k && fitB ops r (listed.setIfInBounds k true)
 | (false, k) :: r, listed => decide (Region.ready .any ops listed = [k]) && fitB ops r (listed.setIfInBounds k true)
theorem anyH (hs : Region.noSelect ops = true) (hQ : ∀ d v c a w, Q (.panic c) (Act.put a d v) w → Q (.panic c) a w) :
  ∀ (r : List (Bool × Nat)) (listed : Array Bool) (a : Act) (w : World), fitB ops r listed = true → S w → wp P ops S Q r a w → wpAnyH P .any ops Q S r.length listed a w
 | [], _, _, _, hB, _, h => wpAnyH_done (by simpa [fitB] using hB) h _
 | (true, k) :: r, listed, a, w, hB, hS, h => by
  simp only [fitB, Bool.and_eq_true] at hB
  obtain ⟨o, v, h0, hy, h⟩ := h
  exact wpAnyH_take h0 hs hB.1.1 hB.1.2 (fun c a w => hQ _ _ c a w) hy hS (anyH hs hQ r _ _ _ hB.2 hS h)
 | (false, k) :: r, listed, a, w, hB, hS, h => by
  simp only [fitB, Bool.and_eq_true, decide_eq_true_eq] at hB
  obtain ⟨o, h0, h⟩ := h
  refine wpAnyH_all hB.1 (by simp) fun i hi => ?_
  obtain rfl : i = k := by simpa using hi
  unfold wpOp
  simp only [h0]
  by_cases hw : Region.wanted o (yielded ops a.tmps) = true
  ·rw [if_pos hw] at h
   rw [if_pos hw]
   exact .inl (Oper.wp_mono (fun a' w' ⟨s, h'⟩ => ⟨s, anyH hs hQ r _ a' w' hB.2 s h'⟩) h)
  ·rw [if_neg hw] at h
   rw [if_neg hw]
   exact ⟨hS, anyH hs hQ r _ _ _ hB.2 hS h⟩
/-- Where two may come up: either order. -/
def pairB (ops : Array Oper) (i j : Nat) (listed : Array Bool) : Bool := decide (Region.ready .any ops listed = [i, j]) && decide (Region.ready .any ops (listed.setIfInBounds i true) = [j]) && decide (Region.ready .any ops (listed.setIfInBounds j true) = [i]) && decide ((listed.setIfInBounds i true).setIfInBounds j true = (listed.setIfInBounds j true).setIfInBounds i true)
theorem wpOp_one {i : Nat} {K K' : Act → World → Prop} {a : Act} {w : World} (hS : S w) (hK : ∀ a w, S w → K a w → K' a w) (h : one P ops S Q i K a w) : wpOp P ops Q i (fun a' w' => S w' ∧ K' a' w') a w := by
 obtain ⟨o, h0, h⟩ := h
 unfold wpOp
 simp only [h0]
 by_cases hw : Region.wanted o (yielded ops a.tmps) = true
 ·rw [if_pos hw] at h
  rw [if_pos hw]
  exact .inl (Oper.wp_mono (fun a' w' ⟨s, h'⟩ => ⟨s, hK a' w' s h'⟩) h)
 ·rw [if_neg hw] at h
  rw [if_neg hw]
  exact ⟨hS, hK _ _ hS h⟩
theorem any_pair {i j n : Nat} {listed : Array Bool} {a : Act} {w : World} {K : Act → World → Prop} (hB : pairB ops i j listed = true) (hS : S w) (hK : ∀ a w, S w → K a w → wpAnyH P .any ops Q S n ((listed.setIfInBounds i true).setIfInBounds j true) a w)
  (h1 : one P ops S Q i (one P ops S Q j K) a w) (h2 : one P ops S Q j (one P ops S Q i K) a w) : wpAnyH P .any ops Q S (n + 1 + 1) listed a w := by
 simp only [pairB, Bool.and_eq_true, decide_eq_true_eq] at hB
 obtain ⟨⟨⟨b1, b2⟩, b3⟩, b4⟩ := hB
 refine wpAnyH_all b1 (by simp) fun k hk => ?_
 simp only [List.mem_cons, List.not_mem_nil, or_false] at hk
 rcases hk with rfl | rfl
 ·refine wpOp_one hS (fun a' w' s' h' => ?_) h1
  refine wpAnyH_all b2 (by simp) fun k2 hk2 => ?_
  obtain rfl : k2 = j := by simpa using hk2
  exact wpOp_one s' (fun a'' w'' s'' h'' => hK _ _ s'' h'') h'
 ·refine wpOp_one hS (fun a' w' s' h' => ?_) h2
  refine wpAnyH_all b3 (by simp) fun k2 hk2 => ?_
  obtain rfl : k2 = i := by simpa using hk2
  exact wpOp_one s' (fun a'' w'' s'' h'' => by rw [← b4]; exact hK _ _ s'' h'') h'
def takes (P : Program) (ops : Array Oper) (S : World → Prop) (K : Act → World → Prop) : List Nat → Act → World → Prop
 | [], a, w => K a w
 | i :: r, a, w => ∃ o v, ops[i]? = some o ∧ YieldsIf P ops S o v a ∧ takes P ops S K r (a.put o.dst v) w
def takesB (ops : Array Oper) (i j : Nat) (r2 : List (Bool × Nat)) : List Nat → Array Bool → Bool
 | [], listed => pairB ops i j listed && fitB ops r2 ((listed.setIfInBounds i true).setIfInBounds j true)
 | k :: r, listed => Region.free .any ops listed k && (Region.ready .any ops listed).contains k && takesB ops i j r2 r (listed.setIfInBounds k true)
theorem any_takes {i j : Nat} {r2 : List (Bool × Nat)} (hs : Region.noSelect ops = true) (hQ : ∀ d v c a w, Q (.panic c) (Act.put a d v) w → Q (.panic c) a w) :
  ∀ (r : List Nat) (listed : Array Bool) (a : Act) (w : World), takesB ops i j r2 r listed = true → S w → takes P ops S (fun a' w' => one P ops S Q i (one P ops S Q j (wp P ops S Q r2)) a' w' ∧ one P ops S Q j (one P ops S Q i (wp P ops S Q r2)) a' w') r a w →
   wpAnyH P .any ops Q S (r.length + (r2.length + 1 + 1)) listed a w
 | [], listed, a, w, hB, hS, h => by
  simp only [takesB, Bool.and_eq_true] at hB
  rw [List.length_nil, Nat.zero_add]
  exact any_pair hB.1 hS (fun a' w' s' h' => anyH hs hQ r2 _ a' w' hB.2 s' h') h.1 h.2
 | k :: r, listed, a, w, hB, hS, h => by
  simp only [takesB, Bool.and_eq_true] at hB
  obtain ⟨o, v, h0, hy, h⟩ := h
  rw [List.length_cons, show r.length + 1 + (r2.length + 1 + 1) = (r.length + (r2.length + 1 + 1)) + 1 by omega]
  exact wpAnyH_take h0 hs hB.1.1 hB.1.2 (fun c a w => hQ _ _ c a w) hy hS (any_takes hs hQ r _ _ _ hB.2 hS h)
/-- Some taken first, then two in either order, then the rest. -/
theorem region2 {id : Nat} {l : List Oper} {a : Act} {w : World} (S : World → Prop) (r : List Nat) (i j : Nat) (r2 : List (Bool × Nat)) (hm : P.follows .mixedOrders = true)
  (hB : (Region.noSelect l.toArray && takesB l.toArray i j r2 r (Array.replicate l.length false)) = true) (hlen : r.length + 2 + r2.length = l.length)
  (hQ : ∀ d v c a w, Q (.panic c) (Act.put a d v) w → Q (.panic c) a w) (hS : S w.drew) (h : takes P l.toArray S (fun a' w' => one P l.toArray S Q i (one P l.toArray S Q j (wp P l.toArray S Q r2)) a' w' ∧ one P l.toArray S Q j (one P l.toArray S Q i (wp P l.toArray S Q r2)) a' w') r a w.drew) : (Code.region id l.toArray true).wp P Q a w := by
 rw [Bool.and_eq_true] at hB
 refine wp_region_held (S := S) hm ?_
 have := any_takes hB.1 hQ r _ a _ hB.2 hS h
 rw [show r.length + (r2.length + 1 + 1) = l.length by omega] at this
 simpa using this
theorem region {id : Nat} {l : List Oper} {a : Act} {w : World} (S : World → Prop) (r : List (Bool × Nat)) (hm : P.follows .mixedOrders = true) (hB : (Region.noSelect l.toArray && fitB l.toArray r (Array.replicate l.length false)) = true) (hlen : r.length = l.length)
  (hQ : ∀ d v c a w, Q (.panic c) (Act.put a d v) w → Q (.panic c) a w) (hS : S w.drew) (h : wp P l.toArray S Q r a w.drew) : (Code.region id l.toArray true).wp P Q a w := by
 rw [Bool.and_eq_true] at hB
 refine wp_region_held (S := S) hm ?_
 have := anyH hB.1 hQ r _ a _ hB.2 hS h
 rw [hlen] at this
 simpa using this
variable {i : Nat} {r : List (Bool × Nat)} {o : Oper} {a : Act} {w : World}
theorem take (v : Value) (h0 : ops[i]? = some o) (hw : Region.wanted o (yielded ops a.tmps) = true) (hv : ∀ x, S x → (execOp a.eval o).run P x = .ok (.value v) x) (h : wp P ops S Q r (a.put o.dst v) w) : wp P ops S Q ((true, i) :: r) a w := ⟨o, v, h0, .inl ⟨hw, hv⟩, h⟩
theorem load (ty : TypeId) (x : Operand) (h0 : ops[i]? = some o) (ho : o.op = .load ty x) (hw : Region.wanted o (yielded ops a.tmps) = true) (g : Nat) (hx : a.eval x = .pointer (some ⟨g, 0, none⟩)) (t : TypeId) (cs : Array Value) (fr : Nat × Nat) (d : TypeDesc) (hg : ∀ v, S v → v.heap[g]? = some (.cells cs t fr))
  (hu : P.underlying ty = some d) (hd : (match d with | .struct _ | .array _ _ => true | _ => false) = true) (hi : (P.info? ty).map (·.size) = some cs.size) (h : wp P ops S Q r (a.put o.dst (.agg cs)) w) : wp P ops S Q ((true, i) :: r) a w :=
 take (.agg cs) h0 hw (fun v hv => by
  unfold execOp
  simp only [ho, hx, Instr.loadAt, Instr.sureAddr, Sem.run_bind, Sem.run_pure, Result.andThen_ok, run_loadVar_row v g t ty cs fr d (hg v hv) hu hd hi]) h
theorem step (h0 : ops[i]? = some o) (hw : Region.wanted o (yielded ops a.tmps) = true) (h : o.wp P a w (fun a' w' => S w' ∧ wp P ops S Q r a' w') Q) : wp P ops S Q ((false, i) :: r) a w := by
 refine ⟨o, h0, ?_⟩
 rw [if_pos hw]
 exact h
theorem first {K : Act → World → Prop} {r : List Nat} (v : Value) (h0 : ops[i]? = some o) (hw : Region.wanted o (yielded ops a.tmps) = true) (hv : ∀ x, S x → (execOp a.eval o).run P x = .ok (.value v) x) (h : takes P ops S K r (a.put o.dst v) w) : takes P ops S K (i :: r) a w := ⟨o, v, h0, .inl ⟨hw, hv⟩, h⟩
theorem firstRow {K : Act → World → Prop} {r : List Nat} (ty : TypeId) (x : Operand) (h0 : ops[i]? = some o) (ho : o.op = .load ty x) (hw : Region.wanted o (yielded ops a.tmps) = true) (g : Nat) (hx : a.eval x = .pointer (some ⟨g, 0, none⟩)) (t : TypeId) (cs : Array Value) (fr : Nat × Nat) (d : TypeDesc) (hg : ∀ v, S v → v.heap[g]? = some (.cells cs t fr))
  (hu : P.underlying ty = some d) (hd : (match d with | .struct _ | .array _ _ => true | _ => false) = true) (hi : (P.info? ty).map (·.size) = some cs.size) (h : takes P ops S K r (a.put o.dst (.agg cs)) w) : takes P ops S K (i :: r) a w :=
 first (.agg cs) h0 hw (fun v hv => by
  unfold execOp
  simp only [ho, hx, Instr.loadAt, Instr.sureAddr, Sem.run_bind, Sem.run_pure, Result.andThen_ok, run_loadVar_row v g t ty cs fr d (hg v hv) hu hd hi]) h
theorem turns {K : Act → World → Prop} (v : Value) (w' : World) (h0 : ops[i]? = some o) (hw : Region.wanted o (yielded ops a.tmps) = true) (hv : (execOp a.eval o).run P w = .ok (.value v) w') (hS : S w') (h : K (a.put o.dst v) w') : one P ops S Q i K a w := by
 refine ⟨o, h0, ?_⟩
 rw [if_pos hw]
 unfold Oper.wp
 rw [hv]
 exact ⟨hS, h⟩
end Go.HeldO
