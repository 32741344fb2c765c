/- Several texts in one: StampLeaves, StampTake. -/
import Derived.Test.YtngikahadkoliaaGreatDoorRows
import Derived.Test.YtngikahadkoliaaGreatDoorWireMid
import Derived.Test.YtngikahadkoliaaGreatDoorWirePure
import Derived.Test.YtngikahadkoliaaGreatDoorWireOut
import Derived.Test.YtngikahadkoliaaGreatDoorQuietAll
/- Contracts of the times' small functions. -/
namespace Go.Stamp
open Go.RowKit Go.Wire
theorem cells2 {w : World} {g : Nat} {a b : Value} {T : TypeId} (h : w.heap[g]? = some (.cells #[a, b] T (0, 0))) :
    w.cell? ⟨g, 0, none⟩ = some a ∧ w.cell? ⟨g, 1, none⟩ = some b ∧ w.frozen? ⟨g, 0, none⟩ = false ∧ w.frozen? ⟨g, 1, none⟩ = false :=
  ⟨cell_of_row _ _ _ _ _ _ h, cell_of_row _ _ _ _ _ _ h, frozen_of_row _ _ _ _ _ h, frozen_of_row _ _ _ _ _ h⟩
theorem set2 {w : World} {g : Nat} {a b : Value} {T : TypeId} (h : w.heap[g]? = some (.cells #[a, b] T (0, 0))) (x y : Value) :
    ((w.setCell ⟨g, 0, none⟩ x).setCell ⟨g, 1, none⟩ y).heap[g]? = some (.cells #[x, y] T (0, 0)) := by
  have h1 : (w.setCell ⟨g, 0, none⟩ x).heap[g]? = some (.cells #[x, b] T (0, 0)) := by rw [heap_setCell_same _ _ _ _ _ _ h]; rfl
  rw [heap_setCell_same _ _ _ _ _ _ h1]; rfl
theorem below2 {B g : Nat} {w w1 : World} (h : Below B w w1) (hg : B ≤ g) (x y : Value) : Below B w ((w1.setCell ⟨g, 0, none⟩ x).setCell ⟨g, 1, none⟩ y) :=
  (h.setCell (p := ⟨g, 0, none⟩) hg x).setCell (p := ⟨g, 1, none⟩) hg y
/-- Behind a block of one's own and a call. -/
theorem below_alloc_call {w w1 : World} {o : Obj} (h : Below (w.alloc o).heap.size (w.alloc o) w1) : Below w.heap.size w w1 :=
  ((Below.refl _ _).alloc (Nat.le_refl _) _).trans (h.mono (by simp))
/-- A new block of two cells behind a call. -/
theorem new2 {w w1 : World} {a b : Value} {T : TypeId} (h : Below (w.alloc (.cells #[a, b] T)).heap.size (w.alloc (.cells #[a, b] T)) w1) : w1.heap[w.heap.size]? = some (.cells #[a, b] T (0, 0)) :=
  kept_block (heap_alloc_new _ _) h
end Go.Stamp
namespace Go.Proofs.YtngikahadkoliaaGreatDoor
open Go.RowKit Go.Wire Go.Stamp
set_option maxRecDepth 100000 in
set_option maxHeartbeats 400000 in
theorem rcheck_any (t : Tm) (h0 : 0 ≤ t.c) (w : World) :
    Calls Tryz.prog 46 #[t.v] w fun e w' => e = .returned (.int .i64 t.chk) ∧ Below w.heap.size w w' := by
  obtain ⟨c, k⟩ := t
  have h0 : 0 ≤ c := h0
  by_cases h1 : c = 0
  · subst h1
    rw [Tm.chk_no (by unfold Tm.Ok; dsimp only; omega)]; unfold Tm.v
    go_enter Tryz.func46, Tryz.ntmps46
    go_wp2
    go_ret
    exact ⟨rfl, (Below.refl _ _).alloc (Nat.le_refl _) _⟩
  have g1 : (c == 0) = false := beq_eq_false_iff_ne.2 h1
  by_cases h2 : 281474976710655 < c
  · rw [Tm.chk_no (by unfold Tm.Ok; dsimp only; omega)]; unfold Tm.v
    go_enter Tryz.func46, Tryz.ntmps46
    go_wp2
    go_ret
    exact ⟨rfl, (Below.refl _ _).alloc (Nat.le_refl _) _⟩
  by_cases h3 : k < 0
  · rw [Tm.chk_no (by unfold Tm.Ok; dsimp only; omega)]; unfold Tm.v
    go_enter Tryz.func46, Tryz.ntmps46
    go_wp2
    go_ret
    exact ⟨rfl, (Below.refl _ _).alloc (Nat.le_refl _) _⟩
  by_cases h4 : 15 < k
  · rw [Tm.chk_no (by unfold Tm.Ok; dsimp only; omega)]; unfold Tm.v
    go_enter Tryz.func46, Tryz.ntmps46
    go_wp2
    go_ret
    exact ⟨rfl, (Below.refl _ _).alloc (Nat.le_refl _) _⟩
  · rw [Tm.chk_ok (by unfold Tm.Ok; dsimp only; omega)]; unfold Tm.v
    go_enter Tryz.func46, Tryz.ntmps46
    go_wp2
    go_ret
    exact ⟨rfl, (Below.refl _ _).alloc (Nat.le_refl _) _⟩
set_option maxRecDepth 100000 in
theorem info24 : (Tryz.prog.info? 59).map (·.size) = some 2 := by kernel_rfl
set_option maxRecDepth 100000 in
theorem info27 : (Tryz.prog.info? 55).map (·.size) = some 2 := by kernel_rfl
set_option maxRecDepth 100000 in
set_option maxHeartbeats 400000 in
theorem ref_any (t : Tm) (w : World) :
    Calls Tryz.prog 45 #[t.v] w fun e w' => e = .returned t.v ∧ Below w.heap.size w w' := by
  obtain ⟨c, k⟩ := t
  unfold Tm.v
  go_enter Tryz.func45, Tryz.ntmps45
  go_wp2
  exact bodyPost_ret (results_cell_row Tryz.results45 _ _ _ _ _ (0, 0) _ rfl (heap_alloc2_new _ _ _) Tryz.underlying55 rfl info27) rfl ⟨rfl, ((Below.refl _ _).alloc (Nat.le_refl _) _).alloc (by simp) _⟩
set_option maxRecDepth 100000 in
set_option maxHeartbeats 400000 in
theorem cmpC_any (a b : Int) (w : World) :
    Calls Tryz.prog 106 #[.int .u64 a, .int .u64 b] w fun e w' => e = .returned (.int .i64 (if a < b then -1 else if b < a then 1 else 0)) ∧ w' = w := by
  by_cases h1 : a < b
  · rw [if_pos h1]
    go_enter Tryz.func106, Tryz.ntmps106
    go_wp2
    go_ret
    exact ⟨rfl, rfl⟩
  · rw [if_neg h1]
    by_cases h2 : b < a
    · rw [if_pos h2]
      go_enter Tryz.func106, Tryz.ntmps106
      go_wp2
      go_ret
      exact ⟨rfl, rfl⟩
    · rw [if_neg h2]
      go_enter Tryz.func106, Tryz.ntmps106
      go_wp2
      go_ret
      exact ⟨rfl, rfl⟩
set_option maxRecDepth 100000 in
set_option maxHeartbeats 400000 in
theorem cmpK_any (a b : Int) (w : World) :
    Calls Tryz.prog 43 #[.int .i64 a, .int .i64 b] w fun e w' => e = .returned (.int .i64 (if a < b then -1 else if b < a then 1 else 0)) ∧ w' = w := by
  by_cases h1 : a < b
  · rw [if_pos h1]
    go_enter Tryz.func43, Tryz.ntmps43
    go_wp2
    go_ret
    exact ⟨rfl, rfl⟩
  · rw [if_neg h1]
    by_cases h2 : b < a
    · rw [if_pos h2]
      go_enter Tryz.func43, Tryz.ntmps43
      go_wp2
      go_ret
      exact ⟨rfl, rfl⟩
    · rw [if_neg h2]
      go_enter Tryz.func43, Tryz.ntmps43
      go_wp2
      go_ret
      exact ⟨rfl, rfl⟩
set_option maxRecDepth 100000 in
set_option maxHeartbeats 400000 in
theorem compare_any (s t : Tm) (w : World) :
    Calls Tryz.prog 74 #[s.v, t.v] w fun e w' => e = .returned (.int .i64 (s.cmp t)) ∧ Below w.heap.size w w' := by
  obtain ⟨c, k⟩ := s
  obtain ⟨d, l⟩ := t
  unfold Tm.v
  by_cases h : c = d
  · subst h
    have e : (Tm.mk c k).cmp ⟨c, l⟩ = if k < l then -1 else if l < k then 1 else 0 := by
      unfold Tm.cmp; simp
    rw [e]
    have H : Hid (∀ w, Calls Tryz.prog 43 #[.int .i64 k, .int .i64 l] w fun e w' => e = .returned (.int .i64 (if k < l then -1 else if l < k then 1 else 0)) ∧ w' = w) := fun w => cmpK_any k l w
    clear e
    generalize (if k < l then (-1 : Int) else if l < k then 1 else 0) = r at H
    go_enter Tryz.func74, Tryz.ntmps74
    go_wp2_with (go_at_call 43; refine (H.out _).mono ?_; rintro e w' ⟨rfl, rfl⟩)
    go_ret
    exact ⟨rfl, ((Below.refl _ _).alloc (Nat.le_refl _) _).alloc (by simp) _⟩
  · have hb : (c == d) = false := beq_eq_false_iff_ne.2 h
    have e : (Tm.mk c k).cmp ⟨d, l⟩ = if c < d then -1 else if d < c then 1 else 0 := by
      unfold Tm.cmp; dsimp only
      by_cases h1 : c < d
      · simp [h1]
      · have h2 : d < c := by omega
        simp [h1, h2]
    rw [e]
    have H : Hid (∀ w, Calls Tryz.prog 106 #[.int .u64 c, .int .u64 d] w fun e w' => e = .returned (.int .i64 (if c < d then -1 else if d < c then 1 else 0)) ∧ w' = w) := fun w => cmpC_any c d w
    clear e
    generalize (if c < d then (-1 : Int) else if d < c then 1 else 0) = r at H
    go_enter Tryz.func74, Tryz.ntmps74
    go_wp2_with (go_at_call 106; refine (H.out _).mono ?_; rintro e w' ⟨rfl, rfl⟩)
    go_ret
    exact ⟨rfl, ((Below.refl _ _).alloc (Nat.le_refl _) _).alloc (by simp) _⟩
set_option maxRecDepth 100000 in
set_option maxHeartbeats 400000 in
theorem rbefore_any (s t : Tm) (w : World) :
    Calls Tryz.prog 79 #[s.v, t.v] w fun e w' => e = .returned (.bool (decide (s.before t))) ∧ Below w.heap.size w w' := by
  obtain ⟨c, k⟩ := s
  obtain ⟨d, l⟩ := t
  unfold Tm.v
  by_cases h : c = d
  · subst h
    have e : decide ((Tm.mk c k).before ⟨c, l⟩) = decide (k < l) := by
      unfold Tm.before; simp
    rw [e]
    clear e
    go_enter Tryz.func79, Tryz.ntmps79
    go_wp2
    go_ret
    exact ⟨rfl, ((Below.refl _ _).alloc (Nat.le_refl _) _).alloc (by simp) _⟩
  · have hb : (c == d) = false := beq_eq_false_iff_ne.2 h
    have e : decide ((Tm.mk c k).before ⟨d, l⟩) = decide (c < d) := by
      unfold Tm.before; simp [h]
    rw [e]
    clear e
    go_enter Tryz.func79, Tryz.ntmps79
    go_wp2
    go_ret
    exact ⟨rfl, ((Below.refl _ _).alloc (Nat.le_refl _) _).alloc (by simp) _⟩
set_option maxRecDepth 100000 in
set_option maxHeartbeats 400000 in
theorem rthing_any (t : Tm) (h0 : 0 ≤ t.c) (w : World) :
    Calls Tryz.prog 48 #[t.v] w fun e w' => e = .returned (.int .u64 t.thing) ∧ Below w.heap.size w w' := by
  have H : Hid (∀ w, Calls Tryz.prog 46 #[t.v] w fun e w' => e = .returned (.int .i64 t.chk) ∧ Below w.heap.size w w') := fun w => rcheck_any t h0 w
  clear h0
  by_cases h : t.Ok
  · rw [Tm.chk_ok h] at H
    rw [Tm.thing_ok h]
    have h' := h
    unfold Tm.Ok at h'
    obtain ⟨c, k⟩ := t
    unfold Tm.v at H ⊢
    have hk : IntKind.u64.wrap k = k := by rw [Wire.wrap_u64]; dsimp only at h'; omega
    have hc : IntKind.u64.wrap (c * 16) = c * 16 := by rw [Wire.wrap_u64]; dsimp only at h'; omega
    have hs : IntKind.u64.wrap (c * 16 + k) = c * 16 + k := by rw [Wire.wrap_u64]; dsimp only at h'; omega
    clear h h'
    go_enter Tryz.func48, Tryz.ntmps48
    go_wp2_with (go_at_call 46; refine (H.out _).mono ?_; rintro e w1 ⟨rfl, hb⟩; obtain ⟨c0, c1, f0, f1⟩ := cells2 (new2 hb))
    go_ret
    exact ⟨rfl, below_alloc_call hb⟩
  · rw [Tm.chk_no h] at H
    rw [Tm.thing_no h]
    obtain ⟨c, k⟩ := t
    unfold Tm.v at H ⊢
    clear h
    go_enter Tryz.func48, Tryz.ntmps48
    go_wp2_with (go_at_call 46; refine (H.out _).mono ?_; rintro e w1 ⟨rfl, hb⟩)
    go_ret
    exact ⟨rfl, below_alloc_call hb⟩
set_option maxRecDepth 100000 in
set_option maxHeartbeats 400000 in
theorem rmade_any (n : Int) (w : World) :
    Calls Tryz.prog 47 #[.int .u64 n] w fun e w' => e = .returned (.bool (decide (16 ≤ n) && decide (n ≤ 4503599627370495))) ∧ w' = w := by
  by_cases h : 16 ≤ n
  · go_enter Tryz.func47, Tryz.ntmps47
    go_wp2
    go_ret
    exact ⟨by simp [h], rfl⟩
  · have h' : decide (16 ≤ n) = false := decide_eq_false h
    go_enter Tryz.func47, Tryz.ntmps47
    go_wp2
    go_ret
    exact ⟨by simp, rfl⟩
end Go.Proofs.YtngikahadkoliaaGreatDoor
/- Contracts: a time off a reader, the program's and the document's; a time put; its bytes. -/
namespace Go.Wire
open Go.Stamp
theorem results_cells2 {P : Program} {fn : Func} {p u : Tmp} {ty ty' : TypeId} (h : fn.results = #[.cell p ty, .cell u ty']) (tmps : Array Value) (w : World) (g : Nat) (t : TypeId) (cs : Array Value) (fr : Nat × Nat) (d : TypeDesc)
    (hp : tmps.getD p undef = .pointer (some ⟨g, 0, none⟩)) (hg : w.heap[g]? = some (.cells cs t fr))
    (hu : P.underlying ty = some d) (hd : (match d with | .struct _ | .array _ _ => true | _ => false) = true) (hi : (P.info? ty).map (·.size) = some cs.size)
    (g' : Nat) (t' : TypeId) (cs' : Array Value) (fr' : Nat × Nat) (d' : TypeDesc)
    (hp' : tmps.getD u undef = .pointer (some ⟨g', 0, none⟩)) (hg' : w.heap[g']? = some (.cells cs' t' fr'))
    (hu' : P.underlying ty' = some d') (hd' : (match d' with | .struct _ | .array _ _ => true | _ => false) = true) (hi' : (P.info? ty').map (·.size) = some cs'.size) :
    (results fn tmps).run P w = .ok (.tuple #[.agg cs, .agg cs']) w := by
  have a : tmps[p]?.getD undef = .pointer (some ⟨g, 0, none⟩) := by simpa using hp
  have b : tmps[u]?.getD undef = .pointer (some ⟨g', 0, none⟩) := by simpa using hp'
  simp [results, h, a, b, asAddr, run_loadVar_row w g t ty cs fr d hg hu hd hi, run_loadVar_row w g' t' ty' cs' fr' d' hg' hu' hd' hi']
end Go.Wire
namespace Go.Proofs.YtngikahadkoliaaGreatDoor
open Go.RowKit Go.Wire Go.Stamp
/-- What Take holds behind its two numbers and the check. -/
def TakeAt (T S b g h : Nat) (r : St) (c k : Int) (w0 w : World) : Prop :=
  Rd T b r w ∧ w.heap[g]? = some (.cells #[.int .u64 0, .int .i64 0] S (0, 0)) ∧ w.heap[h]? = some (.cells #[.int .u64 c, .int .i64 k] S (0, 0)) ∧ Kept b w0 w
set_option maxRecDepth 100000 in
theorem takeAt_of {T S b : Nat} {q p r : St} {c k : Int} {w w1 w2 w3 : World} (h : Rd T b q w) (k1 : Kept b (w.alloc (.cells #[.int .u64 0, .int .i64 0] S)) w1) (_ : Rd T b p w1) (h2 : Rd T b r w2) (k2 : Kept b w1 w2)
    (k3 : Below (w2.alloc (.cells #[.int .u64 c, .int .i64 k] S)).heap.size (w2.alloc (.cells #[.int .u64 c, .int .i64 k] S)) w3) : TakeAt T S b w.heap.size w2.heap.size r c k w w3 := by
  have hlt := h.lt
  have ka : Kept b w (w.alloc (.cells #[.int .u64 0, .int .i64 0] S)) := Kept.of_below ((Below.refl _ _).alloc (Nat.le_refl _) _) hlt
  have kb : Kept b w w2 := (ka.trans k1).trans k2
  have kc : Below w2.heap.size w2 w3 := below_alloc_call k3
  have hz : (w.alloc (.cells #[.int .u64 0, .int .i64 0] S)).heap[w.heap.size]? = some (.cells #[.int .u64 0, .int .i64 0] S (0, 0)) := heap_alloc_new _ _
  have hz1 := (k1.other w.heap.size (by omega) (by simp)).trans hz
  have hz2 := (k2.other w.heap.size (by omega) (Nat.lt_of_lt_of_le (by simp) k1.below.size)).trans hz1
  exact ⟨h2.of_heap (kc.block b h2.lt), kept_block hz2 kc, kept_block (heap_alloc_new _ _) k3, kb.trans (Kept.of_below kc h2.lt)⟩
set_option maxRecDepth 100000 in
theorem rd2 {T b g : Nat} {r : St} {w : World} (h : Rd T b r w) (hg : b ≠ g) {x y : Value} : Rd T b r ((w.setCell ⟨g, 0, none⟩ x).setCell ⟨g, 1, none⟩ y) :=
  h.of_heap ((Below.heap_setCell _ ⟨g, 1, none⟩ y b hg).trans (Below.heap_setCell _ ⟨g, 0, none⟩ x b hg))
/-- What the document's Take holds: two readers and two times, in four blocks of its own. -/
structure Four (T S g : Nat) (q r : St) (a t : Tm) (w0 w : World) : Prop where
  b0 : w.heap[g]? = some (.cells #[.string q.s, .int .i64 q.pos, .int .i64 q.err] T (0, 0))
  b1 : w.heap[g + 1]? = some (.cells #[.string r.s, .int .i64 r.pos, .int .i64 r.err] T (0, 0))
  b2 : w.heap[g + 2]? = some (.cells #[.int .u64 a.c, .int .i64 a.k] S (0, 0))
  b3 : w.heap[g + 3]? = some (.cells #[.int .u64 t.c, .int .i64 t.k] S (0, 0))
  below : Below g w0 w
set_option maxRecDepth 100000 in
theorem Four.step {T S g : Nat} {q r : St} {a t : Tm} {w0 w w' : World} (i : Four T S g q r a t w0 w) (k : Below w.heap.size w w') : Four T S g q r a t w0 w' :=
  ⟨kept_block i.b0 k, kept_block i.b1 k, kept_block i.b2 k, kept_block i.b3 k, i.below.trans (k.mono (Nat.le_of_lt (row_lt i.b0)))⟩
set_option maxRecDepth 100000 in
theorem Four.set0 {T S g : Nat} {q r : St} {a t : Tm} {w0 w : World} (i : Four T S g q r a t w0 w) (p : St) : Four T S g p r a t w0 (((w.setCell ⟨g, 0, none⟩ (.string p.s)).setCell ⟨g, 1, none⟩ (.int .i64 p.pos)).setCell ⟨g, 2, none⟩ (.int .i64 p.err)) := by
  have o : ∀ k, k ≠ g → (((w.setCell ⟨g, 0, none⟩ (.string p.s)).setCell ⟨g, 1, none⟩ (.int .i64 p.pos)).setCell ⟨g, 2, none⟩ (.int .i64 p.err)).heap[k]? = w.heap[k]? := fun k hk =>
    ((Below.heap_setCell _ ⟨g, 2, none⟩ _ k hk).trans (Below.heap_setCell _ ⟨g, 1, none⟩ _ k hk)).trans (Below.heap_setCell _ ⟨g, 0, none⟩ _ k hk)
  exact ⟨Wire.set3 i.b0 _ _ _, (o _ (by omega)).trans i.b1, (o _ (by omega)).trans i.b2, (o _ (by omega)).trans i.b3, below3 i.below (Nat.le_refl _) _ _ _⟩
set_option maxRecDepth 100000 in
theorem Four.setErr {T S g : Nat} {q r : St} {a t : Tm} {w0 w : World} (i : Four T S g q r a t w0 w) (e : Int) : Four T S g ⟨q.s, q.pos, e⟩ r a t w0 (w.setCell ⟨g, 2, none⟩ (.int .i64 e)) := by
  have o : ∀ k, k ≠ g → (w.setCell ⟨g, 2, none⟩ (.int .i64 e)).heap[k]? = w.heap[k]? := fun k hk => Below.heap_setCell _ ⟨g, 2, none⟩ _ k hk
  exact ⟨by rw [heap_setCell_same _ _ _ _ _ _ i.b0]; rfl, (o _ (by omega)).trans i.b1, (o _ (by omega)).trans i.b2, (o _ (by omega)).trans i.b3, i.below.setCell (p := ⟨g, 2, none⟩) (Nat.le_refl _) _⟩
set_option maxRecDepth 100000 in
theorem Four.set3 {T S g : Nat} {q r : St} {a t : Tm} {w0 w : World} (i : Four T S g q r a t w0 w) (x y : Int) : Four T S g q r a ⟨x, y⟩ w0 ((w.setCell ⟨g + 3, 0, none⟩ (.int .u64 x)).setCell ⟨g + 3, 1, none⟩ (.int .i64 y)) := by
  have o : ∀ k, k ≠ g + 3 → ((w.setCell ⟨g + 3, 0, none⟩ (.int .u64 x)).setCell ⟨g + 3, 1, none⟩ (.int .i64 y)).heap[k]? = w.heap[k]? := fun k hk =>
    (Below.heap_setCell _ ⟨g + 3, 1, none⟩ _ k hk).trans (Below.heap_setCell _ ⟨g + 3, 0, none⟩ _ k hk)
  exact ⟨(o _ (by omega)).trans i.b0, (o _ (by omega)).trans i.b1, (o _ (by omega)).trans i.b2, Stamp.set2 i.b3 _ _, below2 i.below (by omega) _ _⟩
set_option maxRecDepth 100000 in
theorem Four.set1 {T S g : Nat} {q r : St} {a t : Tm} {w0 w : World} (i : Four T S g q r a t w0 w) (p : St) : Four T S g q p a t w0 (((w.setCell ⟨g + 1, 0, none⟩ (.string p.s)).setCell ⟨g + 1, 1, none⟩ (.int .i64 p.pos)).setCell ⟨g + 1, 2, none⟩ (.int .i64 p.err)) := by
  have o : ∀ k, k ≠ g + 1 → (((w.setCell ⟨g + 1, 0, none⟩ (.string p.s)).setCell ⟨g + 1, 1, none⟩ (.int .i64 p.pos)).setCell ⟨g + 1, 2, none⟩ (.int .i64 p.err)).heap[k]? = w.heap[k]? := fun k hk =>
    ((Below.heap_setCell _ ⟨g + 1, 2, none⟩ _ k hk).trans (Below.heap_setCell _ ⟨g + 1, 1, none⟩ _ k hk)).trans (Below.heap_setCell _ ⟨g + 1, 0, none⟩ _ k hk)
  exact ⟨(o _ (by omega)).trans i.b0, Wire.set3 i.b1 _ _ _, (o _ (by omega)).trans i.b2, (o _ (by omega)).trans i.b3, below3 i.below (by omega) _ _ _⟩
set_option maxRecDepth 100000 in
theorem Four.set2 {T S g : Nat} {q r : St} {a t : Tm} {w0 w : World} (i : Four T S g q r a t w0 w) (x y : Int) : Four T S g q r ⟨x, y⟩ t w0 ((w.setCell ⟨g + 2, 0, none⟩ (.int .u64 x)).setCell ⟨g + 2, 1, none⟩ (.int .i64 y)) := by
  have o : ∀ k, k ≠ g + 2 → ((w.setCell ⟨g + 2, 0, none⟩ (.int .u64 x)).setCell ⟨g + 2, 1, none⟩ (.int .i64 y)).heap[k]? = w.heap[k]? := fun k hk =>
    (Below.heap_setCell _ ⟨g + 2, 1, none⟩ _ k hk).trans (Below.heap_setCell _ ⟨g + 2, 0, none⟩ _ k hk)
  exact ⟨(o _ (by omega)).trans i.b0, (o _ (by omega)).trans i.b1, Stamp.set2 i.b2 _ _, (o _ (by omega)).trans i.b3, below2 i.below (by omega) _ _⟩
set_option maxRecDepth 100000 in
theorem Four.drew {T S g : Nat} {q r : St} {a t : Tm} {w0 w : World} (i : Four T S g q r a t w0 w) : Four T S g q r a t w0 w.drew := ⟨i.b0, i.b1, i.b2, i.b3, i.below.drew⟩
set_option maxRecDepth 100000 in
theorem new_at {w : World} {n : Nat} (h : w.heap.size = n) (o : Obj) : (w.alloc o).heap[n]? = some o := h ▸ heap_alloc_new w o
set_option maxRecDepth 100000 in
theorem four0 {T S : Nat} {q r : St} {a t : Tm} {w w1 : World}
    (k : Below ((((w.alloc (.cells #[.string q.s, .int .i64 q.pos, .int .i64 q.err] T)).alloc (.cells #[.string r.s, .int .i64 r.pos, .int .i64 r.err] T)).alloc (.cells #[.int .u64 a.c, .int .i64 a.k] S)).alloc (.cells #[.int .u64 t.c, .int .i64 t.k] S)).heap.size
      ((((w.alloc (.cells #[.string q.s, .int .i64 q.pos, .int .i64 q.err] T)).alloc (.cells #[.string r.s, .int .i64 r.pos, .int .i64 r.err] T)).alloc (.cells #[.int .u64 a.c, .int .i64 a.k] S)).alloc (.cells #[.int .u64 t.c, .int .i64 t.k] S)) w1) : Four T S w.heap.size q r a t w w1 := by
  refine Four.step ⟨?_, ?_, ?_, ?_, ?_⟩ k
  · exact kept_alloc (kept_alloc (kept_alloc (heap_alloc_new _ _) _) _) _
  · exact kept_alloc (kept_alloc (new_at (by simp) _) _) _
  · exact kept_alloc (new_at (by simp) _) _
  · exact new_at (by simp) _
  · exact ((((Below.refl _ _).alloc (Nat.le_refl _) _).alloc (by simp) _).alloc (by simp; omega) _).alloc (by simp; omega) _
set_option maxRecDepth 100000 in
theorem wat_ne {T B g : Nat} {v : Value} {l : List UInt8} {w : World} (h : WAt T B v l w) (hg : w.heap.size ≤ g) : v ≠ .pointer (some ⟨g, 0, none⟩) := by
  rcases h with rfl | ⟨b, rfl, _, p, x, _, hb, _⟩
  · intro e; cases e
  · intro e
    have : b = g := by simpa using e
    have := row_lt hb
    omega
end Go.Proofs.YtngikahadkoliaaGreatDoor
