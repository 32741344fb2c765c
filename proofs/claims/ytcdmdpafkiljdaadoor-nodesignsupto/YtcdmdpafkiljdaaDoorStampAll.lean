/- Several texts in one: StampLeaves, StampTake, WireFrames. -/
import Derived.Test.YtcdmdpafkiljdaaDoorRows
import Derived.Test.YtcdmdpafkiljdaaDoorWireMid
import Derived.Test.YtcdmdpafkiljdaaDoorWirePure
import Derived.Test.YtcdmdpafkiljdaaDoorWireOut
import Derived.Test.YtcdmdpafkiljdaaDoorQuietAll
/- Contracts of the times' small functions. -/
namespace Go.Stamp
open Go.RowKit Go.Wire
theorem cells2 {w : World} {g : Nat} {a b : Value} {T : TypeId} (h : w.heap[g]? = some (.cells #[a, b] T (0, 0))) :
    w.cell? ⟨g, 0, none⟩ = some a ∧ w.cell? ⟨g, 1, none⟩ = some b ∧ w.frozen? ⟨g, 0, none⟩ = false ∧ w.frozen? ⟨g, 1, none⟩ = false :=
  ⟨cell_of_row _ _ _ _ _ _ h, cell_of_row _ _ _ _ _ _ h, frozen_of_row _ _ _ _ _ h, frozen_of_row _ _ _ _ _ h⟩
theorem set2 {w : World} {g : Nat} {a b : Value} {T : TypeId} (h : w.heap[g]? = some (.cells #[a, b] T (0, 0))) (x y : Value) :
    ((w.setCell ⟨g, 0, none⟩ x).setCell ⟨g, 1, none⟩ y).heap[g]? = some (.cells #[x, y] T (0, 0)) := by
  have h1 : (w.setCell ⟨g, 0, none⟩ x).heap[g]? = some (.cells #[x, b] T (0, 0)) := by rw [heap_setCell_same _ _ _ _ _ _ h]; rfl
  rw [heap_setCell_same _ _ _ _ _ _ h1]; rfl
theorem below2 {B g : Nat} {w w1 : World} (h : Below B w w1) (hg : B ≤ g) (x y : Value) : Below B w ((w1.setCell ⟨g, 0, none⟩ x).setCell ⟨g, 1, none⟩ y) :=
  (h.setCell (p := ⟨g, 0, none⟩) hg x).setCell (p := ⟨g, 1, none⟩) hg y
/-- Behind a block of one's own and a call. -/
theorem below_alloc_call {w w1 : World} {o : Obj} (h : Below (w.alloc o).heap.size (w.alloc o) w1) : Below w.heap.size w w1 :=
  ((Below.refl _ _).alloc (Nat.le_refl _) _).trans (h.mono (by simp))
/-- A new block of two cells behind a call. -/
theorem new2 {w w1 : World} {a b : Value} {T : TypeId} (h : Below (w.alloc (.cells #[a, b] T)).heap.size (w.alloc (.cells #[a, b] T)) w1) : w1.heap[w.heap.size]? = some (.cells #[a, b] T (0, 0)) :=
  kept_block (heap_alloc_new _ _) h
end Go.Stamp
namespace Go.Proofs.YtcdmdpafkiljdaaDoor
open Go.RowKit Go.Wire Go.Stamp
set_option maxHeartbeats 400000 in
theorem replica_any (k : Int) (w : World) :
    Calls Tryd.prog 63 #[.int .i64 k] w fun e w' => e = .returned (.bool (decide (0 ≤ k ∧ k < 16))) ∧ w' = w := by
  by_cases h0 : 0 ≤ k
  · go_enter Tryd.func63, Tryd.ntmps63
    go_wp2
    go_ret
    exact ⟨by simp [h0], rfl⟩
  · go_enter Tryd.func63, Tryd.ntmps63
    go_wp2
    go_ret
    exact ⟨by have : decide (0 ≤ k) = false := decide_eq_false (by omega)
              simp [this], rfl⟩
theorem replica_is (k : Int) (b : Bool) (w : World) (h : decide (0 ≤ k ∧ k < 16) = b) :
    Calls Tryd.prog 63 #[.int .i64 k] w fun e w' => e = .returned (.bool b) ∧ w' = w := h ▸ replica_any k w
set_option maxHeartbeats 400000 in
theorem check_any (t : Tm) (w : World) :
    Calls Tryd.prog 42 #[t.v] w fun e w' => e = .returned (.int .i64 t.chk) ∧ Below w.heap.size w w' := by
  obtain ⟨c, k⟩ := t
  by_cases h1 : c < 1
  · rw [Tm.chk_no (by unfold Tm.Ok; dsimp only; omega)]; unfold Tm.v
    go_enter Tryd.func42, Tryd.ntmps42
    go_wp2
    go_ret
    exact ⟨rfl, (Below.refl _ _).alloc (Nat.le_refl _) _⟩
  by_cases h2 : 281474976710655 < c
  · rw [Tm.chk_no (by unfold Tm.Ok; dsimp only; omega)]; unfold Tm.v
    go_enter Tryd.func42, Tryd.ntmps42
    go_wp2
    go_ret
    exact ⟨rfl, (Below.refl _ _).alloc (Nat.le_refl _) _⟩
  by_cases h3 : 0 ≤ k ∧ k < 16
  · rw [Tm.chk_ok (by unfold Tm.Ok; dsimp only; omega)]; unfold Tm.v
    have hr := fun w => replica_is k true w (decide_eq_true h3)
    clear h3
    go_enter Tryd.func42, Tryd.ntmps42
    go_wp2_with (go_at_call 63; refine (hr _).mono ?_; rintro e w' ⟨rfl, rfl⟩)
    go_ret
    exact ⟨rfl, (Below.refl _ _).alloc (Nat.le_refl _) _⟩
  · rw [Tm.chk_no (by unfold Tm.Ok; dsimp only; omega)]; unfold Tm.v
    have hr := fun w => replica_is k false w (decide_eq_false h3)
    clear h3
    go_enter Tryd.func42, Tryd.ntmps42
    go_wp2_with (go_at_call 63; refine (hr _).mono ?_; rintro e w' ⟨rfl, rfl⟩)
    go_ret
    exact ⟨rfl, (Below.refl _ _).alloc (Nat.le_refl _) _⟩
set_option maxHeartbeats 400000 in
theorem rcheck_any (t : Tm) (h0 : 0 ≤ t.c) (w : World) :
    Calls Tryd.prog 34 #[t.v] w fun e w' => e = .returned (.int .i64 t.chk) ∧ Below w.heap.size w w' := by
  obtain ⟨c, k⟩ := t
  have h0 : 0 ≤ c := h0
  by_cases h1 : c = 0
  · subst h1
    rw [Tm.chk_no (by unfold Tm.Ok; dsimp only; omega)]; unfold Tm.v
    go_enter Tryd.func34, Tryd.ntmps34
    go_wp2
    go_ret
    exact ⟨rfl, (Below.refl _ _).alloc (Nat.le_refl _) _⟩
  have g1 : (c == 0) = false := beq_eq_false_iff_ne.2 h1
  by_cases h2 : 281474976710655 < c
  · rw [Tm.chk_no (by unfold Tm.Ok; dsimp only; omega)]; unfold Tm.v
    go_enter Tryd.func34, Tryd.ntmps34
    go_wp2
    go_ret
    exact ⟨rfl, (Below.refl _ _).alloc (Nat.le_refl _) _⟩
  by_cases h3 : k < 0
  · rw [Tm.chk_no (by unfold Tm.Ok; dsimp only; omega)]; unfold Tm.v
    go_enter Tryd.func34, Tryd.ntmps34
    go_wp2
    go_ret
    exact ⟨rfl, (Below.refl _ _).alloc (Nat.le_refl _) _⟩
  by_cases h4 : 15 < k
  · rw [Tm.chk_no (by unfold Tm.Ok; dsimp only; omega)]; unfold Tm.v
    go_enter Tryd.func34, Tryd.ntmps34
    go_wp2
    go_ret
    exact ⟨rfl, (Below.refl _ _).alloc (Nat.le_refl _) _⟩
  · rw [Tm.chk_ok (by unfold Tm.Ok; dsimp only; omega)]; unfold Tm.v
    go_enter Tryd.func34, Tryd.ntmps34
    go_wp2
    go_ret
    exact ⟨rfl, (Below.refl _ _).alloc (Nat.le_refl _) _⟩
theorem info24 : (Tryd.prog.info? 25).map (·.size) = some 2 := by kernel_rfl
theorem info27 : (Tryd.prog.info? 36).map (·.size) = some 2 := by kernel_rfl
set_option maxHeartbeats 400000 in
theorem ref_any (t : Tm) (w : World) :
    Calls Tryd.prog 37 #[t.v] w fun e w' => e = .returned t.v ∧ Below w.heap.size w w' := by
  obtain ⟨c, k⟩ := t
  unfold Tm.v
  go_enter Tryd.func37, Tryd.ntmps37
  go_wp2
  exact bodyPost_ret (results_cell_row Tryd.results37 _ _ _ _ _ (0, 0) _ rfl (heap_alloc2_new _ _ _) Tryd.underlying36 rfl info27) rfl ⟨rfl, ((Below.refl _ _).alloc (Nat.le_refl _) _).alloc (by simp) _⟩
set_option maxHeartbeats 400000 in
theorem thing_any (t : Tm) (w : World) :
    Calls Tryd.prog 64 #[t.v] w fun e w' => e = .returned (.int .u64 t.thing) ∧ Below w.heap.size w w' := by
  have H : Hid (∀ w, Calls Tryd.prog 42 #[t.v] w fun e w' => e = .returned (.int .i64 t.chk) ∧ Below w.heap.size w w') := fun w => check_any t w
  by_cases h : t.Ok
  · rw [Tm.chk_ok h] at H
    rw [Tm.thing_ok h]
    have h' := h
    unfold Tm.Ok at h'
    obtain ⟨c, k⟩ := t
    unfold Tm.v at H ⊢
    have hk : IntKind.u64.wrap k = k := by rw [Wire.wrap_u64]; dsimp only at h'; omega
    have hc : IntKind.u64.wrap (c * 16) = c * 16 := by rw [Wire.wrap_u64]; dsimp only at h'; omega
    have hs : IntKind.u64.wrap (c * 16 + k) = c * 16 + k := by rw [Wire.wrap_u64]; dsimp only at h'; omega
    clear h h'
    go_enter Tryd.func64, Tryd.ntmps64
    go_wp2_with (go_at_call 42; refine (H.out _).mono ?_; rintro e w1 ⟨rfl, hb⟩; obtain ⟨c0, c1, f0, f1⟩ := cells2 (new2 hb))
    go_ret
    exact ⟨rfl, below_alloc_call hb⟩
  · rw [Tm.chk_no h] at H
    rw [Tm.thing_no h]
    obtain ⟨c, k⟩ := t
    unfold Tm.v at H ⊢
    clear h
    go_enter Tryd.func64, Tryd.ntmps64
    go_wp2_with (go_at_call 42; refine (H.out _).mono ?_; rintro e w1 ⟨rfl, hb⟩)
    go_ret
    exact ⟨rfl, below_alloc_call hb⟩
set_option maxHeartbeats 400000 in
theorem rthing_any (t : Tm) (h0 : 0 ≤ t.c) (w : World) :
    Calls Tryd.prog 36 #[t.v] w fun e w' => e = .returned (.int .u64 t.thing) ∧ Below w.heap.size w w' := by
  have H : Hid (∀ w, Calls Tryd.prog 34 #[t.v] w fun e w' => e = .returned (.int .i64 t.chk) ∧ Below w.heap.size w w') := fun w => rcheck_any t h0 w
  clear h0
  by_cases h : t.Ok
  · rw [Tm.chk_ok h] at H
    rw [Tm.thing_ok h]
    have h' := h
    unfold Tm.Ok at h'
    obtain ⟨c, k⟩ := t
    unfold Tm.v at H ⊢
    have hk : IntKind.u64.wrap k = k := by rw [Wire.wrap_u64]; dsimp only at h'; omega
    have hc : IntKind.u64.wrap (c * 16) = c * 16 := by rw [Wire.wrap_u64]; dsimp only at h'; omega
    have hs : IntKind.u64.wrap (c * 16 + k) = c * 16 + k := by rw [Wire.wrap_u64]; dsimp only at h'; omega
    clear h h'
    go_enter Tryd.func36, Tryd.ntmps36
    go_wp2_with (go_at_call 34; refine (H.out _).mono ?_; rintro e w1 ⟨rfl, hb⟩; obtain ⟨c0, c1, f0, f1⟩ := cells2 (new2 hb))
    go_ret
    exact ⟨rfl, below_alloc_call hb⟩
  · rw [Tm.chk_no h] at H
    rw [Tm.thing_no h]
    obtain ⟨c, k⟩ := t
    unfold Tm.v at H ⊢
    clear h
    go_enter Tryd.func36, Tryd.ntmps36
    go_wp2_with (go_at_call 34; refine (H.out _).mono ?_; rintro e w1 ⟨rfl, hb⟩)
    go_ret
    exact ⟨rfl, below_alloc_call hb⟩
set_option maxHeartbeats 400000 in
theorem made_any (n : Int) (w : World) :
    Calls Tryd.prog 43 #[.int .u64 n] w fun e w' => e = .returned (.bool (decide (16 ≤ n) && decide (n ≤ 4503599627370495))) ∧ w' = w := by
  by_cases h : 16 ≤ n
  · go_enter Tryd.func43, Tryd.ntmps43
    go_wp2
    go_ret
    exact ⟨by simp [h], rfl⟩
  · have h' : decide (16 ≤ n) = false := decide_eq_false h
    go_enter Tryd.func43, Tryd.ntmps43
    go_wp2
    go_ret
    exact ⟨by simp, rfl⟩
set_option maxHeartbeats 400000 in
theorem rmade_any (n : Int) (w : World) :
    Calls Tryd.prog 35 #[.int .u64 n] w fun e w' => e = .returned (.bool (decide (16 ≤ n) && decide (n ≤ 4503599627370495))) ∧ w' = w := by
  by_cases h : 16 ≤ n
  · go_enter Tryd.func35, Tryd.ntmps35
    go_wp2
    go_ret
    exact ⟨by simp [h], rfl⟩
  · have h' : decide (16 ≤ n) = false := decide_eq_false h
    go_enter Tryd.func35, Tryd.ntmps35
    go_wp2
    go_ret
    exact ⟨by simp, rfl⟩
end Go.Proofs.YtcdmdpafkiljdaaDoor
/- Contracts: a time off a reader, the program's and the document's; a time put; its bytes. -/
namespace Go.Wire
open Go.Stamp
theorem results_cells2 {P : Program} {fn : Func} {p u : Tmp} {ty ty' : TypeId} (h : fn.results = #[.cell p ty, .cell u ty']) (tmps : Array Value) (w : World) (g : Nat) (t : TypeId) (cs : Array Value) (fr : Nat × Nat) (d : TypeDesc)
    (hp : tmps.getD p undef = .pointer (some ⟨g, 0, none⟩)) (hg : w.heap[g]? = some (.cells cs t fr))
    (hu : P.underlying ty = some d) (hd : (match d with | .struct _ | .array _ _ => true | _ => false) = true) (hi : (P.info? ty).map (·.size) = some cs.size)
    (g' : Nat) (t' : TypeId) (cs' : Array Value) (fr' : Nat × Nat) (d' : TypeDesc)
    (hp' : tmps.getD u undef = .pointer (some ⟨g', 0, none⟩)) (hg' : w.heap[g']? = some (.cells cs' t' fr'))
    (hu' : P.underlying ty' = some d') (hd' : (match d' with | .struct _ | .array _ _ => true | _ => false) = true) (hi' : (P.info? ty').map (·.size) = some cs'.size) :
    (results fn tmps).run P w = .ok (.tuple #[.agg cs, .agg cs']) w := by
  have a : tmps[p]?.getD undef = .pointer (some ⟨g, 0, none⟩) := by simpa using hp
  have b : tmps[u]?.getD undef = .pointer (some ⟨g', 0, none⟩) := by simpa using hp'
  simp [results, h, a, b, asAddr, run_loadVar_row w g t ty cs fr d hg hu hd hi, run_loadVar_row w g' t' ty' cs' fr' d' hg' hu' hd' hi']
end Go.Wire
namespace Go.Proofs.YtcdmdpafkiljdaaDoor
open Go.RowKit Go.Wire Go.Stamp
/-- What Take holds behind its two numbers and the check. -/
def TakeAt (T S b g h : Nat) (r : St) (c k : Int) (w0 w : World) : Prop :=
  Rd T b r w ∧ w.heap[g]? = some (.cells #[.int .u64 0, .int .i64 0] S (0, 0)) ∧ w.heap[h]? = some (.cells #[.int .u64 c, .int .i64 k] S (0, 0)) ∧ Kept b w0 w
theorem takeAt_of {T S b : Nat} {q p r : St} {c k : Int} {w w1 w2 w3 : World} (h : Rd T b q w) (k1 : Kept b (w.alloc (.cells #[.int .u64 0, .int .i64 0] S)) w1) (_ : Rd T b p w1) (h2 : Rd T b r w2) (k2 : Kept b w1 w2)
    (k3 : Below (w2.alloc (.cells #[.int .u64 c, .int .i64 k] S)).heap.size (w2.alloc (.cells #[.int .u64 c, .int .i64 k] S)) w3) : TakeAt T S b w.heap.size w2.heap.size r c k w w3 := by
  have hlt := h.lt
  have ka : Kept b w (w.alloc (.cells #[.int .u64 0, .int .i64 0] S)) := Kept.of_below ((Below.refl _ _).alloc (Nat.le_refl _) _) hlt
  have kb : Kept b w w2 := (ka.trans k1).trans k2
  have kc : Below w2.heap.size w2 w3 := below_alloc_call k3
  have hz : (w.alloc (.cells #[.int .u64 0, .int .i64 0] S)).heap[w.heap.size]? = some (.cells #[.int .u64 0, .int .i64 0] S (0, 0)) := heap_alloc_new _ _
  have hz1 := (k1.other w.heap.size (by omega) (by simp)).trans hz
  have hz2 := (k2.other w.heap.size (by omega) (Nat.lt_of_lt_of_le (by simp) k1.below.size)).trans hz1
  exact ⟨h2.of_heap (kc.block b h2.lt), kept_block hz2 kc, kept_block (heap_alloc_new _ _) k3, kb.trans (Kept.of_below kc h2.lt)⟩
theorem rd2 {T b g : Nat} {r : St} {w : World} (h : Rd T b r w) (hg : b ≠ g) {x y : Value} : Rd T b r ((w.setCell ⟨g, 0, none⟩ x).setCell ⟨g, 1, none⟩ y) :=
  h.of_heap ((Below.heap_setCell _ ⟨g, 1, none⟩ y b hg).trans (Below.heap_setCell _ ⟨g, 0, none⟩ x b hg))
/-- What the document's Take holds: two readers and two times, in four blocks of its own. -/
structure Four (T S g : Nat) (q r : St) (a t : Tm) (w0 w : World) : Prop where
  b0 : w.heap[g]? = some (.cells #[.string q.s, .int .i64 q.pos, .int .i64 q.err] T (0, 0))
  b1 : w.heap[g + 1]? = some (.cells #[.string r.s, .int .i64 r.pos, .int .i64 r.err] T (0, 0))
  b2 : w.heap[g + 2]? = some (.cells #[.int .u64 a.c, .int .i64 a.k] S (0, 0))
  b3 : w.heap[g + 3]? = some (.cells #[.int .u64 t.c, .int .i64 t.k] S (0, 0))
  below : Below g w0 w
theorem Four.step {T S g : Nat} {q r : St} {a t : Tm} {w0 w w' : World} (i : Four T S g q r a t w0 w) (k : Below w.heap.size w w') : Four T S g q r a t w0 w' :=
  ⟨kept_block i.b0 k, kept_block i.b1 k, kept_block i.b2 k, kept_block i.b3 k, i.below.trans (k.mono (Nat.le_of_lt (row_lt i.b0)))⟩
theorem Four.set0 {T S g : Nat} {q r : St} {a t : Tm} {w0 w : World} (i : Four T S g q r a t w0 w) (p : St) : Four T S g p r a t w0 (((w.setCell ⟨g, 0, none⟩ (.string p.s)).setCell ⟨g, 1, none⟩ (.int .i64 p.pos)).setCell ⟨g, 2, none⟩ (.int .i64 p.err)) := by
  have o : ∀ k, k ≠ g → (((w.setCell ⟨g, 0, none⟩ (.string p.s)).setCell ⟨g, 1, none⟩ (.int .i64 p.pos)).setCell ⟨g, 2, none⟩ (.int .i64 p.err)).heap[k]? = w.heap[k]? := fun k hk =>
    ((Below.heap_setCell _ ⟨g, 2, none⟩ _ k hk).trans (Below.heap_setCell _ ⟨g, 1, none⟩ _ k hk)).trans (Below.heap_setCell _ ⟨g, 0, none⟩ _ k hk)
  exact ⟨Wire.set3 i.b0 _ _ _, (o _ (by omega)).trans i.b1, (o _ (by omega)).trans i.b2, (o _ (by omega)).trans i.b3, below3 i.below (Nat.le_refl _) _ _ _⟩
theorem Four.setErr {T S g : Nat} {q r : St} {a t : Tm} {w0 w : World} (i : Four T S g q r a t w0 w) (e : Int) : Four T S g ⟨q.s, q.pos, e⟩ r a t w0 (w.setCell ⟨g, 2, none⟩ (.int .i64 e)) := by
  have o : ∀ k, k ≠ g → (w.setCell ⟨g, 2, none⟩ (.int .i64 e)).heap[k]? = w.heap[k]? := fun k hk => Below.heap_setCell _ ⟨g, 2, none⟩ _ k hk
  exact ⟨by rw [heap_setCell_same _ _ _ _ _ _ i.b0]; rfl, (o _ (by omega)).trans i.b1, (o _ (by omega)).trans i.b2, (o _ (by omega)).trans i.b3, i.below.setCell (p := ⟨g, 2, none⟩) (Nat.le_refl _) _⟩
theorem Four.set3 {T S g : Nat} {q r : St} {a t : Tm} {w0 w : World} (i : Four T S g q r a t w0 w) (x y : Int) : Four T S g q r a ⟨x, y⟩ w0 ((w.setCell ⟨g + 3, 0, none⟩ (.int .u64 x)).setCell ⟨g + 3, 1, none⟩ (.int .i64 y)) := by
  have o : ∀ k, k ≠ g + 3 → ((w.setCell ⟨g + 3, 0, none⟩ (.int .u64 x)).setCell ⟨g + 3, 1, none⟩ (.int .i64 y)).heap[k]? = w.heap[k]? := fun k hk =>
    (Below.heap_setCell _ ⟨g + 3, 1, none⟩ _ k hk).trans (Below.heap_setCell _ ⟨g + 3, 0, none⟩ _ k hk)
  exact ⟨(o _ (by omega)).trans i.b0, (o _ (by omega)).trans i.b1, (o _ (by omega)).trans i.b2, Stamp.set2 i.b3 _ _, below2 i.below (by omega) _ _⟩
theorem Four.set1 {T S g : Nat} {q r : St} {a t : Tm} {w0 w : World} (i : Four T S g q r a t w0 w) (p : St) : Four T S g q p a t w0 (((w.setCell ⟨g + 1, 0, none⟩ (.string p.s)).setCell ⟨g + 1, 1, none⟩ (.int .i64 p.pos)).setCell ⟨g + 1, 2, none⟩ (.int .i64 p.err)) := by
  have o : ∀ k, k ≠ g + 1 → (((w.setCell ⟨g + 1, 0, none⟩ (.string p.s)).setCell ⟨g + 1, 1, none⟩ (.int .i64 p.pos)).setCell ⟨g + 1, 2, none⟩ (.int .i64 p.err)).heap[k]? = w.heap[k]? := fun k hk =>
    ((Below.heap_setCell _ ⟨g + 1, 2, none⟩ _ k hk).trans (Below.heap_setCell _ ⟨g + 1, 1, none⟩ _ k hk)).trans (Below.heap_setCell _ ⟨g + 1, 0, none⟩ _ k hk)
  exact ⟨(o _ (by omega)).trans i.b0, Wire.set3 i.b1 _ _ _, (o _ (by omega)).trans i.b2, (o _ (by omega)).trans i.b3, below3 i.below (by omega) _ _ _⟩
theorem Four.set2 {T S g : Nat} {q r : St} {a t : Tm} {w0 w : World} (i : Four T S g q r a t w0 w) (x y : Int) : Four T S g q r ⟨x, y⟩ t w0 ((w.setCell ⟨g + 2, 0, none⟩ (.int .u64 x)).setCell ⟨g + 2, 1, none⟩ (.int .i64 y)) := by
  have o : ∀ k, k ≠ g + 2 → ((w.setCell ⟨g + 2, 0, none⟩ (.int .u64 x)).setCell ⟨g + 2, 1, none⟩ (.int .i64 y)).heap[k]? = w.heap[k]? := fun k hk =>
    (Below.heap_setCell _ ⟨g + 2, 1, none⟩ _ k hk).trans (Below.heap_setCell _ ⟨g + 2, 0, none⟩ _ k hk)
  exact ⟨(o _ (by omega)).trans i.b0, (o _ (by omega)).trans i.b1, Stamp.set2 i.b2 _ _, (o _ (by omega)).trans i.b3, below2 i.below (by omega) _ _⟩
theorem Four.drew {T S g : Nat} {q r : St} {a t : Tm} {w0 w : World} (i : Four T S g q r a t w0 w) : Four T S g q r a t w0 w.drew := ⟨i.b0, i.b1, i.b2, i.b3, i.below.drew⟩
theorem new_at {w : World} {n : Nat} (h : w.heap.size = n) (o : Obj) : (w.alloc o).heap[n]? = some o := h ▸ heap_alloc_new w o
theorem four0 {T S : Nat} {q r : St} {a t : Tm} {w w1 : World}
    (k : Below ((((w.alloc (.cells #[.string q.s, .int .i64 q.pos, .int .i64 q.err] T)).alloc (.cells #[.string r.s, .int .i64 r.pos, .int .i64 r.err] T)).alloc (.cells #[.int .u64 a.c, .int .i64 a.k] S)).alloc (.cells #[.int .u64 t.c, .int .i64 t.k] S)).heap.size
      ((((w.alloc (.cells #[.string q.s, .int .i64 q.pos, .int .i64 q.err] T)).alloc (.cells #[.string r.s, .int .i64 r.pos, .int .i64 r.err] T)).alloc (.cells #[.int .u64 a.c, .int .i64 a.k] S)).alloc (.cells #[.int .u64 t.c, .int .i64 t.k] S)) w1) : Four T S w.heap.size q r a t w w1 := by
  refine Four.step ⟨?_, ?_, ?_, ?_, ?_⟩ k
  · exact kept_alloc (kept_alloc (kept_alloc (heap_alloc_new _ _) _) _) _
  · exact kept_alloc (kept_alloc (new_at (by simp) _) _) _
  · exact kept_alloc (new_at (by simp) _) _
  · exact new_at (by simp) _
  · exact ((((Below.refl _ _).alloc (Nat.le_refl _) _).alloc (by simp) _).alloc (by simp; omega) _).alloc (by simp; omega) _
theorem wat_ne {T B g : Nat} {v : Value} {l : List UInt8} {w : World} (h : WAt T B v l w) (hg : w.heap.size ≤ g) : v ≠ .pointer (some ⟨g, 0, none⟩) := by
  rcases h with rfl | ⟨b, rfl, _, p, x, _, hb, _⟩
  · intro e; cases e
  · intro e
    have : b = g := by simpa using e
    have := row_lt hb
    omega
set_option maxHeartbeats 400000 in
theorem put_any (B : Nat) (v : Value) (l : List UInt8) (c k : Nat) (w : World) (h : WAt 104 B v l w) (hl : v = .pointer none ∨ l.length + 32 ≤ 140737488355328) (hB : B ≤ w.heap.size) (hc : c < 18446744073709551616) (hk : k < 256) :
    Calls Tryd.prog 68 #[v, .agg #[.int .u64 c, .int .i64 k]] w fun e w' => e = .returned (.tuple #[]) ∧ WAt 104 B v (l ++ num 16 c ++ num 2 k) w' ∧ Wrote B v w w' := by
  have e1 : IntKind.u64.wrap (k : Int) = k := by rw [Wire.wrap_u64]; omega
  have H1 : Hid (∀ o, Calls Tryd.prog 47 #[v, .int .u64 c, .int .i64 8] (w.alloc o) fun e w' => e = .returned (.tuple #[]) ∧ WAt 104 B v (l ++ num 16 c) w' ∧ Wrote B v (w.alloc o) w') := fun o =>
    wnumber_sp B v l c 8 _ (h.below ((Below.refl _ _).alloc (Nat.le_refl _) _)) (hl.imp id fun x => by omega) (by simp; omega) hc
  have H2 : Hid (∀ w', WAt 104 B v (l ++ num 16 c) w' → B ≤ w'.heap.size → Calls Tryd.prog 47 #[v, .int .u64 k, .int .i64 1] w' fun e w'' => e = .returned (.tuple #[]) ∧ WAt 104 B v (l ++ num 16 c ++ num 2 k) w'' ∧ Wrote B v w' w'') := fun w' h' hB' =>
    wnumber_sp B v _ k 1 w' h' (hl.imp id fun x => by rw [List.length_append, num_length]; omega) hB' (by omega)
  have HA : Hid (∀ o, Wrote B v w (w.alloc o)) := fun o => Wrote.of ((Below.refl _ _).alloc (Nat.le_refl _) o) hB
  have HB : Hid (B ≤ w.heap.size) := hB
  have HV : Hid (v ≠ .pointer (some ⟨w.heap.size, 0, none⟩)) := wat_ne h (Nat.le_refl _)
  clear h hl hB
  go_enter Tryd.func68, Tryd.ntmps68
  go_wp2_with (first
    | (go_at_call_of 47 (Value.int IntKind.i64 8); refine (H1.out _).mono ?_; rintro e w1 ⟨rfl, h1, k1⟩; obtain ⟨c0, c1, c2, c3⟩ := cells2 (k1.row HV.out (by decide) (heap_alloc_new _ _)))
    | (go_at_call_of 47 (Value.int IntKind.i64 1); refine (H2.out _ h1 (Nat.le_trans HB.out (Nat.le_trans (by simp) k1.below.size))).mono ?_; rintro e w2 ⟨rfl, h2, k2⟩))
  go_end0
  exact ⟨rfl, h2, ((HA.out _).trans k1).trans k2⟩
set_option maxHeartbeats 400000 in
theorem rbytesOf_any (c k : Nat) (w : World) (hc : c < 18446744073709551616) (hk : k < 256) :
    Calls Tryd.prog 79 #[.agg #[.int .u64 c, .int .i64 k]] w fun e w' => e = .returned (.string (numB 16 c ++ numB 2 k)) ∧ Below w.heap.size w w' := by
  have e1 : IntKind.u64.wrap (k : Int) = k := by rw [Wire.wrap_u64]; omega
  have H1 : Hid (∀ w, Calls Tryd.prog 61 #[.int .u64 c, .int .i64 8] w fun e w' => e = .returned (.string (numB 16 c)) ∧ Below w.heap.size w w') := fun w => rnum_any c 8 w hc (by decide)
  have H2 : Hid (∀ w, Calls Tryd.prog 61 #[.int .u64 k, .int .i64 1] w fun e w' => e = .returned (.string (numB 2 k)) ∧ Below w.heap.size w w') := fun w => rnum_any k 1 w (by omega) (by decide)
  have z1 := numB_size 16 c
  have z2 := numB_size 2 k
  generalize numB 16 c = x at H1 z1
  generalize numB 2 k = y at H2 z2
  go_enter Tryd.func79, Tryd.ntmps79
  go_wp2_with fail
  obtain ⟨W, hW⟩ : ∃ W, W = w.alloc (.cells #[.int .u64 c, .int .i64 k] 36) := ⟨_, rfl⟩
  rw [← hW]
  have HW : Hid (Below w.heap.size w W) := by rw [hW]; exact (Below.refl _ _).alloc (Nat.le_refl _) _
  obtain ⟨a0, a1, _, _⟩ := cells2 (show W.heap[w.heap.size]? = some (.cells #[.int .u64 c, .int .i64 k] 36 (0, 0)) by rw [hW]; exact heap_alloc_new _ _)
  clear hW
  have c0 := cell_regrown a0
  have c1 := cell_regrown a1
  clear a0 a1
  refine QuietCalls.region (by kernel_rfl) (by kernel_rfl) ?_
  first | go_big_quiet_step (fail) | quiet_step (fail)
  first | go_big_quiet_step (fail) | quiet_step (fail)
  refine QuietCalls.call2 rfl rfl Tryd.call61 (fun w _ => H1.out w) rfl rfl ?_; simp only [Act.put, List.setIfInBounds_toArray, List.set_cons_succ, List.set_cons_zero]
  first | go_big_quiet_step (fail) | quiet_step (fail)
  first | go_big_quiet_step (fail) | quiet_step (fail)
  first | go_big_quiet_step (fail) | quiet_step (fail)
  refine QuietCalls.call2 rfl rfl Tryd.call61 (fun w _ => H2.out w) rfl rfl ?_; simp only [Act.put, List.setIfInBounds_toArray, List.set_cons_succ, List.set_cons_zero]
  first | go_big_quiet_step (fail) | quiet_step (fail)
  first | go_big_quiet_step (fail) | quiet_step (fail)
  refine wpQuiet_nil ?_
  intro w2 k2
  go_wp2_with fail
  go_ret
  exact ⟨rfl, HW.out.trans (k2.mono HW.out.size)⟩
end Go.Proofs.YtcdmdpafkiljdaaDoor
/- Contracts of texts and frames: the program's and the document's. -/
namespace Go.Wire
def textB (s : ByteArray) : ByteArray := numB 8 s.size ++ s
def frameB (s : ByteArray) : ByteArray := numB 8 s.size ++ numB 8 (fnv (textB s).data.toList) ++ s
theorem textB_size (s : ByteArray) : (textB s).size = s.size + 8 := by
  rw [textB, ByteArray.size_append, numB_size]; omega
theorem frameB_size (s : ByteArray) : (frameB s).size = s.size + 16 := by
  rw [frameB, ByteArray.size_append, ByteArray.size_append, numB_size, numB_size]; omega
end Go.Wire
namespace Go.Proofs.YtcdmdpafkiljdaaDoor
open Go.RowKit Go.Wire
set_option maxHeartbeats 400000 in
theorem rtextB_any (s : ByteArray) (w : World) (hs : s.size ≤ 1000000) :
    Calls Tryd.prog 80 #[.string s] w fun e w' => e = .returned (.string (textB s)) ∧ Below w.heap.size w w' := by
  have HN : Hid (∀ w : World, Calls Tryd.prog 61 #[.int .u64 s.size, .int .i64 4] w fun e w' => e = .returned (.string (numB 8 s.size)) ∧ Below w.heap.size w w') := fun w => rnum_any s.size 4 w (by omega) (by decide)
  have hz := numB_size 8 s.size
  unfold textB
  generalize numB 8 s.size = t at HN hz
  go_enter Tryd.func80, Tryd.ntmps80
  go_wp2_with (go_at_call 61; refine (HN.out _).mono ?_; rintro e w1 ⟨rfl, k1⟩)
  go_ret
  exact ⟨rfl, by assumption⟩
end Go.Proofs.YtcdmdpafkiljdaaDoor
