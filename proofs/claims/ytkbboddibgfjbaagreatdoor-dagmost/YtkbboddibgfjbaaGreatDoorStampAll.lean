/- Several texts in one: StampLeaves, StampTake, WireFrames. -/
import Derived.Test.YtkbboddibgfjbaaGreatDoorRows
import Derived.Test.YtkbboddibgfjbaaGreatDoorWireMid
import Derived.Test.YtkbboddibgfjbaaGreatDoorWirePure
import Derived.Test.YtkbboddibgfjbaaGreatDoorWireOut
import Derived.Test.YtkbboddibgfjbaaGreatDoorQuietAll
/- Contracts of the times' small functions. -/
namespace Go.Stamp
open Go.RowKit Go.Wire
theorem cells2 {w : World} {g : Nat} {a b : Value} {T : TypeId} (h : w.heap[g]? = some (.cells #[a, b] T (0, 0))) :
    w.cell? ⟨g, 0, none⟩ = some a ∧ w.cell? ⟨g, 1, none⟩ = some b ∧ w.frozen? ⟨g, 0, none⟩ = false ∧ w.frozen? ⟨g, 1, none⟩ = false :=
  ⟨cell_of_row _ _ _ _ _ _ h, cell_of_row _ _ _ _ _ _ h, frozen_of_row _ _ _ _ _ h, frozen_of_row _ _ _ _ _ h⟩
theorem set2 {w : World} {g : Nat} {a b : Value} {T : TypeId} (h : w.heap[g]? = some (.cells #[a, b] T (0, 0))) (x y : Value) :
    ((w.setCell ⟨g, 0, none⟩ x).setCell ⟨g, 1, none⟩ y).heap[g]? = some (.cells #[x, y] T (0, 0)) := by
  have h1 : (w.setCell ⟨g, 0, none⟩ x).heap[g]? = some (.cells #[x, b] T (0, 0)) := by rw [heap_setCell_same _ _ _ _ _ _ h]; rfl
  rw [heap_setCell_same _ _ _ _ _ _ h1]; rfl
theorem below2 {B g : Nat} {w w1 : World} (h : Below B w w1) (hg : B ≤ g) (x y : Value) : Below B w ((w1.setCell ⟨g, 0, none⟩ x).setCell ⟨g, 1, none⟩ y) :=
  (h.setCell (p := ⟨g, 0, none⟩) hg x).setCell (p := ⟨g, 1, none⟩) hg y
/-- Behind a block of one's own and a call. -/
theorem below_alloc_call {w w1 : World} {o : Obj} (h : Below (w.alloc o).heap.size (w.alloc o) w1) : Below w.heap.size w w1 :=
  ((Below.refl _ _).alloc (Nat.le_refl _) _).trans (h.mono (by simp))
/-- A new block of two cells behind a call. -/
theorem new2 {w w1 : World} {a b : Value} {T : TypeId} (h : Below (w.alloc (.cells #[a, b] T)).heap.size (w.alloc (.cells #[a, b] T)) w1) : w1.heap[w.heap.size]? = some (.cells #[a, b] T (0, 0)) :=
  kept_block (heap_alloc_new _ _) h
end Go.Stamp
namespace Go.Proofs.YtkbboddibgfjbaaGreatDoor
open Go.RowKit Go.Wire Go.Stamp
set_option maxHeartbeats 400000 in
theorem replica_any (k : Int) (w : World) :
    Calls Tryz.prog 173 #[.int .i64 k] w fun e w' => e = .returned (.bool (decide (0 ≤ k ∧ k < 16))) ∧ w' = w := by
  by_cases h0 : 0 ≤ k
  · go_enter Tryz.func173, Tryz.ntmps173
    go_wp2
    go_ret
    exact ⟨by simp [h0], rfl⟩
  · go_enter Tryz.func173, Tryz.ntmps173
    go_wp2
    go_ret
    exact ⟨by have : decide (0 ≤ k) = false := decide_eq_false (by omega)
              simp [this], rfl⟩
theorem replica_is (k : Int) (b : Bool) (w : World) (h : decide (0 ≤ k ∧ k < 16) = b) :
    Calls Tryz.prog 173 #[.int .i64 k] w fun e w' => e = .returned (.bool b) ∧ w' = w := h ▸ replica_any k w
set_option maxHeartbeats 400000 in
theorem check_any (t : Tm) (w : World) :
    Calls Tryz.prog 139 #[t.v] w fun e w' => e = .returned (.int .i64 t.chk) ∧ Below w.heap.size w w' := by
  obtain ⟨c, k⟩ := t
  by_cases h1 : c < 1
  · rw [Tm.chk_no (by unfold Tm.Ok; dsimp only; omega)]; unfold Tm.v
    go_enter Tryz.func139, Tryz.ntmps139
    go_wp2
    go_ret
    exact ⟨rfl, (Below.refl _ _).alloc (Nat.le_refl _) _⟩
  by_cases h2 : 281474976710655 < c
  · rw [Tm.chk_no (by unfold Tm.Ok; dsimp only; omega)]; unfold Tm.v
    go_enter Tryz.func139, Tryz.ntmps139
    go_wp2
    go_ret
    exact ⟨rfl, (Below.refl _ _).alloc (Nat.le_refl _) _⟩
  by_cases h3 : 0 ≤ k ∧ k < 16
  · rw [Tm.chk_ok (by unfold Tm.Ok; dsimp only; omega)]; unfold Tm.v
    have hr := fun w => replica_is k true w (decide_eq_true h3)
    clear h3
    go_enter Tryz.func139, Tryz.ntmps139
    go_wp2_with (go_at_call 173; refine (hr _).mono ?_; rintro e w' ⟨rfl, rfl⟩)
    go_ret
    exact ⟨rfl, (Below.refl _ _).alloc (Nat.le_refl _) _⟩
  · rw [Tm.chk_no (by unfold Tm.Ok; dsimp only; omega)]; unfold Tm.v
    have hr := fun w => replica_is k false w (decide_eq_false h3)
    clear h3
    go_enter Tryz.func139, Tryz.ntmps139
    go_wp2_with (go_at_call 173; refine (hr _).mono ?_; rintro e w' ⟨rfl, rfl⟩)
    go_ret
    exact ⟨rfl, (Below.refl _ _).alloc (Nat.le_refl _) _⟩
set_option maxHeartbeats 400000 in
theorem rcheck_any (t : Tm) (h0 : 0 ≤ t.c) (w : World) :
    Calls Tryz.prog 136 #[t.v] w fun e w' => e = .returned (.int .i64 t.chk) ∧ Below w.heap.size w w' := by
  obtain ⟨c, k⟩ := t
  have h0 : 0 ≤ c := h0
  by_cases h1 : c = 0
  · subst h1
    rw [Tm.chk_no (by unfold Tm.Ok; dsimp only; omega)]; unfold Tm.v
    go_enter Tryz.func136, Tryz.ntmps136
    go_wp2
    go_ret
    exact ⟨rfl, (Below.refl _ _).alloc (Nat.le_refl _) _⟩
  have g1 : (c == 0) = false := beq_eq_false_iff_ne.2 h1
  by_cases h2 : 281474976710655 < c
  · rw [Tm.chk_no (by unfold Tm.Ok; dsimp only; omega)]; unfold Tm.v
    go_enter Tryz.func136, Tryz.ntmps136
    go_wp2
    go_ret
    exact ⟨rfl, (Below.refl _ _).alloc (Nat.le_refl _) _⟩
  by_cases h3 : k < 0
  · rw [Tm.chk_no (by unfold Tm.Ok; dsimp only; omega)]; unfold Tm.v
    go_enter Tryz.func136, Tryz.ntmps136
    go_wp2
    go_ret
    exact ⟨rfl, (Below.refl _ _).alloc (Nat.le_refl _) _⟩
  by_cases h4 : 15 < k
  · rw [Tm.chk_no (by unfold Tm.Ok; dsimp only; omega)]; unfold Tm.v
    go_enter Tryz.func136, Tryz.ntmps136
    go_wp2
    go_ret
    exact ⟨rfl, (Below.refl _ _).alloc (Nat.le_refl _) _⟩
  · rw [Tm.chk_ok (by unfold Tm.Ok; dsimp only; omega)]; unfold Tm.v
    go_enter Tryz.func136, Tryz.ntmps136
    go_wp2
    go_ret
    exact ⟨rfl, (Below.refl _ _).alloc (Nat.le_refl _) _⟩
theorem info24 : (Tryz.prog.info? 56).map (·.size) = some 2 := by kernel_rfl
theorem info27 : (Tryz.prog.info? 47).map (·.size) = some 2 := by kernel_rfl
set_option maxHeartbeats 400000 in
theorem thing_any (t : Tm) (w : World) :
    Calls Tryz.prog 174 #[t.v] w fun e w' => e = .returned (.int .u64 t.thing) ∧ Below w.heap.size w w' := by
  have H : Hid (∀ w, Calls Tryz.prog 139 #[t.v] w fun e w' => e = .returned (.int .i64 t.chk) ∧ Below w.heap.size w w') := fun w => check_any t w
  by_cases h : t.Ok
  · rw [Tm.chk_ok h] at H
    rw [Tm.thing_ok h]
    have h' := h
    unfold Tm.Ok at h'
    obtain ⟨c, k⟩ := t
    unfold Tm.v at H ⊢
    have hk : IntKind.u64.wrap k = k := by rw [Wire.wrap_u64]; dsimp only at h'; omega
    have hc : IntKind.u64.wrap (c * 16) = c * 16 := by rw [Wire.wrap_u64]; dsimp only at h'; omega
    have hs : IntKind.u64.wrap (c * 16 + k) = c * 16 + k := by rw [Wire.wrap_u64]; dsimp only at h'; omega
    clear h h'
    go_enter Tryz.func174, Tryz.ntmps174
    go_wp2_with (go_at_call 139; refine (H.out _).mono ?_; rintro e w1 ⟨rfl, hb⟩; obtain ⟨c0, c1, f0, f1⟩ := cells2 (new2 hb))
    go_ret
    exact ⟨rfl, below_alloc_call hb⟩
  · rw [Tm.chk_no h] at H
    rw [Tm.thing_no h]
    obtain ⟨c, k⟩ := t
    unfold Tm.v at H ⊢
    clear h
    go_enter Tryz.func174, Tryz.ntmps174
    go_wp2_with (go_at_call 139; refine (H.out _).mono ?_; rintro e w1 ⟨rfl, hb⟩)
    go_ret
    exact ⟨rfl, below_alloc_call hb⟩
set_option maxHeartbeats 400000 in
theorem rthing_any (t : Tm) (h0 : 0 ≤ t.c) (w : World) :
    Calls Tryz.prog 138 #[t.v] w fun e w' => e = .returned (.int .u64 t.thing) ∧ Below w.heap.size w w' := by
  have H : Hid (∀ w, Calls Tryz.prog 136 #[t.v] w fun e w' => e = .returned (.int .i64 t.chk) ∧ Below w.heap.size w w') := fun w => rcheck_any t h0 w
  clear h0
  by_cases h : t.Ok
  · rw [Tm.chk_ok h] at H
    rw [Tm.thing_ok h]
    have h' := h
    unfold Tm.Ok at h'
    obtain ⟨c, k⟩ := t
    unfold Tm.v at H ⊢
    have hk : IntKind.u64.wrap k = k := by rw [Wire.wrap_u64]; dsimp only at h'; omega
    have hc : IntKind.u64.wrap (c * 16) = c * 16 := by rw [Wire.wrap_u64]; dsimp only at h'; omega
    have hs : IntKind.u64.wrap (c * 16 + k) = c * 16 + k := by rw [Wire.wrap_u64]; dsimp only at h'; omega
    clear h h'
    go_enter Tryz.func138, Tryz.ntmps138
    go_wp2_with (go_at_call 136; refine (H.out _).mono ?_; rintro e w1 ⟨rfl, hb⟩; obtain ⟨c0, c1, f0, f1⟩ := cells2 (new2 hb))
    go_ret
    exact ⟨rfl, below_alloc_call hb⟩
  · rw [Tm.chk_no h] at H
    rw [Tm.thing_no h]
    obtain ⟨c, k⟩ := t
    unfold Tm.v at H ⊢
    clear h
    go_enter Tryz.func138, Tryz.ntmps138
    go_wp2_with (go_at_call 136; refine (H.out _).mono ?_; rintro e w1 ⟨rfl, hb⟩)
    go_ret
    exact ⟨rfl, below_alloc_call hb⟩
set_option maxHeartbeats 400000 in
theorem made_any (n : Int) (w : World) :
    Calls Tryz.prog 140 #[.int .u64 n] w fun e w' => e = .returned (.bool (decide (16 ≤ n) && decide (n ≤ 4503599627370495))) ∧ w' = w := by
  by_cases h : 16 ≤ n
  · go_enter Tryz.func140, Tryz.ntmps140
    go_wp2
    go_ret
    exact ⟨by simp [h], rfl⟩
  · have h' : decide (16 ≤ n) = false := decide_eq_false h
    go_enter Tryz.func140, Tryz.ntmps140
    go_wp2
    go_ret
    exact ⟨by simp, rfl⟩
set_option maxHeartbeats 400000 in
theorem rmade_any (n : Int) (w : World) :
    Calls Tryz.prog 137 #[.int .u64 n] w fun e w' => e = .returned (.bool (decide (16 ≤ n) && decide (n ≤ 4503599627370495))) ∧ w' = w := by
  by_cases h : 16 ≤ n
  · go_enter Tryz.func137, Tryz.ntmps137
    go_wp2
    go_ret
    exact ⟨by simp [h], rfl⟩
  · have h' : decide (16 ≤ n) = false := decide_eq_false h
    go_enter Tryz.func137, Tryz.ntmps137
    go_wp2
    go_ret
    exact ⟨by simp, rfl⟩
end Go.Proofs.YtkbboddibgfjbaaGreatDoor
/- Contracts: a time off a reader, the program's and the document's; a time put; its bytes. -/
namespace Go.Wire
open Go.Stamp
theorem results_cells2 {P : Program} {fn : Func} {p u : Tmp} {ty ty' : TypeId} (h : fn.results = #[.cell p ty, .cell u ty']) (tmps : Array Value) (w : World) (g : Nat) (t : TypeId) (cs : Array Value) (fr : Nat × Nat) (d : TypeDesc)
    (hp : tmps.getD p undef = .pointer (some ⟨g, 0, none⟩)) (hg : w.heap[g]? = some (.cells cs t fr))
    (hu : P.underlying ty = some d) (hd : (match d with | .struct _ | .array _ _ => true | _ => false) = true) (hi : (P.info? ty).map (·.size) = some cs.size)
    (g' : Nat) (t' : TypeId) (cs' : Array Value) (fr' : Nat × Nat) (d' : TypeDesc)
    (hp' : tmps.getD u undef = .pointer (some ⟨g', 0, none⟩)) (hg' : w.heap[g']? = some (.cells cs' t' fr'))
    (hu' : P.underlying ty' = some d') (hd' : (match d' with | .struct _ | .array _ _ => true | _ => false) = true) (hi' : (P.info? ty').map (·.size) = some cs'.size) :
    (results fn tmps).run P w = .ok (.tuple #[.agg cs, .agg cs']) w := by
  have a : tmps[p]?.getD undef = .pointer (some ⟨g, 0, none⟩) := by simpa using hp
  have b : tmps[u]?.getD undef = .pointer (some ⟨g', 0, none⟩) := by simpa using hp'
  simp [results, h, a, b, asAddr, run_loadVar_row w g t ty cs fr d hg hu hd hi, run_loadVar_row w g' t' ty' cs' fr' d' hg' hu' hd' hi']
end Go.Wire
namespace Go.Proofs.YtkbboddibgfjbaaGreatDoor
open Go.RowKit Go.Wire Go.Stamp
/-- What Take holds behind its two numbers and the check. -/
def TakeAt (T S b g h : Nat) (r : St) (c k : Int) (w0 w : World) : Prop :=
  Rd T b r w ∧ w.heap[g]? = some (.cells #[.int .u64 0, .int .i64 0] S (0, 0)) ∧ w.heap[h]? = some (.cells #[.int .u64 c, .int .i64 k] S (0, 0)) ∧ Kept b w0 w
theorem takeAt_of {T S b : Nat} {q p r : St} {c k : Int} {w w1 w2 w3 : World} (h : Rd T b q w) (k1 : Kept b (w.alloc (.cells #[.int .u64 0, .int .i64 0] S)) w1) (_ : Rd T b p w1) (h2 : Rd T b r w2) (k2 : Kept b w1 w2)
    (k3 : Below (w2.alloc (.cells #[.int .u64 c, .int .i64 k] S)).heap.size (w2.alloc (.cells #[.int .u64 c, .int .i64 k] S)) w3) : TakeAt T S b w.heap.size w2.heap.size r c k w w3 := by
  have hlt := h.lt
  have ka : Kept b w (w.alloc (.cells #[.int .u64 0, .int .i64 0] S)) := Kept.of_below ((Below.refl _ _).alloc (Nat.le_refl _) _) hlt
  have kb : Kept b w w2 := (ka.trans k1).trans k2
  have kc : Below w2.heap.size w2 w3 := below_alloc_call k3
  have hz : (w.alloc (.cells #[.int .u64 0, .int .i64 0] S)).heap[w.heap.size]? = some (.cells #[.int .u64 0, .int .i64 0] S (0, 0)) := heap_alloc_new _ _
  have hz1 := (k1.other w.heap.size (by omega) (by simp)).trans hz
  have hz2 := (k2.other w.heap.size (by omega) (Nat.lt_of_lt_of_le (by simp) k1.below.size)).trans hz1
  exact ⟨h2.of_heap (kc.block b h2.lt), kept_block hz2 kc, kept_block (heap_alloc_new _ _) k3, kb.trans (Kept.of_below kc h2.lt)⟩
theorem rd2 {T b g : Nat} {r : St} {w : World} (h : Rd T b r w) (hg : b ≠ g) {x y : Value} : Rd T b r ((w.setCell ⟨g, 0, none⟩ x).setCell ⟨g, 1, none⟩ y) :=
  h.of_heap ((Below.heap_setCell _ ⟨g, 1, none⟩ y b hg).trans (Below.heap_setCell _ ⟨g, 0, none⟩ x b hg))
set_option maxHeartbeats 1000000 in
theorem take_any (b : Nat) (q : St) (w : World) (h : Rd 246 b q w) (hq : q.pos ≤ q.s.size) (hs : q.s.size ≤ maxLen) :
    Calls Tryz.prog 165 #[.pointer (some ⟨b, 0, none⟩)] w fun e w' => e = .returned q.stamp.2.v ∧ Rd 246 b q.stamp.1 w' ∧ Kept b w w' := by
  have HN8 : ∀ {w : World}, Rd 246 b q w → Hid (Calls Tryz.prog 127 #[.pointer (some ⟨b, 0, none⟩), .int .i64 8] w fun e w' => e = .returned (.int .u64 q.read.c) ∧ Rd 246 b (q.number 8).1 w' ∧ Kept b w w') := fun h => readerNumber_any b q 8 _ h hq hs
  have HN1 : ∀ {w : World}, Rd 246 b (q.number 8).1 w → Hid (Calls Tryz.prog 127 #[.pointer (some ⟨b, 0, none⟩), .int .i64 1] w fun e w' => e = .returned (.int .u64 q.read.k) ∧ Rd 246 b ((q.number 8).1.number 1).1 w' ∧ Kept b w w') := fun h => readerNumber_any b _ 1 _ h (by rw [St.number_s]; exact q.number_le 8 hq) (by rw [St.number_s]; exact hs)
  have HC : Hid (∀ w, Calls Tryz.prog 139 #[q.read.v] w fun e w' => e = .returned (.int .i64 q.read.chk) ∧ Below w.heap.size w w') := fun w => check_any _ w
  have hf := q.read_fits
  have hst : q.stamp = ((if q.read.Ok then ((q.number 8).1.number 1).1 else ((q.number 8).1.number 1).1.fail 40), if (if q.read.Ok then ((q.number 8).1.number 1).1 else ((q.number 8).1.number 1).1.fail 40).err = 0 then q.read else ⟨0, 0⟩) := rfl
  rw [hst]
  clear hst
  generalize q.read = t at HN8 HN1 HC hf
  generalize ((q.number 8).1.number 1).1 = r at HN1
  generalize (q.number 8).1 = p at HN8 HN1
  have hlt := h.lt
  have hk : IntKind.i64.wrap t.k = t.k := by simp [IntKind.wrap, IntKind.bits, IntKind.signed]; omega
  have HA : ∀ o, Rd 246 b q (w.alloc o) := fun o => Rd.of_heap h (heap_alloc_old w o hlt)
  have HB : Hid (∀ o, Rd 246 b q (w.alloc o)) := HA
  clear HA hq hs
  have HR : Hid (Rd 246 b q w) := h
  clear h
  by_cases hok : t.Ok
  · rw [Tm.chk_ok hok] at HC
    rw [if_pos hok]
    clear hok
    unfold Tm.v at HC
    by_cases he : r.err = 0
    · rw [if_pos he]
      unfold Tm.v
      go_enter Tryz.func165, Tryz.ntmps165
      go_wp2_with (first
        | (go_at_call_of 127 (Value.int IntKind.i64 8); refine (HN8 (HB.out _)).out.mono ?_; rintro e w1 ⟨rfl, h1, k1⟩)
        | (go_at_call_of 127 (Value.int IntKind.i64 1); refine (HN1 h1).out.mono ?_; rintro e w2 ⟨rfl, h2, k2⟩)
        | (go_at_call 139; refine (HC.out _).mono ?_; rintro e w3 ⟨rfl, k3⟩; have HT : Hid (TakeAt 246 56 b w.heap.size w2.heap.size r t.c t.k w w3) := takeAt_of HR.out k1 h1 h2 k2 k3; obtain ⟨c0, c1, c2, c3⟩ := cells2 HT.out.2.1; obtain ⟨d0, d1, d2, d3⟩ := cells2 HT.out.2.2.1; clear k1 h1 h2 k2 k3)
        | (go_at_call 169; refine (err_any b r _ HT.out.1).mono ?_; rintro e w' ⟨rfl, rfl⟩))
      obtain ⟨hRd, hz, _, hK⟩ := HT.out
      exact bodyPost_ret (results_cell_row Tryz.results165 _ _ _ _ _ (0, 0) _ rfl (set2 hz _ _) Tryz.underlying56 rfl info24) rfl ⟨rfl, rd2 hRd (by omega), (hK.setNew hlt (Nat.le_refl _) _ _).setNew hlt (Nat.le_refl _) _ _⟩
    · have g0 : (r.err == 0) = false := beq_eq_false_iff_ne.2 he
      rw [if_neg he]
      clear he
      unfold Tm.v
      go_enter Tryz.func165, Tryz.ntmps165
      go_wp2_with (first
        | (go_at_call_of 127 (Value.int IntKind.i64 8); refine (HN8 (HB.out _)).out.mono ?_; rintro e w1 ⟨rfl, h1, k1⟩)
        | (go_at_call_of 127 (Value.int IntKind.i64 1); refine (HN1 h1).out.mono ?_; rintro e w2 ⟨rfl, h2, k2⟩)
        | (go_at_call 139; refine (HC.out _).mono ?_; rintro e w3 ⟨rfl, k3⟩; have HT : Hid (TakeAt 246 56 b w.heap.size w2.heap.size r t.c t.k w w3) := takeAt_of HR.out k1 h1 h2 k2 k3; obtain ⟨c0, c1, c2, c3⟩ := cells2 HT.out.2.1; obtain ⟨d0, d1, d2, d3⟩ := cells2 HT.out.2.2.1; clear k1 h1 h2 k2 k3)
        | (go_at_call 169; refine (err_any b r _ HT.out.1).mono ?_; rintro e w' ⟨rfl, rfl⟩))
      obtain ⟨hRd, hz, _, hK⟩ := HT.out
      exact bodyPost_ret (results_cell_row Tryz.results165 _ _ _ _ _ (0, 0) _ rfl (set2 hz _ _) Tryz.underlying56 rfl info24) rfl ⟨rfl, rd2 hRd (by omega), (hK.setNew hlt (Nat.le_refl _) _ _).setNew hlt (Nat.le_refl _) _ _⟩
  · rw [Tm.chk_no hok] at HC
    rw [if_neg hok]
    clear hok
    unfold Tm.v at HC
    have he := r.fail_ne 40 (by decide)
    rw [if_neg he]
    have g0 : ((r.fail 40).err == 0) = false := beq_eq_false_iff_ne.2 he
    clear he
    unfold Tm.v
    go_enter Tryz.func165, Tryz.ntmps165
    go_wp2_with (first
      | (go_at_call_of 127 (Value.int IntKind.i64 8); refine (HN8 (HB.out _)).out.mono ?_; rintro e w1 ⟨rfl, h1, k1⟩)
      | (go_at_call_of 127 (Value.int IntKind.i64 1); refine (HN1 h1).out.mono ?_; rintro e w2 ⟨rfl, h2, k2⟩)
      | (go_at_call 139; refine (HC.out _).mono ?_; rintro e w3 ⟨rfl, k3⟩; have HT : Hid (TakeAt 246 56 b w.heap.size w2.heap.size r t.c t.k w w3) := takeAt_of HR.out k1 h1 h2 k2 k3; obtain ⟨c0, c1, c2, c3⟩ := cells2 HT.out.2.1; obtain ⟨d0, d1, d2, d3⟩ := cells2 HT.out.2.2.1; clear k1 h1 h2 k2 k3)
      | (go_at_call 160; refine (fail_any b r 40 _ HT.out.1).mono ?_; rintro e w4 ⟨rfl, h4, k4⟩; have hz : w4.heap[w.heap.size]? = some (.cells #[.int .u64 0, .int .i64 0] 56 (0, 0)) := (k4.other w.heap.size (by omega) (row_lt HT.out.2.1)).trans HT.out.2.1; obtain ⟨e0, e1, e2, e3⟩ := cells2 hz)
      | (go_at_call 169; refine (err_any b _ _ h4).mono ?_; rintro e w' ⟨rfl, rfl⟩))
    have hK := HT.out.2.2.2.trans k4
    exact bodyPost_ret (results_cell_row Tryz.results165 _ _ _ _ _ (0, 0) _ rfl (set2 hz _ _) Tryz.underlying56 rfl info24) rfl ⟨rfl, rd2 h4 (by omega), (hK.setNew hlt (Nat.le_refl _) _ _).setNew hlt (Nat.le_refl _) _ _⟩
/-- What the document's Take holds: two readers and two times, in four blocks of its own. -/
structure Four (T S g : Nat) (q r : St) (a t : Tm) (w0 w : World) : Prop where
  b0 : w.heap[g]? = some (.cells #[.string q.s, .int .i64 q.pos, .int .i64 q.err] T (0, 0))
  b1 : w.heap[g + 1]? = some (.cells #[.string r.s, .int .i64 r.pos, .int .i64 r.err] T (0, 0))
  b2 : w.heap[g + 2]? = some (.cells #[.int .u64 a.c, .int .i64 a.k] S (0, 0))
  b3 : w.heap[g + 3]? = some (.cells #[.int .u64 t.c, .int .i64 t.k] S (0, 0))
  below : Below g w0 w
theorem Four.step {T S g : Nat} {q r : St} {a t : Tm} {w0 w w' : World} (i : Four T S g q r a t w0 w) (k : Below w.heap.size w w') : Four T S g q r a t w0 w' :=
  ⟨kept_block i.b0 k, kept_block i.b1 k, kept_block i.b2 k, kept_block i.b3 k, i.below.trans (k.mono (Nat.le_of_lt (row_lt i.b0)))⟩
theorem Four.set0 {T S g : Nat} {q r : St} {a t : Tm} {w0 w : World} (i : Four T S g q r a t w0 w) (p : St) : Four T S g p r a t w0 (((w.setCell ⟨g, 0, none⟩ (.string p.s)).setCell ⟨g, 1, none⟩ (.int .i64 p.pos)).setCell ⟨g, 2, none⟩ (.int .i64 p.err)) := by
  have o : ∀ k, k ≠ g → (((w.setCell ⟨g, 0, none⟩ (.string p.s)).setCell ⟨g, 1, none⟩ (.int .i64 p.pos)).setCell ⟨g, 2, none⟩ (.int .i64 p.err)).heap[k]? = w.heap[k]? := fun k hk =>
    ((Below.heap_setCell _ ⟨g, 2, none⟩ _ k hk).trans (Below.heap_setCell _ ⟨g, 1, none⟩ _ k hk)).trans (Below.heap_setCell _ ⟨g, 0, none⟩ _ k hk)
  exact ⟨Wire.set3 i.b0 _ _ _, (o _ (by omega)).trans i.b1, (o _ (by omega)).trans i.b2, (o _ (by omega)).trans i.b3, below3 i.below (Nat.le_refl _) _ _ _⟩
theorem Four.setErr {T S g : Nat} {q r : St} {a t : Tm} {w0 w : World} (i : Four T S g q r a t w0 w) (e : Int) : Four T S g ⟨q.s, q.pos, e⟩ r a t w0 (w.setCell ⟨g, 2, none⟩ (.int .i64 e)) := by
  have o : ∀ k, k ≠ g → (w.setCell ⟨g, 2, none⟩ (.int .i64 e)).heap[k]? = w.heap[k]? := fun k hk => Below.heap_setCell _ ⟨g, 2, none⟩ _ k hk
  exact ⟨by rw [heap_setCell_same _ _ _ _ _ _ i.b0]; rfl, (o _ (by omega)).trans i.b1, (o _ (by omega)).trans i.b2, (o _ (by omega)).trans i.b3, i.below.setCell (p := ⟨g, 2, none⟩) (Nat.le_refl _) _⟩
theorem Four.set3 {T S g : Nat} {q r : St} {a t : Tm} {w0 w : World} (i : Four T S g q r a t w0 w) (x y : Int) : Four T S g q r a ⟨x, y⟩ w0 ((w.setCell ⟨g + 3, 0, none⟩ (.int .u64 x)).setCell ⟨g + 3, 1, none⟩ (.int .i64 y)) := by
  have o : ∀ k, k ≠ g + 3 → ((w.setCell ⟨g + 3, 0, none⟩ (.int .u64 x)).setCell ⟨g + 3, 1, none⟩ (.int .i64 y)).heap[k]? = w.heap[k]? := fun k hk =>
    (Below.heap_setCell _ ⟨g + 3, 1, none⟩ _ k hk).trans (Below.heap_setCell _ ⟨g + 3, 0, none⟩ _ k hk)
  exact ⟨(o _ (by omega)).trans i.b0, (o _ (by omega)).trans i.b1, (o _ (by omega)).trans i.b2, Stamp.set2 i.b3 _ _, below2 i.below (by omega) _ _⟩
theorem Four.set1 {T S g : Nat} {q r : St} {a t : Tm} {w0 w : World} (i : Four T S g q r a t w0 w) (p : St) : Four T S g q p a t w0 (((w.setCell ⟨g + 1, 0, none⟩ (.string p.s)).setCell ⟨g + 1, 1, none⟩ (.int .i64 p.pos)).setCell ⟨g + 1, 2, none⟩ (.int .i64 p.err)) := by
  have o : ∀ k, k ≠ g + 1 → (((w.setCell ⟨g + 1, 0, none⟩ (.string p.s)).setCell ⟨g + 1, 1, none⟩ (.int .i64 p.pos)).setCell ⟨g + 1, 2, none⟩ (.int .i64 p.err)).heap[k]? = w.heap[k]? := fun k hk =>
    ((Below.heap_setCell _ ⟨g + 1, 2, none⟩ _ k hk).trans (Below.heap_setCell _ ⟨g + 1, 1, none⟩ _ k hk)).trans (Below.heap_setCell _ ⟨g + 1, 0, none⟩ _ k hk)
  exact ⟨(o _ (by omega)).trans i.b0, Wire.set3 i.b1 _ _ _, (o _ (by omega)).trans i.b2, (o _ (by omega)).trans i.b3, below3 i.below (by omega) _ _ _⟩
theorem Four.set2 {T S g : Nat} {q r : St} {a t : Tm} {w0 w : World} (i : Four T S g q r a t w0 w) (x y : Int) : Four T S g q r ⟨x, y⟩ t w0 ((w.setCell ⟨g + 2, 0, none⟩ (.int .u64 x)).setCell ⟨g + 2, 1, none⟩ (.int .i64 y)) := by
  have o : ∀ k, k ≠ g + 2 → ((w.setCell ⟨g + 2, 0, none⟩ (.int .u64 x)).setCell ⟨g + 2, 1, none⟩ (.int .i64 y)).heap[k]? = w.heap[k]? := fun k hk =>
    (Below.heap_setCell _ ⟨g + 2, 1, none⟩ _ k hk).trans (Below.heap_setCell _ ⟨g + 2, 0, none⟩ _ k hk)
  exact ⟨(o _ (by omega)).trans i.b0, (o _ (by omega)).trans i.b1, Stamp.set2 i.b2 _ _, (o _ (by omega)).trans i.b3, below2 i.below (by omega) _ _⟩
theorem Four.drew {T S g : Nat} {q r : St} {a t : Tm} {w0 w : World} (i : Four T S g q r a t w0 w) : Four T S g q r a t w0 w.drew := ⟨i.b0, i.b1, i.b2, i.b3, i.below.drew⟩
theorem new_at {w : World} {n : Nat} (h : w.heap.size = n) (o : Obj) : (w.alloc o).heap[n]? = some o := h ▸ heap_alloc_new w o
theorem four0 {T S : Nat} {q r : St} {a t : Tm} {w w1 : World}
    (k : Below ((((w.alloc (.cells #[.string q.s, .int .i64 q.pos, .int .i64 q.err] T)).alloc (.cells #[.string r.s, .int .i64 r.pos, .int .i64 r.err] T)).alloc (.cells #[.int .u64 a.c, .int .i64 a.k] S)).alloc (.cells #[.int .u64 t.c, .int .i64 t.k] S)).heap.size
      ((((w.alloc (.cells #[.string q.s, .int .i64 q.pos, .int .i64 q.err] T)).alloc (.cells #[.string r.s, .int .i64 r.pos, .int .i64 r.err] T)).alloc (.cells #[.int .u64 a.c, .int .i64 a.k] S)).alloc (.cells #[.int .u64 t.c, .int .i64 t.k] S)) w1) : Four T S w.heap.size q r a t w w1 := by
  refine Four.step ⟨?_, ?_, ?_, ?_, ?_⟩ k
  · exact kept_alloc (kept_alloc (kept_alloc (heap_alloc_new _ _) _) _) _
  · exact kept_alloc (kept_alloc (new_at (by simp) _) _) _
  · exact kept_alloc (new_at (by simp) _) _
  · exact new_at (by simp) _
  · exact ((((Below.refl _ _).alloc (Nat.le_refl _) _).alloc (by simp) _).alloc (by simp; omega) _).alloc (by simp; omega) _
set_option maxHeartbeats 1000000 in
theorem rtake_any (q : St) (w : World) (hq : q.pos ≤ q.s.size) (hs : q.s.size ≤ maxLen) :
    Calls Tryz.prog 95 #[q.v] w fun e w' => e = .returned (.tuple #[q.stamp.1.v, q.stamp.2.v]) ∧ Below w.heap.size w w' := by
  have HN8 : Hid (∀ w : World, Calls Tryz.prog 60 #[q.v, .int .i64 8] w fun e w' => e = .returned (.tuple #[(q.number 8).1.v, .int .u64 q.read.c]) ∧ Below w.heap.size w w') := fun w => rnumber_any q 8 w hq hs
  have HN1 : Hid (∀ w : World, Calls Tryz.prog 60 #[(q.number 8).1.v, .int .i64 1] w fun e w' => e = .returned (.tuple #[((q.number 8).1.number 1).1.v, .int .u64 q.read.k]) ∧ Below w.heap.size w w') := fun w => rnumber_any _ 1 w (by rw [St.number_s]; exact q.number_le 8 hq) (by rw [St.number_s]; exact hs)
  have hf := q.read_fits
  have HC : Hid (∀ w, Calls Tryz.prog 136 #[q.read.v] w fun e w' => e = .returned (.int .i64 q.read.chk) ∧ Below w.heap.size w w') := fun w => rcheck_any _ hf.2.2.2 w
  have hst : q.stamp = ((if q.read.Ok then ((q.number 8).1.number 1).1 else ((q.number 8).1.number 1).1.fail 40), if (if q.read.Ok then ((q.number 8).1.number 1).1 else ((q.number 8).1.number 1).1.fail 40).err = 0 then q.read else ⟨0, 0⟩) := rfl
  rw [hst]
  clear hst hq hs
  generalize q.read = t at HN8 HN1 HC hf
  generalize ((q.number 8).1.number 1).1 = r at HN1
  generalize (q.number 8).1 = p at HN8 HN1
  have hk : IntKind.i64.wrap t.k = t.k := by simp [IntKind.wrap, IntKind.bits, IntKind.signed]; omega
  clear hf
  unfold St.v at HN8 HN1
  unfold Tm.v at HC
  by_cases he : r.err = 0
  · obtain ⟨rs, rp, re⟩ := r
    dsimp only at he
    subst he
    by_cases hok : t.Ok
    · rw [Tm.chk_ok hok] at HC
      rw [if_pos hok, if_pos rfl]
      unfold St.v Tm.v
      clear hok
      go_enter Tryz.func95, Tryz.ntmps95
      go_wp2_with (first
        | (go_at_call_of 60 (Value.int IntKind.i64 8); refine (HN8.out _).mono ?_; rintro e w1 ⟨rfl, k1⟩; have HF : Hid (Four 119 47 w.heap.size q ⟨⟨#[]⟩, 0, 0⟩ ⟨0, 0⟩ ⟨0, 0⟩ w w1) := four0 k1; clear k1; obtain ⟨a0, a1, a2, a3, a4, a5⟩ := cells3 HF.out.b0)
        | (go_at_call_of 60 (Value.int IntKind.i64 1); refine (HN1.out _).mono ?_; rintro e w2 ⟨rfl, k2⟩; replace HF : Hid (Four 119 47 w.heap.size p ⟨⟨#[]⟩, 0, 0⟩ ⟨0, 0⟩ ⟨0, 0⟩ w w2) := (HF.out.set0 p).step k2; clear k2 a0 a1 a2 a3 a4 a5; obtain ⟨a0, a1, a2, a3, a4, a5⟩ := cells3 HF.out.b0; obtain ⟨b0, b1, b2, b3⟩ := cells2 HF.out.b3; obtain ⟨m0, m1, m2, m3, m4, m5⟩ := cells3 HF.out.b1; obtain ⟨n0, n1, n2, n3⟩ := cells2 HF.out.b2)
        | (go_at_call 136; refine (HC.out _).mono ?_; rintro e w3 ⟨rfl, k3⟩; replace HF : Hid (Four 119 47 w.heap.size ⟨rs, rp, 0⟩ ⟨⟨#[]⟩, 0, 0⟩ ⟨0, 0⟩ t w w3) := ((HF.out.set0 ⟨rs, rp, 0⟩).set3 t.c t.k).step k3; clear k3 a0 a1 a2 a3 a4 a5 b0 b1 b2 b3 m0 m1 m2 m3 m4 m5 n0 n1 n2 n3; obtain ⟨a0, a1, a2, a3, a4, a5⟩ := cells3 HF.out.b0; obtain ⟨b0, b1, b2, b3⟩ := cells2 HF.out.b3; obtain ⟨m0, m1, m2, m3, m4, m5⟩ := cells3 HF.out.b1; obtain ⟨n0, n1, n2, n3⟩ := cells2 HF.out.b2))
      go_region
      go_wp2
      have HZ := (((HF.out.setErr 0).set1 ⟨rs, rp, 0⟩).set2 t.c t.k).drew
      exact bodyPost_ret (results_cells2 Tryz.results95 _ _ _ _ _ (0, 0) _ rfl HZ.b1 Tryz.underlying119 rfl infoRef _ _ _ (0, 0) _ rfl HZ.b2 Tryz.underlying47 rfl info27) rfl ⟨rfl, HZ.below⟩
    · rw [Tm.chk_no hok] at HC
      rw [if_neg hok, St.fail, if_pos rfl, if_neg (show ¬ ((40 : Int) = 0) by decide)]
      unfold St.v Tm.v
      clear hok
      go_enter Tryz.func95, Tryz.ntmps95
      go_wp2_with (first
        | (go_at_call_of 60 (Value.int IntKind.i64 8); refine (HN8.out _).mono ?_; rintro e w1 ⟨rfl, k1⟩; have HF : Hid (Four 119 47 w.heap.size q ⟨⟨#[]⟩, 0, 0⟩ ⟨0, 0⟩ ⟨0, 0⟩ w w1) := four0 k1; clear k1; obtain ⟨a0, a1, a2, a3, a4, a5⟩ := cells3 HF.out.b0)
        | (go_at_call_of 60 (Value.int IntKind.i64 1); refine (HN1.out _).mono ?_; rintro e w2 ⟨rfl, k2⟩; replace HF : Hid (Four 119 47 w.heap.size p ⟨⟨#[]⟩, 0, 0⟩ ⟨0, 0⟩ ⟨0, 0⟩ w w2) := (HF.out.set0 p).step k2; clear k2 a0 a1 a2 a3 a4 a5; obtain ⟨a0, a1, a2, a3, a4, a5⟩ := cells3 HF.out.b0; obtain ⟨b0, b1, b2, b3⟩ := cells2 HF.out.b3; obtain ⟨m0, m1, m2, m3, m4, m5⟩ := cells3 HF.out.b1; obtain ⟨n0, n1, n2, n3⟩ := cells2 HF.out.b2)
        | (go_at_call 136; refine (HC.out _).mono ?_; rintro e w3 ⟨rfl, k3⟩; replace HF : Hid (Four 119 47 w.heap.size ⟨rs, rp, 0⟩ ⟨⟨#[]⟩, 0, 0⟩ ⟨0, 0⟩ t w w3) := ((HF.out.set0 ⟨rs, rp, 0⟩).set3 t.c t.k).step k3; clear k3 a0 a1 a2 a3 a4 a5 b0 b1 b2 b3 m0 m1 m2 m3 m4 m5 n0 n1 n2 n3; obtain ⟨a0, a1, a2, a3, a4, a5⟩ := cells3 HF.out.b0; obtain ⟨b0, b1, b2, b3⟩ := cells2 HF.out.b3; obtain ⟨m0, m1, m2, m3, m4, m5⟩ := cells3 HF.out.b1; obtain ⟨n0, n1, n2, n3⟩ := cells2 HF.out.b2))
      have HZ := ((HF.out.setErr 40).set1 ⟨rs, rp, 40⟩).set2 0 0
      exact bodyPost_ret (results_cells2 Tryz.results95 _ _ _ _ _ (0, 0) _ rfl HZ.b1 Tryz.underlying119 rfl infoRef _ _ _ (0, 0) _ rfl HZ.b2 Tryz.underlying47 rfl info27) rfl ⟨rfl, HZ.below⟩
  · have e : (if t.Ok then r else r.fail 40) = r := by
      split
      · rfl
      · rw [St.fail, if_neg he]
    rw [e, if_neg he]
    have g0 : (r.err == 0) = false := beq_eq_false_iff_ne.2 he
    unfold St.v Tm.v
    clear e he
    go_enter Tryz.func95, Tryz.ntmps95
    go_wp2_with (first
      | (go_at_call_of 60 (Value.int IntKind.i64 8); refine (HN8.out _).mono ?_; rintro e w1 ⟨rfl, k1⟩; have HF : Hid (Four 119 47 w.heap.size q ⟨⟨#[]⟩, 0, 0⟩ ⟨0, 0⟩ ⟨0, 0⟩ w w1) := four0 k1; clear k1; obtain ⟨a0, a1, a2, a3, a4, a5⟩ := cells3 HF.out.b0)
      | (go_at_call_of 60 (Value.int IntKind.i64 1); refine (HN1.out _).mono ?_; rintro e w2 ⟨rfl, k2⟩; replace HF : Hid (Four 119 47 w.heap.size p ⟨⟨#[]⟩, 0, 0⟩ ⟨0, 0⟩ ⟨0, 0⟩ w w2) := (HF.out.set0 p).step k2; clear k2 a0 a1 a2 a3 a4 a5; obtain ⟨a0, a1, a2, a3, a4, a5⟩ := cells3 HF.out.b0; obtain ⟨b0, b1, b2, b3⟩ := cells2 HF.out.b3; obtain ⟨m0, m1, m2, m3, m4, m5⟩ := cells3 HF.out.b1; obtain ⟨n0, n1, n2, n3⟩ := cells2 HF.out.b2)
      | (go_at_call 136; refine (HC.out _).mono ?_; rintro e w3 ⟨rfl, k3⟩; replace HF : Hid (Four 119 47 w.heap.size r ⟨⟨#[]⟩, 0, 0⟩ ⟨0, 0⟩ t w w3) := ((HF.out.set0 r).set3 t.c t.k).step k3; clear k3 a0 a1 a2 a3 a4 a5 b0 b1 b2 b3 m0 m1 m2 m3 m4 m5 n0 n1 n2 n3; obtain ⟨a0, a1, a2, a3, a4, a5⟩ := cells3 HF.out.b0; obtain ⟨b0, b1, b2, b3⟩ := cells2 HF.out.b3; obtain ⟨m0, m1, m2, m3, m4, m5⟩ := cells3 HF.out.b1; obtain ⟨n0, n1, n2, n3⟩ := cells2 HF.out.b2))
    have HZ := (((HF.out.set0 r).set3 t.c t.k).set1 r).set2 0 0
    exact bodyPost_ret (results_cells2 Tryz.results95 _ _ _ _ _ (0, 0) _ rfl HZ.b1 Tryz.underlying119 rfl infoRef _ _ _ (0, 0) _ rfl HZ.b2 Tryz.underlying47 rfl info27) rfl ⟨rfl, HZ.below⟩
theorem wat_ne {T B g : Nat} {v : Value} {l : List UInt8} {w : World} (h : WAt T B v l w) (hg : w.heap.size ≤ g) : v ≠ .pointer (some ⟨g, 0, none⟩) := by
  rcases h with rfl | ⟨b, rfl, _, p, x, _, hb, _⟩
  · intro e; cases e
  · intro e
    have : b = g := by simpa using e
    have := row_lt hb
    omega
set_option maxHeartbeats 400000 in
theorem put_any (B : Nat) (v : Value) (l : List UInt8) (c k : Nat) (w : World) (h : WAt 230 B v l w) (hl : v = .pointer none ∨ l.length + 32 ≤ 140737488355328) (hB : B ≤ w.heap.size) (hc : c < 18446744073709551616) (hk : k < 256) :
    Calls Tryz.prog 145 #[v, .agg #[.int .u64 c, .int .i64 k]] w fun e w' => e = .returned (.tuple #[]) ∧ WAt 230 B v (l ++ num 16 c ++ num 2 k) w' ∧ Wrote B v w w' := by
  have e1 : IntKind.u64.wrap (k : Int) = k := by rw [Wire.wrap_u64]; omega
  have H1 : Hid (∀ o, Calls Tryz.prog 103 #[v, .int .u64 c, .int .i64 8] (w.alloc o) fun e w' => e = .returned (.tuple #[]) ∧ WAt 230 B v (l ++ num 16 c) w' ∧ Wrote B v (w.alloc o) w') := fun o =>
    wnumber_sp B v l c 8 _ (h.below ((Below.refl _ _).alloc (Nat.le_refl _) _)) (hl.imp id fun x => by omega) (by simp; omega) hc
  have H2 : Hid (∀ w', WAt 230 B v (l ++ num 16 c) w' → B ≤ w'.heap.size → Calls Tryz.prog 103 #[v, .int .u64 k, .int .i64 1] w' fun e w'' => e = .returned (.tuple #[]) ∧ WAt 230 B v (l ++ num 16 c ++ num 2 k) w'' ∧ Wrote B v w' w'') := fun w' h' hB' =>
    wnumber_sp B v _ k 1 w' h' (hl.imp id fun x => by rw [List.length_append, num_length]; omega) hB' (by omega)
  have HA : Hid (∀ o, Wrote B v w (w.alloc o)) := fun o => Wrote.of ((Below.refl _ _).alloc (Nat.le_refl _) o) hB
  have HB : Hid (B ≤ w.heap.size) := hB
  have HV : Hid (v ≠ .pointer (some ⟨w.heap.size, 0, none⟩)) := wat_ne h (Nat.le_refl _)
  clear h hl hB
  go_enter Tryz.func145, Tryz.ntmps145
  go_wp2_with (first
    | (go_at_call_of 103 (Value.int IntKind.i64 8); refine (H1.out _).mono ?_; rintro e w1 ⟨rfl, h1, k1⟩; obtain ⟨c0, c1, c2, c3⟩ := cells2 (k1.row HV.out (by decide) (heap_alloc_new _ _)))
    | (go_at_call_of 103 (Value.int IntKind.i64 1); refine (H2.out _ h1 (Nat.le_trans HB.out (Nat.le_trans (by simp) k1.below.size))).mono ?_; rintro e w2 ⟨rfl, h2, k2⟩))
  go_end0
  exact ⟨rfl, h2, ((HA.out _).trans k1).trans k2⟩
set_option maxHeartbeats 400000 in
theorem rbytesOf_any (c k : Nat) (w : World) (hc : c < 18446744073709551616) (hk : k < 256) :
    Calls Tryz.prog 70 #[.agg #[.int .u64 c, .int .i64 k]] w fun e w' => e = .returned (.string (numB 16 c ++ numB 2 k)) ∧ Below w.heap.size w w' := by
  have e1 : IntKind.u64.wrap (k : Int) = k := by rw [Wire.wrap_u64]; omega
  have H1 : Hid (∀ w, Calls Tryz.prog 42 #[.int .u64 c, .int .i64 8] w fun e w' => e = .returned (.string (numB 16 c)) ∧ Below w.heap.size w w') := fun w => rnum_any c 8 w hc (by decide)
  have H2 : Hid (∀ w, Calls Tryz.prog 42 #[.int .u64 k, .int .i64 1] w fun e w' => e = .returned (.string (numB 2 k)) ∧ Below w.heap.size w w') := fun w => rnum_any k 1 w (by omega) (by decide)
  have z1 := numB_size 16 c
  have z2 := numB_size 2 k
  generalize numB 16 c = x at H1 z1
  generalize numB 2 k = y at H2 z2
  go_enter Tryz.func70, Tryz.ntmps70
  go_wp2_with fail
  obtain ⟨W, hW⟩ : ∃ W, W = w.alloc (.cells #[.int .u64 c, .int .i64 k] 47) := ⟨_, rfl⟩
  rw [← hW]
  have HW : Hid (Below w.heap.size w W) := by rw [hW]; exact (Below.refl _ _).alloc (Nat.le_refl _) _
  obtain ⟨a0, a1, _, _⟩ := cells2 (show W.heap[w.heap.size]? = some (.cells #[.int .u64 c, .int .i64 k] 47 (0, 0)) by rw [hW]; exact heap_alloc_new _ _)
  clear hW
  have c0 := cell_regrown a0
  have c1 := cell_regrown a1
  clear a0 a1
  refine QuietCalls.region (by kernel_rfl) (by kernel_rfl) ?_
  first | go_big_quiet_step (fail) | quiet_step (fail)
  first | go_big_quiet_step (fail) | quiet_step (fail)
  refine QuietCalls.call2 rfl rfl Tryz.call42 (fun w _ => H1.out w) rfl rfl ?_; simp only [Act.put, List.setIfInBounds_toArray, List.set_cons_succ, List.set_cons_zero]
  first | go_big_quiet_step (fail) | quiet_step (fail)
  first | go_big_quiet_step (fail) | quiet_step (fail)
  first | go_big_quiet_step (fail) | quiet_step (fail)
  refine QuietCalls.call2 rfl rfl Tryz.call42 (fun w _ => H2.out w) rfl rfl ?_; simp only [Act.put, List.setIfInBounds_toArray, List.set_cons_succ, List.set_cons_zero]
  first | go_big_quiet_step (fail) | quiet_step (fail)
  first | go_big_quiet_step (fail) | quiet_step (fail)
  refine wpQuiet_nil ?_
  intro w2 k2
  go_wp2_with fail
  go_ret
  exact ⟨rfl, HW.out.trans (k2.mono HW.out.size)⟩
end Go.Proofs.YtkbboddibgfjbaaGreatDoor
/- Contracts of texts and frames: the program's and the document's. -/
namespace Go.Wire
def textB (s : ByteArray) : ByteArray := numB 8 s.size ++ s
def frameB (s : ByteArray) : ByteArray := numB 8 s.size ++ numB 8 (fnv (textB s).data.toList) ++ s
theorem textB_size (s : ByteArray) : (textB s).size = s.size + 8 := by
  rw [textB, ByteArray.size_append, numB_size]; omega
theorem frameB_size (s : ByteArray) : (frameB s).size = s.size + 16 := by
  rw [frameB, ByteArray.size_append, ByteArray.size_append, numB_size, numB_size]; omega
end Go.Wire
namespace Go.Proofs.YtkbboddibgfjbaaGreatDoor
open Go.RowKit Go.Wire
set_option maxHeartbeats 400000 in
theorem rtextB_any (s : ByteArray) (w : World) (hs : s.size ≤ 1000000) :
    Calls Tryz.prog 71 #[.string s] w fun e w' => e = .returned (.string (textB s)) ∧ Below w.heap.size w w' := by
  have HN : Hid (∀ w : World, Calls Tryz.prog 42 #[.int .u64 s.size, .int .i64 4] w fun e w' => e = .returned (.string (numB 8 s.size)) ∧ Below w.heap.size w w') := fun w => rnum_any s.size 4 w (by omega) (by decide)
  have hz := numB_size 8 s.size
  unfold textB
  generalize numB 8 s.size = t at HN hz
  go_enter Tryz.func71, Tryz.ntmps71
  go_wp2_with (go_at_call 42; refine (HN.out _).mono ?_; rintro e w1 ⟨rfl, k1⟩)
  go_ret
  exact ⟨rfl, by assumption⟩
end Go.Proofs.YtkbboddibgfjbaaGreatDoor
