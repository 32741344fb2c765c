/- Several texts in one: StampLeaves, StampTake, OpLeaves. -/
import Derived.Test.YtdcgemaaohldmaaDoorRows
import Derived.Test.YtdcgemaaohldmaaDoorWireTwo
import Derived.Test.YtdcgemaaohldmaaDoorPureOp
import Derived.Test.YtdcgemaaohldmaaDoorWireThree
import Derived.Deep.MidRow
import Derived.Deep.Cut
import Derived.Deep.CutBlock
import Derived.Deep.DeepCutAuto
/- Contracts of the times' small functions. -/
namespace Go.Stamp
open Go.RowKit Go.Wire
theorem cells2 {w : World} {g : Nat} {a b : Value} {T : TypeId} (h : w.heap[g]? = some (.cells #[a, b] T (0, 0))) :
    w.cell? ⟨g, 0, none⟩ = some a ∧ w.cell? ⟨g, 1, none⟩ = some b ∧ w.frozen? ⟨g, 0, none⟩ = false ∧ w.frozen? ⟨g, 1, none⟩ = false :=
  ⟨cell_of_row _ _ _ _ _ _ h, cell_of_row _ _ _ _ _ _ h, frozen_of_row _ _ _ _ _ h, frozen_of_row _ _ _ _ _ h⟩
theorem set2 {w : World} {g : Nat} {a b : Value} {T : TypeId} (h : w.heap[g]? = some (.cells #[a, b] T (0, 0))) (x y : Value) :
    ((w.setCell ⟨g, 0, none⟩ x).setCell ⟨g, 1, none⟩ y).heap[g]? = some (.cells #[x, y] T (0, 0)) := by
  have h1 : (w.setCell ⟨g, 0, none⟩ x).heap[g]? = some (.cells #[x, b] T (0, 0)) := by rw [heap_setCell_same _ _ _ _ _ _ h]; rfl
  rw [heap_setCell_same _ _ _ _ _ _ h1]; rfl
theorem below2 {B g : Nat} {w w1 : World} (h : Below B w w1) (hg : B ≤ g) (x y : Value) : Below B w ((w1.setCell ⟨g, 0, none⟩ x).setCell ⟨g, 1, none⟩ y) :=
  (h.setCell (p := ⟨g, 0, none⟩) hg x).setCell (p := ⟨g, 1, none⟩) hg y
/-- Behind a block of one's own and a call. -/
theorem below_alloc_call {w w1 : World} {o : Obj} (h : Below (w.alloc o).heap.size (w.alloc o) w1) : Below w.heap.size w w1 :=
  ((Below.refl _ _).alloc (Nat.le_refl _) _).trans (h.mono (by simp))
/-- A new block of two cells behind a call. -/
theorem new2 {w w1 : World} {a b : Value} {T : TypeId} (h : Below (w.alloc (.cells #[a, b] T)).heap.size (w.alloc (.cells #[a, b] T)) w1) : w1.heap[w.heap.size]? = some (.cells #[a, b] T (0, 0)) :=
  kept_block (heap_alloc_new _ _) h
end Go.Stamp
namespace Go.Proofs.YtdcgemaaohldmaaDoor
open Go.RowKit Go.Wire Go.Stamp
set_option maxHeartbeats 400000 in
theorem replica_any (k : Int) (w : World) :
    Calls Tryd.prog 54 #[.int .i64 k] w fun e w' => e = .returned (.bool (decide (0 ≤ k ∧ k < 16))) ∧ w' = w := by
  by_cases h0 : 0 ≤ k
  · go_enter Tryd.func54, Tryd.ntmps54
    go_wp2
    go_ret
    exact ⟨by simp [h0], rfl⟩
  · go_enter Tryd.func54, Tryd.ntmps54
    go_wp2
    go_ret
    exact ⟨by have : decide (0 ≤ k) = false := decide_eq_false (by omega)
              simp [this], rfl⟩
theorem replica_is (k : Int) (b : Bool) (w : World) (h : decide (0 ≤ k ∧ k < 16) = b) :
    Calls Tryd.prog 54 #[.int .i64 k] w fun e w' => e = .returned (.bool b) ∧ w' = w := h ▸ replica_any k w
set_option maxHeartbeats 400000 in
theorem check_any (t : Tm) (w : World) :
    Calls Tryd.prog 26 #[t.v] w fun e w' => e = .returned (.int .i64 t.chk) ∧ Below w.heap.size w w' := by
  obtain ⟨c, k⟩ := t
  by_cases h1 : c < 1
  · rw [Tm.chk_no (by unfold Tm.Ok; dsimp only; omega)]; unfold Tm.v
    go_enter Tryd.func26, Tryd.ntmps26
    go_wp2
    go_ret
    exact ⟨rfl, (Below.refl _ _).alloc (Nat.le_refl _) _⟩
  by_cases h2 : 281474976710655 < c
  · rw [Tm.chk_no (by unfold Tm.Ok; dsimp only; omega)]; unfold Tm.v
    go_enter Tryd.func26, Tryd.ntmps26
    go_wp2
    go_ret
    exact ⟨rfl, (Below.refl _ _).alloc (Nat.le_refl _) _⟩
  by_cases h3 : 0 ≤ k ∧ k < 16
  · rw [Tm.chk_ok (by unfold Tm.Ok; dsimp only; omega)]; unfold Tm.v
    have hr := fun w => replica_is k true w (decide_eq_true h3)
    clear h3
    go_enter Tryd.func26, Tryd.ntmps26
    go_wp2_with (go_at_call 54; refine (hr _).mono ?_; rintro e w' ⟨rfl, rfl⟩)
    go_ret
    exact ⟨rfl, (Below.refl _ _).alloc (Nat.le_refl _) _⟩
  · rw [Tm.chk_no (by unfold Tm.Ok; dsimp only; omega)]; unfold Tm.v
    have hr := fun w => replica_is k false w (decide_eq_false h3)
    clear h3
    go_enter Tryd.func26, Tryd.ntmps26
    go_wp2_with (go_at_call 54; refine (hr _).mono ?_; rintro e w' ⟨rfl, rfl⟩)
    go_ret
    exact ⟨rfl, (Below.refl _ _).alloc (Nat.le_refl _) _⟩
set_option maxHeartbeats 400000 in
theorem rcheck_any (t : Tm) (h0 : 0 ≤ t.c) (w : World) :
    Calls Tryd.prog 22 #[t.v] w fun e w' => e = .returned (.int .i64 t.chk) ∧ Below w.heap.size w w' := by
  obtain ⟨c, k⟩ := t
  have h0 : 0 ≤ c := h0
  by_cases h1 : c = 0
  · subst h1
    rw [Tm.chk_no (by unfold Tm.Ok; dsimp only; omega)]; unfold Tm.v
    go_enter Tryd.func22, Tryd.ntmps22
    go_wp2
    go_ret
    exact ⟨rfl, (Below.refl _ _).alloc (Nat.le_refl _) _⟩
  have g1 : (c == 0) = false := beq_eq_false_iff_ne.2 h1
  by_cases h2 : 281474976710655 < c
  · rw [Tm.chk_no (by unfold Tm.Ok; dsimp only; omega)]; unfold Tm.v
    go_enter Tryd.func22, Tryd.ntmps22
    go_wp2
    go_ret
    exact ⟨rfl, (Below.refl _ _).alloc (Nat.le_refl _) _⟩
  by_cases h3 : k < 0
  · rw [Tm.chk_no (by unfold Tm.Ok; dsimp only; omega)]; unfold Tm.v
    go_enter Tryd.func22, Tryd.ntmps22
    go_wp2
    go_ret
    exact ⟨rfl, (Below.refl _ _).alloc (Nat.le_refl _) _⟩
  by_cases h4 : 15 < k
  · rw [Tm.chk_no (by unfold Tm.Ok; dsimp only; omega)]; unfold Tm.v
    go_enter Tryd.func22, Tryd.ntmps22
    go_wp2
    go_ret
    exact ⟨rfl, (Below.refl _ _).alloc (Nat.le_refl _) _⟩
  · rw [Tm.chk_ok (by unfold Tm.Ok; dsimp only; omega)]; unfold Tm.v
    go_enter Tryd.func22, Tryd.ntmps22
    go_wp2
    go_ret
    exact ⟨rfl, (Below.refl _ _).alloc (Nat.le_refl _) _⟩
theorem info24 : (Tryd.prog.info? 24).map (·.size) = some 2 := by kernel_rfl
theorem info27 : (Tryd.prog.info? 31).map (·.size) = some 2 := by kernel_rfl
set_option maxHeartbeats 400000 in
theorem ref_any (t : Tm) (w : World) :
    Calls Tryd.prog 25 #[t.v] w fun e w' => e = .returned t.v ∧ Below w.heap.size w w' := by
  obtain ⟨c, k⟩ := t
  unfold Tm.v
  go_enter Tryd.func25, Tryd.ntmps25
  go_wp2
  exact bodyPost_ret (results_cell_row Tryd.results25 _ _ _ _ _ (0, 0) _ rfl (heap_alloc2_new _ _ _) Tryd.underlying31 rfl info27) rfl ⟨rfl, ((Below.refl _ _).alloc (Nat.le_refl _) _).alloc (by simp) _⟩
set_option maxHeartbeats 400000 in
theorem thing_any (t : Tm) (w : World) :
    Calls Tryd.prog 55 #[t.v] w fun e w' => e = .returned (.int .u64 t.thing) ∧ Below w.heap.size w w' := by
  have H : Hid (∀ w, Calls Tryd.prog 26 #[t.v] w fun e w' => e = .returned (.int .i64 t.chk) ∧ Below w.heap.size w w') := fun w => check_any t w
  by_cases h : t.Ok
  · rw [Tm.chk_ok h] at H
    rw [Tm.thing_ok h]
    have h' := h
    unfold Tm.Ok at h'
    obtain ⟨c, k⟩ := t
    unfold Tm.v at H ⊢
    have hk : IntKind.u64.wrap k = k := by rw [Wire.wrap_u64]; dsimp only at h'; omega
    have hc : IntKind.u64.wrap (c * 16) = c * 16 := by rw [Wire.wrap_u64]; dsimp only at h'; omega
    have hs : IntKind.u64.wrap (c * 16 + k) = c * 16 + k := by rw [Wire.wrap_u64]; dsimp only at h'; omega
    clear h h'
    go_enter Tryd.func55, Tryd.ntmps55
    go_wp2_with (go_at_call 26; refine (H.out _).mono ?_; rintro e w1 ⟨rfl, hb⟩; obtain ⟨c0, c1, f0, f1⟩ := cells2 (new2 hb))
    go_ret
    exact ⟨rfl, below_alloc_call hb⟩
  · rw [Tm.chk_no h] at H
    rw [Tm.thing_no h]
    obtain ⟨c, k⟩ := t
    unfold Tm.v at H ⊢
    clear h
    go_enter Tryd.func55, Tryd.ntmps55
    go_wp2_with (go_at_call 26; refine (H.out _).mono ?_; rintro e w1 ⟨rfl, hb⟩)
    go_ret
    exact ⟨rfl, below_alloc_call hb⟩
set_option maxHeartbeats 400000 in
theorem rthing_any (t : Tm) (h0 : 0 ≤ t.c) (w : World) :
    Calls Tryd.prog 24 #[t.v] w fun e w' => e = .returned (.int .u64 t.thing) ∧ Below w.heap.size w w' := by
  have H : Hid (∀ w, Calls Tryd.prog 22 #[t.v] w fun e w' => e = .returned (.int .i64 t.chk) ∧ Below w.heap.size w w') := fun w => rcheck_any t h0 w
  clear h0
  by_cases h : t.Ok
  · rw [Tm.chk_ok h] at H
    rw [Tm.thing_ok h]
    have h' := h
    unfold Tm.Ok at h'
    obtain ⟨c, k⟩ := t
    unfold Tm.v at H ⊢
    have hk : IntKind.u64.wrap k = k := by rw [Wire.wrap_u64]; dsimp only at h'; omega
    have hc : IntKind.u64.wrap (c * 16) = c * 16 := by rw [Wire.wrap_u64]; dsimp only at h'; omega
    have hs : IntKind.u64.wrap (c * 16 + k) = c * 16 + k := by rw [Wire.wrap_u64]; dsimp only at h'; omega
    clear h h'
    go_enter Tryd.func24, Tryd.ntmps24
    go_wp2_with (go_at_call 22; refine (H.out _).mono ?_; rintro e w1 ⟨rfl, hb⟩; obtain ⟨c0, c1, f0, f1⟩ := cells2 (new2 hb))
    go_ret
    exact ⟨rfl, below_alloc_call hb⟩
  · rw [Tm.chk_no h] at H
    rw [Tm.thing_no h]
    obtain ⟨c, k⟩ := t
    unfold Tm.v at H ⊢
    clear h
    go_enter Tryd.func24, Tryd.ntmps24
    go_wp2_with (go_at_call 22; refine (H.out _).mono ?_; rintro e w1 ⟨rfl, hb⟩)
    go_ret
    exact ⟨rfl, below_alloc_call hb⟩
set_option maxHeartbeats 400000 in
theorem made_any (n : Int) (w : World) :
    Calls Tryd.prog 27 #[.int .u64 n] w fun e w' => e = .returned (.bool (decide (16 ≤ n) && decide (n ≤ 4503599627370495))) ∧ w' = w := by
  by_cases h : 16 ≤ n
  · go_enter Tryd.func27, Tryd.ntmps27
    go_wp2
    go_ret
    exact ⟨by simp [h], rfl⟩
  · have h' : decide (16 ≤ n) = false := decide_eq_false h
    go_enter Tryd.func27, Tryd.ntmps27
    go_wp2
    go_ret
    exact ⟨by simp, rfl⟩
set_option maxHeartbeats 400000 in
theorem rmade_any (n : Int) (w : World) :
    Calls Tryd.prog 23 #[.int .u64 n] w fun e w' => e = .returned (.bool (decide (16 ≤ n) && decide (n ≤ 4503599627370495))) ∧ w' = w := by
  by_cases h : 16 ≤ n
  · go_enter Tryd.func23, Tryd.ntmps23
    go_wp2
    go_ret
    exact ⟨by simp [h], rfl⟩
  · have h' : decide (16 ≤ n) = false := decide_eq_false h
    go_enter Tryd.func23, Tryd.ntmps23
    go_wp2
    go_ret
    exact ⟨by simp, rfl⟩
end Go.Proofs.YtdcgemaaohldmaaDoor
/- Contracts: a time off a reader, the program's and the document's; a time put; its bytes. -/
namespace Go.Wire
open Go.Stamp
theorem results_cells2 {P : Program} {fn : Func} {p u : Tmp} {ty ty' : TypeId} (h : fn.results = #[.cell p ty, .cell u ty']) (tmps : Array Value) (w : World) (g : Nat) (t : TypeId) (cs : Array Value) (fr : Nat × Nat) (d : TypeDesc)
    (hp : tmps.getD p undef = .pointer (some ⟨g, 0, none⟩)) (hg : w.heap[g]? = some (.cells cs t fr))
    (hu : P.underlying ty = some d) (hd : (match d with | .struct _ | .array _ _ => true | _ => false) = true) (hi : (P.info? ty).map (·.size) = some cs.size)
    (g' : Nat) (t' : TypeId) (cs' : Array Value) (fr' : Nat × Nat) (d' : TypeDesc)
    (hp' : tmps.getD u undef = .pointer (some ⟨g', 0, none⟩)) (hg' : w.heap[g']? = some (.cells cs' t' fr'))
    (hu' : P.underlying ty' = some d') (hd' : (match d' with | .struct _ | .array _ _ => true | _ => false) = true) (hi' : (P.info? ty').map (·.size) = some cs'.size) :
    (results fn tmps).run P w = .ok (.tuple #[.agg cs, .agg cs']) w := by
  have a : tmps[p]?.getD undef = .pointer (some ⟨g, 0, none⟩) := by simpa using hp
  have b : tmps[u]?.getD undef = .pointer (some ⟨g', 0, none⟩) := by simpa using hp'
  simp [results, h, a, b, asAddr, run_loadVar_row w g t ty cs fr d hg hu hd hi, run_loadVar_row w g' t' ty' cs' fr' d' hg' hu' hd' hi']
end Go.Wire
namespace Go.Proofs.YtdcgemaaohldmaaDoor
open Go.RowKit Go.Wire Go.Stamp
/-- What Take holds behind its two numbers and the check. -/
def TakeAt (T S b g h : Nat) (r : St) (c k : Int) (w0 w : World) : Prop :=
  Rd T b r w ∧ w.heap[g]? = some (.cells #[.int .u64 0, .int .i64 0] S (0, 0)) ∧ w.heap[h]? = some (.cells #[.int .u64 c, .int .i64 k] S (0, 0)) ∧ Kept b w0 w
theorem takeAt_of {T S b : Nat} {q p r : St} {c k : Int} {w w1 w2 w3 : World} (h : Rd T b q w) (k1 : Kept b (w.alloc (.cells #[.int .u64 0, .int .i64 0] S)) w1) (_ : Rd T b p w1) (h2 : Rd T b r w2) (k2 : Kept b w1 w2)
    (k3 : Below (w2.alloc (.cells #[.int .u64 c, .int .i64 k] S)).heap.size (w2.alloc (.cells #[.int .u64 c, .int .i64 k] S)) w3) : TakeAt T S b w.heap.size w2.heap.size r c k w w3 := by
  have hlt := h.lt
  have ka : Kept b w (w.alloc (.cells #[.int .u64 0, .int .i64 0] S)) := Kept.of_below ((Below.refl _ _).alloc (Nat.le_refl _) _) hlt
  have kb : Kept b w w2 := (ka.trans k1).trans k2
  have kc : Below w2.heap.size w2 w3 := below_alloc_call k3
  have hz : (w.alloc (.cells #[.int .u64 0, .int .i64 0] S)).heap[w.heap.size]? = some (.cells #[.int .u64 0, .int .i64 0] S (0, 0)) := heap_alloc_new _ _
  have hz1 := (k1.other w.heap.size (by omega) (by simp)).trans hz
  have hz2 := (k2.other w.heap.size (by omega) (Nat.lt_of_lt_of_le (by simp) k1.below.size)).trans hz1
  exact ⟨h2.of_heap (kc.block b h2.lt), kept_block hz2 kc, kept_block (heap_alloc_new _ _) k3, kb.trans (Kept.of_below kc h2.lt)⟩
theorem rd2 {T b g : Nat} {r : St} {w : World} (h : Rd T b r w) (hg : b ≠ g) {x y : Value} : Rd T b r ((w.setCell ⟨g, 0, none⟩ x).setCell ⟨g, 1, none⟩ y) :=
  h.of_heap ((Below.heap_setCell _ ⟨g, 1, none⟩ y b hg).trans (Below.heap_setCell _ ⟨g, 0, none⟩ x b hg))
set_option maxHeartbeats 1000000 in
theorem take_any (b : Nat) (q : St) (w : World) (h : Rd 71 b q w) (hq : q.pos ≤ q.s.size) (hs : q.s.size ≤ maxLen) :
    Calls Tryd.prog 38 #[.pointer (some ⟨b, 0, none⟩)] w fun e w' => e = .returned q.stamp.2.v ∧ Rd 71 b q.stamp.1 w' ∧ Kept b w w' := by
  have HN8 : ∀ {w : World}, Rd 71 b q w → Hid (Calls Tryd.prog 37 #[.pointer (some ⟨b, 0, none⟩), .int .i64 8] w fun e w' => e = .returned (.int .u64 q.read.c) ∧ Rd 71 b (q.number 8).1 w' ∧ Kept b w w') := fun h => readerNumber_any b q 8 _ h hq hs
  have HN1 : ∀ {w : World}, Rd 71 b (q.number 8).1 w → Hid (Calls Tryd.prog 37 #[.pointer (some ⟨b, 0, none⟩), .int .i64 1] w fun e w' => e = .returned (.int .u64 q.read.k) ∧ Rd 71 b ((q.number 8).1.number 1).1 w' ∧ Kept b w w') := fun h => readerNumber_any b _ 1 _ h (by rw [St.number_s]; exact q.number_le 8 hq) (by rw [St.number_s]; exact hs)
  have HC : Hid (∀ w, Calls Tryd.prog 26 #[q.read.v] w fun e w' => e = .returned (.int .i64 q.read.chk) ∧ Below w.heap.size w w') := fun w => check_any _ w
  have hf := q.read_fits
  have hst : q.stamp = ((if q.read.Ok then ((q.number 8).1.number 1).1 else ((q.number 8).1.number 1).1.fail 40), if (if q.read.Ok then ((q.number 8).1.number 1).1 else ((q.number 8).1.number 1).1.fail 40).err = 0 then q.read else ⟨0, 0⟩) := rfl
  rw [hst]
  clear hst
  generalize q.read = t at HN8 HN1 HC hf
  generalize ((q.number 8).1.number 1).1 = r at HN1
  generalize (q.number 8).1 = p at HN8 HN1
  have hlt := h.lt
  have hk : IntKind.i64.wrap t.k = t.k := by simp [IntKind.wrap, IntKind.bits, IntKind.signed]; omega
  have HA : ∀ o, Rd 71 b q (w.alloc o) := fun o => Rd.of_heap h (heap_alloc_old w o hlt)
  have HB : Hid (∀ o, Rd 71 b q (w.alloc o)) := HA
  clear HA hq hs
  have HR : Hid (Rd 71 b q w) := h
  clear h
  by_cases hok : t.Ok
  · rw [Tm.chk_ok hok] at HC
    rw [if_pos hok]
    clear hok
    unfold Tm.v at HC
    by_cases he : r.err = 0
    · rw [if_pos he]
      unfold Tm.v
      go_enter Tryd.func38, Tryd.ntmps38
      go_wp2_with (first
        | (go_at_call_of 37 (Value.int IntKind.i64 8); refine (HN8 (HB.out _)).out.mono ?_; rintro e w1 ⟨rfl, h1, k1⟩)
        | (go_at_call_of 37 (Value.int IntKind.i64 1); refine (HN1 h1).out.mono ?_; rintro e w2 ⟨rfl, h2, k2⟩)
        | (go_at_call 26; refine (HC.out _).mono ?_; rintro e w3 ⟨rfl, k3⟩; have HT : Hid (TakeAt 71 24 b w.heap.size w2.heap.size r t.c t.k w w3) := takeAt_of HR.out k1 h1 h2 k2 k3; obtain ⟨c0, c1, c2, c3⟩ := cells2 HT.out.2.1; obtain ⟨d0, d1, d2, d3⟩ := cells2 HT.out.2.2.1; clear k1 h1 h2 k2 k3)
        | (go_at_call 44; refine (err_any b r _ HT.out.1).mono ?_; rintro e w' ⟨rfl, rfl⟩))
      obtain ⟨hRd, hz, _, hK⟩ := HT.out
      exact bodyPost_ret (results_cell_row Tryd.results38 _ _ _ _ _ (0, 0) _ rfl (set2 hz _ _) Tryd.underlying24 rfl info24) rfl ⟨rfl, rd2 hRd (by omega), (hK.setNew hlt (Nat.le_refl _) _ _).setNew hlt (Nat.le_refl _) _ _⟩
    · have g0 : (r.err == 0) = false := beq_eq_false_iff_ne.2 he
      rw [if_neg he]
      clear he
      unfold Tm.v
      go_enter Tryd.func38, Tryd.ntmps38
      go_wp2_with (first
        | (go_at_call_of 37 (Value.int IntKind.i64 8); refine (HN8 (HB.out _)).out.mono ?_; rintro e w1 ⟨rfl, h1, k1⟩)
        | (go_at_call_of 37 (Value.int IntKind.i64 1); refine (HN1 h1).out.mono ?_; rintro e w2 ⟨rfl, h2, k2⟩)
        | (go_at_call 26; refine (HC.out _).mono ?_; rintro e w3 ⟨rfl, k3⟩; have HT : Hid (TakeAt 71 24 b w.heap.size w2.heap.size r t.c t.k w w3) := takeAt_of HR.out k1 h1 h2 k2 k3; obtain ⟨c0, c1, c2, c3⟩ := cells2 HT.out.2.1; obtain ⟨d0, d1, d2, d3⟩ := cells2 HT.out.2.2.1; clear k1 h1 h2 k2 k3)
        | (go_at_call 44; refine (err_any b r _ HT.out.1).mono ?_; rintro e w' ⟨rfl, rfl⟩))
      obtain ⟨hRd, hz, _, hK⟩ := HT.out
      exact bodyPost_ret (results_cell_row Tryd.results38 _ _ _ _ _ (0, 0) _ rfl (set2 hz _ _) Tryd.underlying24 rfl info24) rfl ⟨rfl, rd2 hRd (by omega), (hK.setNew hlt (Nat.le_refl _) _ _).setNew hlt (Nat.le_refl _) _ _⟩
  · rw [Tm.chk_no hok] at HC
    rw [if_neg hok]
    clear hok
    unfold Tm.v at HC
    have he := r.fail_ne 40 (by decide)
    rw [if_neg he]
    have g0 : ((r.fail 40).err == 0) = false := beq_eq_false_iff_ne.2 he
    clear he
    unfold Tm.v
    go_enter Tryd.func38, Tryd.ntmps38
    go_wp2_with (first
      | (go_at_call_of 37 (Value.int IntKind.i64 8); refine (HN8 (HB.out _)).out.mono ?_; rintro e w1 ⟨rfl, h1, k1⟩)
      | (go_at_call_of 37 (Value.int IntKind.i64 1); refine (HN1 h1).out.mono ?_; rintro e w2 ⟨rfl, h2, k2⟩)
      | (go_at_call 26; refine (HC.out _).mono ?_; rintro e w3 ⟨rfl, k3⟩; have HT : Hid (TakeAt 71 24 b w.heap.size w2.heap.size r t.c t.k w w3) := takeAt_of HR.out k1 h1 h2 k2 k3; obtain ⟨c0, c1, c2, c3⟩ := cells2 HT.out.2.1; obtain ⟨d0, d1, d2, d3⟩ := cells2 HT.out.2.2.1; clear k1 h1 h2 k2 k3)
      | (go_at_call 43; refine (fail_any b r 40 _ HT.out.1).mono ?_; rintro e w4 ⟨rfl, h4, k4⟩; have hz : w4.heap[w.heap.size]? = some (.cells #[.int .u64 0, .int .i64 0] 24 (0, 0)) := (k4.other w.heap.size (by omega) (row_lt HT.out.2.1)).trans HT.out.2.1; obtain ⟨e0, e1, e2, e3⟩ := cells2 hz)
      | (go_at_call 44; refine (err_any b _ _ h4).mono ?_; rintro e w' ⟨rfl, rfl⟩))
    have hK := HT.out.2.2.2.trans k4
    exact bodyPost_ret (results_cell_row Tryd.results38 _ _ _ _ _ (0, 0) _ rfl (set2 hz _ _) Tryd.underlying24 rfl info24) rfl ⟨rfl, rd2 h4 (by omega), (hK.setNew hlt (Nat.le_refl _) _ _).setNew hlt (Nat.le_refl _) _ _⟩
/-- What the document's Take holds: two readers and two times, in four blocks of its own. -/
structure Four (T S g : Nat) (q r : St) (a t : Tm) (w0 w : World) : Prop where
  b0 : w.heap[g]? = some (.cells #[.string q.s, .int .i64 q.pos, .int .i64 q.err] T (0, 0))
  b1 : w.heap[g + 1]? = some (.cells #[.string r.s, .int .i64 r.pos, .int .i64 r.err] T (0, 0))
  b2 : w.heap[g + 2]? = some (.cells #[.int .u64 a.c, .int .i64 a.k] S (0, 0))
  b3 : w.heap[g + 3]? = some (.cells #[.int .u64 t.c, .int .i64 t.k] S (0, 0))
  below : Below g w0 w
theorem Four.step {T S g : Nat} {q r : St} {a t : Tm} {w0 w w' : World} (i : Four T S g q r a t w0 w) (k : Below w.heap.size w w') : Four T S g q r a t w0 w' :=
  ⟨kept_block i.b0 k, kept_block i.b1 k, kept_block i.b2 k, kept_block i.b3 k, i.below.trans (k.mono (Nat.le_of_lt (row_lt i.b0)))⟩
theorem Four.set0 {T S g : Nat} {q r : St} {a t : Tm} {w0 w : World} (i : Four T S g q r a t w0 w) (p : St) : Four T S g p r a t w0 (((w.setCell ⟨g, 0, none⟩ (.string p.s)).setCell ⟨g, 1, none⟩ (.int .i64 p.pos)).setCell ⟨g, 2, none⟩ (.int .i64 p.err)) := by
  have o : ∀ k, k ≠ g → (((w.setCell ⟨g, 0, none⟩ (.string p.s)).setCell ⟨g, 1, none⟩ (.int .i64 p.pos)).setCell ⟨g, 2, none⟩ (.int .i64 p.err)).heap[k]? = w.heap[k]? := fun k hk =>
    ((Below.heap_setCell _ ⟨g, 2, none⟩ _ k hk).trans (Below.heap_setCell _ ⟨g, 1, none⟩ _ k hk)).trans (Below.heap_setCell _ ⟨g, 0, none⟩ _ k hk)
  exact ⟨Wire.set3 i.b0 _ _ _, (o _ (by omega)).trans i.b1, (o _ (by omega)).trans i.b2, (o _ (by omega)).trans i.b3, below3 i.below (Nat.le_refl _) _ _ _⟩
theorem Four.setErr {T S g : Nat} {q r : St} {a t : Tm} {w0 w : World} (i : Four T S g q r a t w0 w) (e : Int) : Four T S g ⟨q.s, q.pos, e⟩ r a t w0 (w.setCell ⟨g, 2, none⟩ (.int .i64 e)) := by
  have o : ∀ k, k ≠ g → (w.setCell ⟨g, 2, none⟩ (.int .i64 e)).heap[k]? = w.heap[k]? := fun k hk => Below.heap_setCell _ ⟨g, 2, none⟩ _ k hk
  exact ⟨by rw [heap_setCell_same _ _ _ _ _ _ i.b0]; rfl, (o _ (by omega)).trans i.b1, (o _ (by omega)).trans i.b2, (o _ (by omega)).trans i.b3, i.below.setCell (p := ⟨g, 2, none⟩) (Nat.le_refl _) _⟩
theorem Four.set3 {T S g : Nat} {q r : St} {a t : Tm} {w0 w : World} (i : Four T S g q r a t w0 w) (x y : Int) : Four T S g q r a ⟨x, y⟩ w0 ((w.setCell ⟨g + 3, 0, none⟩ (.int .u64 x)).setCell ⟨g + 3, 1, none⟩ (.int .i64 y)) := by
  have o : ∀ k, k ≠ g + 3 → ((w.setCell ⟨g + 3, 0, none⟩ (.int .u64 x)).setCell ⟨g + 3, 1, none⟩ (.int .i64 y)).heap[k]? = w.heap[k]? := fun k hk =>
    (Below.heap_setCell _ ⟨g + 3, 1, none⟩ _ k hk).trans (Below.heap_setCell _ ⟨g + 3, 0, none⟩ _ k hk)
  exact ⟨(o _ (by omega)).trans i.b0, (o _ (by omega)).trans i.b1, (o _ (by omega)).trans i.b2, Stamp.set2 i.b3 _ _, below2 i.below (by omega) _ _⟩
theorem Four.set1 {T S g : Nat} {q r : St} {a t : Tm} {w0 w : World} (i : Four T S g q r a t w0 w) (p : St) : Four T S g q p a t w0 (((w.setCell ⟨g + 1, 0, none⟩ (.string p.s)).setCell ⟨g + 1, 1, none⟩ (.int .i64 p.pos)).setCell ⟨g + 1, 2, none⟩ (.int .i64 p.err)) := by
  have o : ∀ k, k ≠ g + 1 → (((w.setCell ⟨g + 1, 0, none⟩ (.string p.s)).setCell ⟨g + 1, 1, none⟩ (.int .i64 p.pos)).setCell ⟨g + 1, 2, none⟩ (.int .i64 p.err)).heap[k]? = w.heap[k]? := fun k hk =>
    ((Below.heap_setCell _ ⟨g + 1, 2, none⟩ _ k hk).trans (Below.heap_setCell _ ⟨g + 1, 1, none⟩ _ k hk)).trans (Below.heap_setCell _ ⟨g + 1, 0, none⟩ _ k hk)
  exact ⟨(o _ (by omega)).trans i.b0, Wire.set3 i.b1 _ _ _, (o _ (by omega)).trans i.b2, (o _ (by omega)).trans i.b3, below3 i.below (by omega) _ _ _⟩
theorem Four.set2 {T S g : Nat} {q r : St} {a t : Tm} {w0 w : World} (i : Four T S g q r a t w0 w) (x y : Int) : Four T S g q r ⟨x, y⟩ t w0 ((w.setCell ⟨g + 2, 0, none⟩ (.int .u64 x)).setCell ⟨g + 2, 1, none⟩ (.int .i64 y)) := by
  have o : ∀ k, k ≠ g + 2 → ((w.setCell ⟨g + 2, 0, none⟩ (.int .u64 x)).setCell ⟨g + 2, 1, none⟩ (.int .i64 y)).heap[k]? = w.heap[k]? := fun k hk =>
    (Below.heap_setCell _ ⟨g + 2, 1, none⟩ _ k hk).trans (Below.heap_setCell _ ⟨g + 2, 0, none⟩ _ k hk)
  exact ⟨(o _ (by omega)).trans i.b0, (o _ (by omega)).trans i.b1, Stamp.set2 i.b2 _ _, (o _ (by omega)).trans i.b3, below2 i.below (by omega) _ _⟩
theorem Four.drew {T S g : Nat} {q r : St} {a t : Tm} {w0 w : World} (i : Four T S g q r a t w0 w) : Four T S g q r a t w0 w.drew := ⟨i.b0, i.b1, i.b2, i.b3, i.below.drew⟩
theorem new_at {w : World} {n : Nat} (h : w.heap.size = n) (o : Obj) : (w.alloc o).heap[n]? = some o := h ▸ heap_alloc_new w o
theorem four0 {T S : Nat} {q r : St} {a t : Tm} {w w1 : World}
    (k : Below ((((w.alloc (.cells #[.string q.s, .int .i64 q.pos, .int .i64 q.err] T)).alloc (.cells #[.string r.s, .int .i64 r.pos, .int .i64 r.err] T)).alloc (.cells #[.int .u64 a.c, .int .i64 a.k] S)).alloc (.cells #[.int .u64 t.c, .int .i64 t.k] S)).heap.size
      ((((w.alloc (.cells #[.string q.s, .int .i64 q.pos, .int .i64 q.err] T)).alloc (.cells #[.string r.s, .int .i64 r.pos, .int .i64 r.err] T)).alloc (.cells #[.int .u64 a.c, .int .i64 a.k] S)).alloc (.cells #[.int .u64 t.c, .int .i64 t.k] S)) w1) : Four T S w.heap.size q r a t w w1 := by
  refine Four.step ⟨?_, ?_, ?_, ?_, ?_⟩ k
  · exact kept_alloc (kept_alloc (kept_alloc (heap_alloc_new _ _) _) _) _
  · exact kept_alloc (kept_alloc (new_at (by simp) _) _) _
  · exact kept_alloc (new_at (by simp) _) _
  · exact new_at (by simp) _
  · exact ((((Below.refl _ _).alloc (Nat.le_refl _) _).alloc (by simp) _).alloc (by simp; omega) _).alloc (by simp; omega) _
theorem wat_ne {T B g : Nat} {v : Value} {l : List UInt8} {w : World} (h : WAt T B v l w) (hg : w.heap.size ≤ g) : v ≠ .pointer (some ⟨g, 0, none⟩) := by
  rcases h with rfl | ⟨b, rfl, _, p, x, _, hb, _⟩
  · intro e; cases e
  · intro e
    have : b = g := by simpa using e
    have := row_lt hb
    omega
set_option maxHeartbeats 400000 in
theorem put_any (B : Nat) (v : Value) (l : List UInt8) (c k : Nat) (w : World) (h : WAt 64 B v l w) (hl : v = .pointer none ∨ l.length + 32 ≤ 140737488355328) (hB : B ≤ w.heap.size) (hc : c < 18446744073709551616) (hk : k < 256) :
    Calls Tryd.prog 32 #[v, .agg #[.int .u64 c, .int .i64 k]] w fun e w' => e = .returned (.tuple #[]) ∧ WAt 64 B v (l ++ num 16 c ++ num 2 k) w' ∧ Wrote B v w w' := by
  have e1 : IntKind.u64.wrap (k : Int) = k := by rw [Wire.wrap_u64]; omega
  have H1 : Hid (∀ o, Calls Tryd.prog 31 #[v, .int .u64 c, .int .i64 8] (w.alloc o) fun e w' => e = .returned (.tuple #[]) ∧ WAt 64 B v (l ++ num 16 c) w' ∧ Wrote B v (w.alloc o) w') := fun o =>
    wnumber_sp B v l c 8 _ (h.below ((Below.refl _ _).alloc (Nat.le_refl _) _)) (hl.imp id fun x => by omega) (by simp; omega) hc
  have H2 : Hid (∀ w', WAt 64 B v (l ++ num 16 c) w' → B ≤ w'.heap.size → Calls Tryd.prog 31 #[v, .int .u64 k, .int .i64 1] w' fun e w'' => e = .returned (.tuple #[]) ∧ WAt 64 B v (l ++ num 16 c ++ num 2 k) w'' ∧ Wrote B v w' w'') := fun w' h' hB' =>
    wnumber_sp B v _ k 1 w' h' (hl.imp id fun x => by rw [List.length_append, num_length]; omega) hB' (by omega)
  have HA : Hid (∀ o, Wrote B v w (w.alloc o)) := fun o => Wrote.of ((Below.refl _ _).alloc (Nat.le_refl _) o) hB
  have HB : Hid (B ≤ w.heap.size) := hB
  have HV : Hid (v ≠ .pointer (some ⟨w.heap.size, 0, none⟩)) := wat_ne h (Nat.le_refl _)
  clear h hl hB
  go_enter Tryd.func32, Tryd.ntmps32
  go_wp2_with (first
    | (go_at_call_of 31 (Value.int IntKind.i64 8); refine (H1.out _).mono ?_; rintro e w1 ⟨rfl, h1, k1⟩; obtain ⟨c0, c1, c2, c3⟩ := cells2 (k1.row HV.out (by decide) (heap_alloc_new _ _)))
    | (go_at_call_of 31 (Value.int IntKind.i64 1); refine (H2.out _ h1 (Nat.le_trans HB.out (Nat.le_trans (by simp) k1.below.size))).mono ?_; rintro e w2 ⟨rfl, h2, k2⟩))
  go_end0
  exact ⟨rfl, h2, ((HA.out _).trans k1).trans k2⟩
set_option maxHeartbeats 400000 in
theorem rbytesOf_any (c k : Nat) (w : World) (hc : c < 18446744073709551616) (hk : k < 256) :
    Calls Tryd.prog 46 #[.agg #[.int .u64 c, .int .i64 k]] w fun e w' => e = .returned (.string (numB 16 c ++ numB 2 k)) ∧ Below w.heap.size w w' := by
  have e1 : IntKind.u64.wrap (k : Int) = k := by rw [Wire.wrap_u64]; omega
  have H1 : Hid (∀ w, Calls Tryd.prog 45 #[.int .u64 c, .int .i64 8] w fun e w' => e = .returned (.string (numB 16 c)) ∧ Below w.heap.size w w') := fun w => rnum_any c 8 w hc (by decide)
  have H2 : Hid (∀ w, Calls Tryd.prog 45 #[.int .u64 k, .int .i64 1] w fun e w' => e = .returned (.string (numB 2 k)) ∧ Below w.heap.size w w') := fun w => rnum_any k 1 w (by omega) (by decide)
  have z1 := numB_size 16 c
  have z2 := numB_size 2 k
  generalize numB 16 c = x at H1 z1
  generalize numB 2 k = y at H2 z2
  go_enter Tryd.func46, Tryd.ntmps46
  go_wp2_with fail
  obtain ⟨W, hW⟩ : ∃ W, W = w.alloc (.cells #[.int .u64 c, .int .i64 k] 31) := ⟨_, rfl⟩
  rw [← hW]
  have HW : Hid (Below w.heap.size w W) := by rw [hW]; exact (Below.refl _ _).alloc (Nat.le_refl _) _
  obtain ⟨a0, a1, _, _⟩ := cells2 (show W.heap[w.heap.size]? = some (.cells #[.int .u64 c, .int .i64 k] 31 (0, 0)) by rw [hW]; exact heap_alloc_new _ _)
  clear hW
  have c0 := cell_regrown a0
  have c1 := cell_regrown a1
  clear a0 a1
  refine QuietCalls.region (by kernel_rfl) (by kernel_rfl) ?_
  first | go_big_quiet_step (fail) | quiet_step (fail)
  first | go_big_quiet_step (fail) | quiet_step (fail)
  refine QuietCalls.call2 rfl rfl Tryd.call45 (fun w _ => H1.out w) rfl rfl ?_; simp only [Act.put, List.setIfInBounds_toArray, List.set_cons_succ, List.set_cons_zero]
  first | go_big_quiet_step (fail) | quiet_step (fail)
  first | go_big_quiet_step (fail) | quiet_step (fail)
  first | go_big_quiet_step (fail) | quiet_step (fail)
  refine QuietCalls.call2 rfl rfl Tryd.call45 (fun w _ => H2.out w) rfl rfl ?_; simp only [Act.put, List.setIfInBounds_toArray, List.set_cons_succ, List.set_cons_zero]
  first | go_big_quiet_step (fail) | quiet_step (fail)
  first | go_big_quiet_step (fail) | quiet_step (fail)
  refine wpQuiet_nil ?_
  intro w2 k2
  go_wp2_with fail
  go_ret
  exact ⟨rfl, HW.out.trans (k2.mono HW.out.size)⟩
end Go.Proofs.YtdcgemaaohldmaaDoor
/- Contracts of the operations' small functions. -/
namespace Go.Opn
open Go.RowKit Go.Wire Go.Stamp
/-- An operation's cells. -/
abbrev Ob.cs (o : Ob) : Array Value := #[.int .i64 o.kind, .int .u64 o.tm.c, .int .i64 o.tm.k, .int .u64 o.thing, .int .u64 o.par, .string o.name, .bool o.dir, .string o.dg, .int .i64 o.size]
theorem cells9 {w : World} {g : Nat} {o : Ob} {T : TypeId} (h : w.heap[g]? = some (.cells o.cs T (0, 0))) :
    w.cell? ⟨g, 0, none⟩ = some (.int .i64 o.kind) ∧ w.cell? ⟨g, 1, none⟩ = some (.int .u64 o.tm.c) ∧ w.cell? ⟨g, 2, none⟩ = some (.int .i64 o.tm.k) ∧ w.cell? ⟨g, 3, none⟩ = some (.int .u64 o.thing) ∧ w.cell? ⟨g, 4, none⟩ = some (.int .u64 o.par) ∧
    w.cell? ⟨g, 5, none⟩ = some (.string o.name) ∧ w.cell? ⟨g, 6, none⟩ = some (.bool o.dir) ∧ w.cell? ⟨g, 7, none⟩ = some (.string o.dg) ∧ w.cell? ⟨g, 8, none⟩ = some (.int .i64 o.size) :=
  ⟨cell_of_row _ _ _ _ _ _ h, cell_of_row _ _ _ _ _ _ h, cell_of_row _ _ _ _ _ _ h, cell_of_row _ _ _ _ _ _ h, cell_of_row _ _ _ _ _ _ h, cell_of_row _ _ _ _ _ _ h, cell_of_row _ _ _ _ _ _ h, cell_of_row _ _ _ _ _ _ h, cell_of_row _ _ _ _ _ _ h⟩
theorem frozen9 {w : World} {g : Nat} {o : Ob} {T : TypeId} (h : w.heap[g]? = some (.cells o.cs T (0, 0))) (i : Nat) : w.frozen? ⟨g, i, none⟩ = false :=
  frozen_of_row _ _ _ _ _ h
theorem eq_step {P : Program} {w : World} {d : Nat} {xs ys : Array Value} {f : Field} {fs : List Field} {x y : Value} {r q : Bool} (hn : f.name ≠ "_") (hx : (part f.type xs f.offset).run P w = .ok x w) (hy : (part f.type ys f.offset).run P w = .ok y w)
    (he : (Op.equalIn d f.type x y).run P w = .ok r w) (rest : (Op.eqFields d xs ys fs).run P w = .ok q w) : (Op.eqFields d xs ys (f :: fs)).run P w = .ok (r && q) w := by
  simp only [Op.eqFields, if_pos hn, Sem.run_bind, hx, hy, he, Result.andThen_ok, Sem.run_ite, rest]
  cases r
  · simp
  · simp
theorem range_tm {w : World} {g : Nat} {o : Ob} {T : TypeId} (h : w.heap[g]? = some (.cells o.cs T (0, 0))) : w.rangeAt g 1 [.int .u64 o.tm.c, .int .i64 o.tm.k] := by
  intro j v hj
  match j, hj with
  | 0, hj => cases hj; exact (cells9 h).2.1
  | 1, hj => cases hj; exact (cells9 h).2.2.1
end Go.Opn
namespace Go.QuietCalls
open Go.RowKit Go.Sort
/-- A struct that lies in the midst of a block is loaded. -/
theorem loadMid {P : Program} {ops : Array Oper} {W : World} {Q : Act → Prop} {rest : List Oper} {o : Oper} {a : Act} (hgd : Region.wanted o (yielded ops a.tmps) = true) (ty : TypeId) (x : Operand) (ho : o.op = .load ty x)
    (g off : Nat) (hx : a.eval x = .pointer (some ⟨g, off, none⟩)) (cs : List Value) (d : TypeDesc) (hc : ∀ w, Below W.heap.size W w → w.rangeAt g off cs)
    (hu : P.underlying ty = some d) (hd : d.isRow = true) (hi : (P.info? ty).map (·.size) = some cs.length)
    (h : wpQuiet P ops (fun w' => ∃ p : Regrown, w' = grow (redrawn W p.d) p.os) Q rest (a.put o.dst (.agg cs.toArray))) : wpQuiet P ops (fun w' => ∃ p : Regrown, w' = grow (redrawn W p.d) p.os) Q (o :: rest) a := by
  refine wpQuiet_step fun K hK => ?_
  rw [if_pos hgd]
  refine ⟨.agg cs.toArray, fun w hw0 => ?_, hK _ h⟩
  have hw : Below W.heap.size W w := by obtain ⟨p, rfl⟩ := hw0; exact below_regrown _ _ _
  unfold Oper.quietAt execOp
  simp only [ho, hx, Instr.loadAt, Instr.sureAddr, Sem.run_bind, Sem.run_pure, Result.andThen_ok, run_loadVar_mid w g off ty cs d (hc w hw) hu hd hi]
  exact ⟨rfl, rfl⟩
end Go.QuietCalls
namespace Go.Proofs.YtdcgemaaohldmaaDoor
open Go.RowKit Go.Wire Go.Stamp Go.Opn
theorem infoOp : (Tryd.prog.info? 26).map (·.size) = some 9 := by kernel_rfl
theorem infoROp : (Tryd.prog.info? 33).map (·.size) = some 9 := by kernel_rfl
set_option maxHeartbeats 400000 in
theorem parent_any (n : Int) (w : World) :
    Calls Tryd.prog 56 #[.int .u64 n] w fun e w' => e = .returned (.bool (n == 0 || made n)) ∧ w' = w := by
  have H : Hid (∀ w, Calls Tryd.prog 27 #[.int .u64 n] w fun e w' => e = .returned (.bool (made n)) ∧ w' = w) := fun w => made_any n w
  by_cases h : n = 0
  · subst h
    go_enter Tryd.func56, Tryd.ntmps56
    go_wp2
    go_ret
    exact ⟨rfl, rfl⟩
  · have h0 : (n == 0) = false := beq_eq_false_iff_ne.2 h
    rw [h0, Bool.false_or]
    generalize made n = b at H
    go_enter Tryd.func56, Tryd.ntmps56
    go_wp2_with (go_at_call 27; refine (H.out _).mono ?_; rintro e w' ⟨rfl, rfl⟩)
    go_ret
    exact ⟨rfl, rfl⟩
set_option maxHeartbeats 1000000 in
theorem own_any (o : Ob) (w : World) :
    Calls Tryd.prog 29 #[o.v] w fun e w' => e = .returned o.own.v ∧ Below w.heap.size w w' := by
  obtain ⟨kd, ⟨c, k⟩, th, p, n, d, g, z⟩ := o
  by_cases k1 : kd = 1
  · subst k1
    unfold Ob.own Ob.v
    dsimp only
    go_enter Tryd.func29, Tryd.ntmps29
    go_wp2
    go_region
    go_wp2
    exact bodyPost_ret (results_cell_row Tryd.results29 _ _ _ _ _ (0, 0) _ rfl (kept_alloc (new_at (by simp) _) _) Tryd.underlying26 rfl infoOp) rfl ⟨rfl, ((((Below.refl _ _).alloc (Nat.le_refl _) _).alloc (by simp) _).alloc (by simp; omega) _).drew⟩
  by_cases k2 : kd = 2
  · subst k2
    unfold Ob.own Ob.v
    dsimp only
    go_enter Tryd.func29, Tryd.ntmps29
    go_wp2
    go_region
    go_wp2
    exact bodyPost_ret (results_cell_row Tryd.results29 _ _ _ _ _ (0, 0) _ rfl (kept_alloc (new_at (by simp) _) _) Tryd.underlying26 rfl infoOp) rfl ⟨rfl, ((((Below.refl _ _).alloc (Nat.le_refl _) _).alloc (by simp) _).alloc (by simp; omega) _).drew⟩
  by_cases k4 : kd = 4
  · subst k4
    unfold Ob.own Ob.v
    dsimp only
    go_enter Tryd.func29, Tryd.ntmps29
    go_wp2
    go_region
    go_wp2
    exact bodyPost_ret (results_cell_row Tryd.results29 _ _ _ _ _ (0, 0) _ rfl (kept_alloc (new_at (by simp) _) _) Tryd.underlying26 rfl infoOp) rfl ⟨rfl, ((((Below.refl _ _).alloc (Nat.le_refl _) _).alloc (by simp) _).alloc (by simp; omega) _).drew⟩
  · unfold Ob.own Ob.v
    dsimp only
    rw [if_neg k1, if_neg k2, if_neg k4]
    have e1 : (kd == 1) = false := beq_eq_false_iff_ne.2 k1
    have e2 : (kd == 2) = false := beq_eq_false_iff_ne.2 k2
    have e4 : (kd == 4) = false := beq_eq_false_iff_ne.2 k4
    clear k1 k2 k4
    go_enter Tryd.func29, Tryd.ntmps29
    go_wp2
    exact bodyPost_ret (results_cell_row Tryd.results29 _ _ _ _ _ (0, 0) _ rfl (kept_alloc (new_at (by simp) _) _) Tryd.underlying26 rfl infoOp) rfl ⟨rfl, ((((Below.refl _ _).alloc (Nat.le_refl _) _).alloc (by simp) _).alloc (by simp; omega) _)⟩
theorem eq_stamp (a b : Tm) (w : World) : (Op.equalIn 9999 24 (.agg #[.int .u64 a.c, .int .i64 a.k]) (.agg #[.int .u64 b.c, .int .i64 b.k])).run Tryd.prog w = .ok (a.c == b.c && (a.k == b.k && true)) w := by
  rw [run_equalIn_agg w 9998 24 _ _ (by unfold Program.fieldsOf; rw [Tryd.underlying24]) (by kernel_rfl)]
  unfold Program.fieldsOf
  rw [Tryd.underlying24]
  refine eq_step (x := .int .u64 a.c) (y := .int .u64 b.c) (by decide) (by go_simp) (by go_simp) (run_equalIn_int w _ _ _ _ _ _ Tryd.underlying22) ?_
  refine eq_step (x := .int .i64 a.k) (y := .int .i64 b.k) (by decide) (by go_simp) (by go_simp) (run_equalIn_int w _ _ _ _ _ _ Tryd.underlying3) ?_
  rfl
theorem eq_op (a b : Ob) (w : World) : (Op.equalIn 10000 26 (.agg a.cs) (.agg b.cs)).run Tryd.prog w = .ok (a.eqb b) w := by
  rw [run_equalIn_agg w 9999 26 a.cs b.cs (by unfold Program.fieldsOf; rw [Tryd.underlying26]) (by kernel_rfl)]
  unfold Program.fieldsOf
  rw [Tryd.underlying26]
  refine eq_step (x := .int .i64 a.kind) (y := .int .i64 b.kind) (by decide) (by go_simp) (by go_simp) (run_equalIn_int w _ _ _ _ _ _ Tryd.underlying3) ?_
  refine eq_step (x := .agg #[.int .u64 a.tm.c, .int .i64 a.tm.k]) (y := .agg #[.int .u64 b.tm.c, .int .i64 b.tm.k]) (by decide) (by go_simp) (by go_simp) (eq_stamp a.tm b.tm w) ?_
  refine eq_step (x := .int .u64 a.thing) (y := .int .u64 b.thing) (by decide) (by go_simp) (by go_simp) (run_equalIn_int w _ _ _ _ _ _ Tryd.underlying22) ?_
  refine eq_step (x := .int .u64 a.par) (y := .int .u64 b.par) (by decide) (by go_simp) (by go_simp) (run_equalIn_int w _ _ _ _ _ _ Tryd.underlying22) ?_
  refine eq_step (x := .string a.name) (y := .string b.name) (by decide) (by go_simp) (by go_simp) (run_equalIn_string w _ _ _ _ Tryd.underlying9) ?_
  refine eq_step (x := .bool a.dir) (y := .bool b.dir) (by decide) (by go_simp) (by go_simp) (run_equalIn_bool' w _ _ _ _ Tryd.underlying4) ?_
  refine eq_step (x := .string a.dg) (y := .string b.dg) (by decide) (by go_simp) (by go_simp) (run_equalIn_string w _ _ _ _ Tryd.underlying9) ?_
  refine eq_step (x := .int .i64 a.size) (y := .int .i64 b.size) (by decide) (by go_simp) (by go_simp) (run_equalIn_int w _ _ _ _ _ _ Tryd.underlying3) ?_
  rfl
end Go.Proofs.YtdcgemaaohldmaaDoor
