/- Several texts in one: StampLeaves, StampTake. -/
import Derived.Test.YtnbhchdaobimmaaGreatDoorRows
import Derived.Test.YtnbhchdaobimmaaGreatDoorWireMid
import Derived.Test.YtnbhchdaobimmaaGreatDoorWirePure
import Derived.Test.YtnbhchdaobimmaaGreatDoorWireOut
import Derived.Test.YtnbhchdaobimmaaGreatDoorQuietAll
/- Contracts of the times' small functions. -/
namespace Go.Stamp
open Go.RowKit Go.Wire
theorem cells2 {w : World} {g : Nat} {a b : Value} {T : TypeId} (h : w.heap[g]? = some (.cells #[a, b] T (0, 0))) :
  w.cell? ⟨g, 0, none⟩ = some a ∧ w.cell? ⟨g, 1, none⟩ = some b ∧ w.frozen? ⟨g, 0, none⟩ = false ∧ w.frozen? ⟨g, 1, none⟩ = false :=
 ⟨cell_of_row _ _ _ _ _ _ h, cell_of_row _ _ _ _ _ _ h, frozen_of_row _ _ _ _ _ h, frozen_of_row _ _ _ _ _ h⟩
/-- Behind a block of one's own and a call. -/
theorem below_alloc_call {w w1 : World} {o : Obj} (h : Below (w.alloc o).heap.size (w.alloc o) w1) : Below w.heap.size w w1 :=
 ((Below.refl _ _).alloc (Nat.le_refl _) _).trans (h.mono (by simp))
/-- A new block of two cells behind a call. -/
theorem new2 {w w1 : World} {a b : Value} {T : TypeId} (h : Below (w.alloc (.cells #[a, b] T)).heap.size (w.alloc (.cells #[a, b] T)) w1) : w1.heap[w.heap.size]? = some (.cells #[a, b] T (0, 0)) :=
 kept_block (heap_alloc_new _ _) h
end Go.Stamp
namespace Go.Proofs.YtnbhchdaobimmaaGreatDoor
open Go.RowKit Go.Wire Go.Stamp
set_option maxRecDepth 100000 in
set_option maxHeartbeats 400000 in
theorem rcheck_any (t : Tm) (h0 : 0 ≤ t.c) (w : World) :
  Calls Tryz.prog 46 #[t.v] w fun e w' => e = .returned (.int .i64 t.chk) ∧ Below w.heap.size w w' := by
 obtain ⟨c, k⟩ := t
 have h0 : 0 ≤ c := h0
 by_cases h1 : c = 0
 ·subst h1
  rw [Tm.chk_no (by unfold Tm.Ok; dsimp only; omega)]; unfold Tm.v
  go_enter Tryz.func46, Tryz.ntmps46
  go_wp2
  go_ret
  exact ⟨rfl, (Below.refl _ _).alloc (Nat.le_refl _) _⟩
 have g1 : (c == 0) = false := beq_eq_false_iff_ne.2 h1
 by_cases h2 : 281474976710655 < c
 ·rw [Tm.chk_no (by unfold Tm.Ok; dsimp only; omega)]; unfold Tm.v
  go_enter Tryz.func46, Tryz.ntmps46
  go_wp2
  go_ret
  exact ⟨rfl, (Below.refl _ _).alloc (Nat.le_refl _) _⟩
 by_cases h3 : k < 0
 ·rw [Tm.chk_no (by unfold Tm.Ok; dsimp only; omega)]; unfold Tm.v
  go_enter Tryz.func46, Tryz.ntmps46
  go_wp2
  go_ret
  exact ⟨rfl, (Below.refl _ _).alloc (Nat.le_refl _) _⟩
 by_cases h4 : 15 < k
 ·rw [Tm.chk_no (by unfold Tm.Ok; dsimp only; omega)]; unfold Tm.v
  go_enter Tryz.func46, Tryz.ntmps46
  go_wp2
  go_ret
  exact ⟨rfl, (Below.refl _ _).alloc (Nat.le_refl _) _⟩
 ·rw [Tm.chk_ok (by unfold Tm.Ok; dsimp only; omega)]; unfold Tm.v
  go_enter Tryz.func46, Tryz.ntmps46
  go_wp2
  go_ret
  exact ⟨rfl, (Below.refl _ _).alloc (Nat.le_refl _) _⟩
set_option maxRecDepth 100000 in
theorem info24 : (Tryz.prog.info? 59).map (·.size) = some 2 := by kernel_rfl
set_option maxRecDepth 100000 in
theorem info27 : (Tryz.prog.info? 55).map (·.size) = some 2 := by kernel_rfl
set_option maxRecDepth 100000 in
set_option maxHeartbeats 400000 in
theorem ref_any (t : Tm) (w : World) :
  Calls Tryz.prog 45 #[t.v] w fun e w' => e = .returned t.v ∧ Below w.heap.size w w' := by
 obtain ⟨c, k⟩ := t
 unfold Tm.v
 go_enter Tryz.func45, Tryz.ntmps45
 go_wp2
 exact bodyPost_ret (results_cell_row Tryz.results45 _ _ _ _ _ (0, 0) _ rfl (heap_alloc2_new _ _ _) Tryz.underlying55 rfl info27) rfl ⟨rfl, ((Below.refl _ _).alloc (Nat.le_refl _) _).alloc (by simp) _⟩
set_option maxRecDepth 100000 in
set_option maxHeartbeats 400000 in
theorem cmpC_any (a b : Int) (w : World) :
  Calls Tryz.prog 106 #[.int .u64 a, .int .u64 b] w fun e w' => e = .returned (.int .i64 (if a < b then -1 else if b < a then 1 else 0)) ∧ w' = w := by
 by_cases h1 : a < b
 ·rw [if_pos h1]
  go_enter Tryz.func106, Tryz.ntmps106
  go_wp2
  go_ret
  exact ⟨rfl, rfl⟩
 ·rw [if_neg h1]
  by_cases h2 : b < a
  ·rw [if_pos h2]
   go_enter Tryz.func106, Tryz.ntmps106
   go_wp2
   go_ret
   exact ⟨rfl, rfl⟩
  ·rw [if_neg h2]
   go_enter Tryz.func106, Tryz.ntmps106
   go_wp2
   go_ret
   exact ⟨rfl, rfl⟩
set_option maxRecDepth 100000 in
set_option maxHeartbeats 400000 in
theorem cmpK_any (a b : Int) (w : World) :
  Calls Tryz.prog 43 #[.int .i64 a, .int .i64 b] w fun e w' => e = .returned (.int .i64 (if a < b then -1 else if b < a then 1 else 0)) ∧ w' = w := by
 by_cases h1 : a < b
 ·rw [if_pos h1]
  go_enter Tryz.func43, Tryz.ntmps43
  go_wp2
  go_ret
  exact ⟨rfl, rfl⟩
 ·rw [if_neg h1]
  by_cases h2 : b < a
  ·rw [if_pos h2]
   go_enter Tryz.func43, Tryz.ntmps43
   go_wp2
   go_ret
   exact ⟨rfl, rfl⟩
  ·rw [if_neg h2]
   go_enter Tryz.func43, Tryz.ntmps43
   go_wp2
   go_ret
   exact ⟨rfl, rfl⟩
set_option maxRecDepth 100000 in
set_option maxHeartbeats 400000 in
theorem compare_any (s t : Tm) (w : World) :
  Calls Tryz.prog 74 #[s.v, t.v] w fun e w' => e = .returned (.int .i64 (s.cmp t)) ∧ Below w.heap.size w w' := by
 obtain ⟨c, k⟩ := s
 obtain ⟨d, l⟩ := t
 unfold Tm.v
 by_cases h : c = d
 ·subst h
  have e : (Tm.mk c k).cmp ⟨c, l⟩ = if k < l then -1 else if l < k then 1 else 0 := by
   unfold Tm.cmp; simp
  rw [e]
  have H : Hid (∀ w, Calls Tryz.prog 43 #[.int .i64 k, .int .i64 l] w fun e w' => e = .returned (.int .i64 (if k < l then -1 else if l < k then 1 else 0)) ∧ w' = w) := fun w => cmpK_any k l w
  clear e
  generalize (if k < l then (-1 : Int) else if l < k then 1 else 0) = r at H
  go_enter Tryz.func74, Tryz.ntmps74
  go_wp2_with (go_at_call 43; refine (H.out _).mono ?_; rintro e w' ⟨rfl, rfl⟩)
  go_ret
  exact ⟨rfl, ((Below.refl _ _).alloc (Nat.le_refl _) _).alloc (by simp) _⟩
 ·have hb : (c == d) = false := beq_eq_false_iff_ne.2 h
  have e : (Tm.mk c k).cmp ⟨d, l⟩ = if c < d then -1 else if d < c then 1 else 0 := by
   unfold Tm.cmp; dsimp only
   by_cases h1 : c < d
   ·simp [h1]
   ·have h2 : d < c := by omega
    simp [h1, h2]
  rw [e]
  have H : Hid (∀ w, Calls Tryz.prog 106 #[.int .u64 c, .int .u64 d] w fun e w' => e = .returned (.int .i64 (if c < d then -1 else if d < c then 1 else 0)) ∧ w' = w) := fun w => cmpC_any c d w
  clear e
  generalize (if c < d then (-1 : Int) else if d < c then 1 else 0) = r at H
  go_enter Tryz.func74, Tryz.ntmps74
  go_wp2_with (go_at_call 106; refine (H.out _).mono ?_; rintro e w' ⟨rfl, rfl⟩)
  go_ret
  exact ⟨rfl, ((Below.refl _ _).alloc (Nat.le_refl _) _).alloc (by simp) _⟩
set_option maxRecDepth 100000 in
set_option maxHeartbeats 400000 in
theorem rbefore_any (s t : Tm) (w : World) :
  Calls Tryz.prog 79 #[s.v, t.v] w fun e w' => e = .returned (.bool (decide (s.before t))) ∧ Below w.heap.size w w' := by
 obtain ⟨c, k⟩ := s
 obtain ⟨d, l⟩ := t
 unfold Tm.v
 by_cases h : c = d
 ·subst h
  have e : decide ((Tm.mk c k).before ⟨c, l⟩) = decide (k < l) := by
   unfold Tm.before; simp
  rw [e]
  clear e
  go_enter Tryz.func79, Tryz.ntmps79
  go_wp2
  go_ret
  exact ⟨rfl, ((Below.refl _ _).alloc (Nat.le_refl _) _).alloc (by simp) _⟩
 ·have hb : (c == d) = false := beq_eq_false_iff_ne.2 h
  have e : decide ((Tm.mk c k).before ⟨d, l⟩) = decide (c < d) := by
   unfold Tm.before; simp [h]
  rw [e]
  clear e
  go_enter Tryz.func79, Tryz.ntmps79
  go_wp2
  go_ret
  exact ⟨rfl, ((Below.refl _ _).alloc (Nat.le_refl _) _).alloc (by simp) _⟩
set_option maxRecDepth 100000 in
set_option maxHeartbeats 400000 in
theorem rthing_any (t : Tm) (h0 : 0 ≤ t.c) (w : World) :
  Calls Tryz.prog 48 #[t.v] w fun e w' => e = .returned (.int .u64 t.thing) ∧ Below w.heap.size w w' := by
 have H : Hid (∀ w, Calls Tryz.prog 46 #[t.v] w fun e w' => e = .returned (.int .i64 t.chk) ∧ Below w.heap.size w w') := fun w => rcheck_any t h0 w
 clear h0
 by_cases h : t.Ok
 ·rw [Tm.chk_ok h] at H
  rw [Tm.thing_ok h]
  have h' := h
  unfold Tm.Ok at h'
  obtain ⟨c, k⟩ := t
  unfold Tm.v at H ⊢
  have hk : IntKind.u64.wrap k = k := by rw [Wire.wrap_u64]; dsimp only at h'; omega
  have hc : IntKind.u64.wrap (c * 16) = c * 16 := by rw [Wire.wrap_u64]; dsimp only at h'; omega
  have hs : IntKind.u64.wrap (c * 16 + k) = c * 16 + k := by rw [Wire.wrap_u64]; dsimp only at h'; omega
  clear h h'
  go_enter Tryz.func48, Tryz.ntmps48
  go_wp2_with (go_at_call 46; refine (H.out _).mono ?_; rintro e w1 ⟨rfl, hb⟩; obtain ⟨c0, c1, f0, f1⟩ := cells2 (new2 hb))
  go_ret
  exact ⟨rfl, below_alloc_call hb⟩
 ·rw [Tm.chk_no h] at H
  rw [Tm.thing_no h]
  obtain ⟨c, k⟩ := t
  unfold Tm.v at H ⊢
  clear h
  go_enter Tryz.func48, Tryz.ntmps48
  go_wp2_with (go_at_call 46; refine (H.out _).mono ?_; rintro e w1 ⟨rfl, hb⟩)
  go_ret
  exact ⟨rfl, below_alloc_call hb⟩
set_option maxRecDepth 100000 in
set_option maxHeartbeats 400000 in
theorem rmade_any (n : Int) (w : World) :
  Calls Tryz.prog 47 #[.int .u64 n] w fun e w' => e = .returned (.bool (decide (16 ≤ n) && decide (n ≤ 4503599627370495))) ∧ w' = w := by
 by_cases h : 16 ≤ n
 ·go_enter Tryz.func47, Tryz.ntmps47
  go_wp2
  go_ret
  exact ⟨by simp [h], rfl⟩
 ·have h' : decide (16 ≤ n) = false := decide_eq_false h
  go_enter Tryz.func47, Tryz.ntmps47
  go_wp2
  go_ret
  exact ⟨by simp, rfl⟩
end Go.Proofs.YtnbhchdaobimmaaGreatDoor
/- Contracts: a time off a reader, the program's and the document's; a time put; its bytes. -/
namespace Go.Wire
open Go.Stamp
end Go.Wire
namespace Go.Proofs.YtnbhchdaobimmaaGreatDoor
open Go.RowKit Go.Wire Go.Stamp
/-- What Take holds behind its two numbers and the check. -/
def TakeAt (T S b g h : Nat) (r : St) (c k : Int) (w0 w : World) : Prop :=
 Rd T b r w ∧ w.heap[g]? = some (.cells #[.int .u64 0, .int .i64 0] S (0, 0)) ∧ w.heap[h]? = some (.cells #[.int .u64 c, .int .i64 k] S (0, 0)) ∧ Kept b w0 w
/-- What the document's Take holds: two readers and two times, in four blocks of its own. -/
structure Four (T S g : Nat) (q r : St) (a t : Tm) (w0 w : World) : Prop where
 b0 : w.heap[g]? = some (.cells #[.string q.s, .int .i64 q.pos, .int .i64 q.err] T (0, 0))
 b1 : w.heap[g + 1]? = some (.cells #[.string r.s, .int .i64 r.pos, .int .i64 r.err] T (0, 0))
 b2 : w.heap[g + 2]? = some (.cells #[.int .u64 a.c, .int .i64 a.k] S (0, 0))
 b3 : w.heap[g + 3]? = some (.cells #[.int .u64 t.c, .int .i64 t.k] S (0, 0))
 below : Below g w0 w
set_option maxRecDepth 100000 in
theorem new_at {w : World} {n : Nat} (h : w.heap.size = n) (o : Obj) : (w.alloc o).heap[n]? = some o := h ▸ heap_alloc_new w o
end Go.Proofs.YtnbhchdaobimmaaGreatDoor
