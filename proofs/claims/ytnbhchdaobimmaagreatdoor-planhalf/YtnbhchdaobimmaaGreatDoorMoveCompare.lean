/- Contracts: the order of operations. -/
import Derived.Test.YtnbhchdaobimmaaGreatDoorMunAB
import Derived.Test.YtnbhchdaobimmaaGreatDoorStampAll
import Derived.Deep.MidRow
theorem Go.old_alloc_MoveCompare (w : Go.World) (o : Go.Obj) (i : Nat) (h : i < w.heap.size) : (w.alloc o).heap[i]? = w.heap[i]? := by first | exact Go.heap_alloc_old w o i h | exact Go.heap_alloc_old w o h
namespace Go.Proofs.YtnbhchdaobimmaaGreatDoor
open Go.RowKit Go.Opn Go.Stamp Go.MapInt Go.Mov
attribute [local go_sem] Oper.semAt_some
set_option maxRecDepth 100000 in
theorem nanS_any (a : ByteArray) (w : World) : Calls Tryz.prog 107 #[.string a] w fun e w' => e = .returned (.bool false) ∧ w' = w := by
 go_enter Tryz.func107, Tryz.ntmps107
 go_wp2
 go_ret
 exact ⟨by simp, rfl⟩
set_option maxRecDepth 100000 in
theorem cmpS_any (a b : ByteArray) (w : World) : Calls Tryz.prog 75 #[.string a, .string b] w fun e w' => e = .returned (.int .i64 (cmpB a b)) ∧ w' = w := by
 have H := hide (nanS_any a)
 have H2 := hide (nanS_any b)
 obtain ⟨C, hC⟩ : ∃ C, C = cmpB a b := ⟨_, rfl⟩
 rw [← hC]
 have HC := hide hC
 clear hC
 cases h1 : Op.bytesLess a.toList b.toList with
 | true =>
  have HE : Hid (C = -1) := by show _ = _; rw [HC.out]; unfold cmpB less; rw [h1]; rfl
  go_enter Tryz.func75, Tryz.ntmps75
  go_wp2_with (go_at_call 107; first | (refine (H.out _).mono ?_; rintro e w' ⟨rfl, rfl⟩) | (refine (H2.out _).mono ?_; rintro e w' ⟨rfl, rfl⟩))
  go_ret
  exact ⟨by rw [HE.out]; rfl, rfl⟩
 | false =>
  by_cases h2 : a = b
  ·have h3 : (a.toList == b.toList) = true := by rw [h2]; simp
   have HE : Hid (C = 0) := by show _ = _; rw [HC.out]; unfold cmpB less; rw [h1]; simp [h2]
   clear h2
   go_enter Tryz.func75, Tryz.ntmps75
   go_wp2_with (go_at_call 107; first | (refine (H.out _).mono ?_; rintro e w' ⟨rfl, rfl⟩) | (refine (H2.out _).mono ?_; rintro e w' ⟨rfl, rfl⟩))
   go_ret
   exact ⟨by rw [HE.out]; rfl, rfl⟩
  ·have h3 : (a.toList == b.toList) = false := by
    cases e : a.toList == b.toList with
    | false => rfl
    | true => exact absurd ((toList_iff a b).1 (eq_of_beq e)) h2
   have HE : Hid (C = 1) := by show _ = _; rw [HC.out]; unfold cmpB less; rw [h1]; simp [h2]
   clear h2
   go_enter Tryz.func75, Tryz.ntmps75
   go_wp2_with (go_at_call 107; first | (refine (H.out _).mono ?_; rintro e w' ⟨rfl, rfl⟩) | (refine (H2.out _).mono ?_; rintro e w' ⟨rfl, rfl⟩))
   go_ret
   exact ⟨by rw [HE.out]; rfl, rfl⟩
/-- Two operations in blocks of their own. -/
structure Pe (w : World) (g1 g2 : Nat) (C1 C2 : Array Value) (v : World) : Prop where
 a : v.heap[g1]? = some (.cells C1 68 (0, 0))
 b : v.heap[g2]? = some (.cells C2 68 (0, 0))
 below : Below w.heap.size w v
set_option maxRecDepth 100000 in
theorem Pe.step {w v u : World} {g1 g2 : Nat} {C1 C2 : Array Value} (h : Pe w g1 g2 C1 C2 v) (k : Below v.heap.size v u) : Pe w g1 g2 C1 C2 u :=
 ⟨(k.block _ (Array.getElem?_eq_some_iff.1 h.a).1).trans h.a, (k.block _ (Array.getElem?_eq_some_iff.1 h.b).1).trans h.b, h.below.trans (k.mono h.below.size)⟩
set_option maxHeartbeats 2000000 in
set_option maxRecDepth 100000 in
theorem compareE_any (a b : En) (w : World) : Calls Tryz.prog 51 #[a.v, b.v] w fun e w' => e = .returned (.int .i64 (cmpE a b)) ∧ Below w.heap.size w w' := by
 obtain ⟨⟨k1, ⟨c1, t1⟩, th1, pa1, nm1, d1, g1, z1⟩, h1⟩ := a
 obtain ⟨⟨k2, ⟨c2, t2⟩, th2, pa2, nm2, d2, g2, z2⟩, h2⟩ := b
 have HC : Hid (∀ w, Calls Tryz.prog 74 #[.agg #[.int .u64 c1, .int .i64 t1], .agg #[.int .u64 c2, .int .i64 t2]] w fun e w' => e = .returned (.int .i64 ((Tm.mk c1 t1).cmp ⟨c2, t2⟩)) ∧ Below w.heap.size w w') := fun w => compare_any ⟨c1, t1⟩ ⟨c2, t2⟩ w
 have HS := hide (cmpS_any h1 h2)
 have HE : Hid (cmpE ⟨⟨k1, ⟨c1, t1⟩, th1, pa1, nm1, d1, g1, z1⟩, h1⟩ ⟨⟨k2, ⟨c2, t2⟩, th2, pa2, nm2, d2, g2, z2⟩, h2⟩ = if (Tm.mk c1 t1).cmp ⟨c2, t2⟩ = 0 then cmpB h1 h2 else (Tm.mk c1 t1).cmp ⟨c2, t2⟩) := rfl
 generalize cmpE _ _ = E at *
 generalize (Tm.mk c1 t1).cmp ⟨c2, t2⟩ = T at *
 generalize cmpB h1 h2 = B at *
 unfold En.v
 dsimp only
 have I : Hid (Pe w w.heap.size (w.heap.size + 1) #[.int .i64 k1, .int .u64 c1, .int .i64 t1, .int .u64 th1, .int .u64 pa1, .string nm1, .bool d1, .string g1, .int .i64 z1, .string h1] #[.int .i64 k2, .int .u64 c2, .int .i64 t2, .int .u64 th2, .int .u64 pa2, .string nm2, .bool d2, .string g2, .int .i64 z2, .string h2] ((w.alloc (.cells #[.int .i64 k1, .int .u64 c1, .int .i64 t1, .int .u64 th1, .int .u64 pa1, .string nm1, .bool d1, .string g1, .int .i64 z1, .string h1] 68)).alloc (.cells #[.int .i64 k2, .int .u64 c2, .int .i64 t2, .int .u64 th2, .int .u64 pa2, .string nm2, .bool d2, .string g2, .int .i64 z2, .string h2] 68))) := by
  refine ⟨(Go.old_alloc_MoveCompare _ _ _ (by simp)).trans (heap_alloc_new w _), ?_, ((Below.refl _ w).alloc (Nat.le_refl _) _).alloc (by simp) _⟩
  have := heap_alloc_new (w.alloc (.cells #[.int .i64 k1, .int .u64 c1, .int .i64 t1, .int .u64 th1, .int .u64 pa1, .string nm1, .bool d1, .string g1, .int .i64 z1, .string h1] 68)) (.cells #[.int .i64 k2, .int .u64 c2, .int .i64 t2, .int .u64 th2, .int .u64 pa2, .string nm2, .bool d2, .string g2, .int .i64 z2, .string h2] 68)
  rwa [World.size_alloc] at this
 by_cases h0 : T = 0
 ·have h0' : (T == 0) = true := by simpa using h0
  have HZ := hide h0
  clear h0
  go_enter Tryz.func51, Tryz.ntmps51
  go_wp2_with (first
   | (go_at_call 74; refine (HC.out _).mono ?_; rintro e w1 ⟨rfl, k⟩; replace I := hide (I.out.step k); clear k; have q9 : w1.cell? ⟨w.heap.size, 9, none⟩ = some (.string h1) := (cell_of_row _ _ _ _ _ _ I.out.a).trans rfl; have r9 : w1.cell? ⟨w.heap.size + 1, 9, none⟩ = some (.string h2) := (cell_of_row _ _ _ _ _ _ I.out.b).trans rfl)
   | (go_at_call 75; refine (HS.out _).mono ?_; rintro e w2 ⟨rfl, hw⟩; subst hw))
  go_ret
  exact ⟨by rw [HE.out, if_pos HZ.out]; rfl, I.out.below⟩
 ·have h0' : (T == 0) = false := by simpa using h0
  have HZ := hide h0
  clear h0
  go_enter Tryz.func51, Tryz.ntmps51
  go_wp2_with (go_at_call 74; refine (HC.out _).mono ?_; rintro e w1 ⟨rfl, k⟩; replace I := hide (I.out.step k); clear k)
  go_ret
  exact ⟨by rw [HE.out, if_neg HZ.out]; rfl, I.out.below⟩
end Go.Proofs.YtnbhchdaobimmaaGreatDoor
