/- Contract: an operation as the document has it. -/
import Derived.Test.YtnbhchdaobimmaaGreatDoorOpAll
import Derived.Test.YtnbhchdaobimmaaGreatDoorRunAB
namespace Go.Proofs.YtnbhchdaobimmaaGreatDoor
open Go.RowKit Go.Wire Go.Stamp Go.Opn Go.Sort
set_option maxRecDepth 100000 in
theorem below_setRow {B : Nat} {w w1 : World} (h : Below B w w1) {g : Nat} (hg : B ≤ g) (cs : Array Value) : Below B w (w1.setRow g cs) :=
 h.trans ⟨rfl, rfl, rfl, by simp, fun k hk => setRow_other _ _ _ _ (by omega)⟩
set_option maxRecDepth 100000 in
set_option maxHeartbeats 1000000 in
theorem refOp_any (o : Ob) (w : World) :
  Calls Tryz.prog 19 #[o.v] w fun e w' => e = .returned o.v ∧ Below w.heap.size w w' := by
 have HR : Hid (∀ w, Calls Tryz.prog 45 #[o.tm.v] w fun e w' => e = .returned o.tm.v ∧ Below w.heap.size w w') := fun w => ref_any o.tm w
 obtain ⟨kd, ⟨c, k⟩, th, p, n, d, g, z⟩ := o
 unfold Tm.v at HR
 unfold Ob.v
 dsimp only at HR ⊢
 go_enter Tryz.func19, Tryz.ntmps19
 go_wp2_with fail
 obtain ⟨W, hW⟩ : ∃ W, W = (w.alloc (.cells (Ob.mk kd ⟨c, k⟩ th p n d g z).cs 61)).alloc (.cells Ob.zero.cs 57) := ⟨_, rfl⟩
 dsimp only [Ob.zero] at hW
 rw [← hW]
 have HW : Hid (W.heap[w.heap.size]? = some (.cells (Ob.mk kd ⟨c, k⟩ th p n d g z).cs 61 (0, 0)) ∧ W.heap[w.heap.size + 1]? = some (.cells Ob.zero.cs 57 (0, 0)) ∧ Below w.heap.size w W) := by
  rw [hW]; exact ⟨kept_alloc (heap_alloc_new _ _) _, new_at (by simp) _, ((Below.refl _ _).alloc (Nat.le_refl _) _).alloc (by simp) _⟩
 clear hW
 obtain ⟨c0, c1, c2, c3, c4, c5, c6, c7, c8⟩ := cells9 HW.out.1
 replace c0 := cell_regrown c0
 replace c3 := cell_regrown c3
 replace c4 := cell_regrown c4
 replace c5 := cell_regrown c5
 replace c6 := cell_regrown c6
 replace c7 := cell_regrown c7
 replace c8 := cell_regrown c8
 refine QTail.wp_region_tail (fun w' => ∃ p : Regrown, w' = grow (redrawn W p.d) p.os) 18 (by kernel_rfl) (by kernel_rfl) ⟨⟨W.drawn + 1, #[]⟩, by rw [grow_empty]; rfl⟩ ?_
 simp only [List.take_succ_cons, List.take_zero, List.drop_succ_cons, List.drop_zero]
 first | go_big_quiet_step (fail) | quiet_step (fail)
 first | go_big_quiet_step (fail) | quiet_step (fail)
 first | go_big_quiet_step (fail) | quiet_step (fail)
 refine QuietCalls.loadMid rfl 59 _ rfl _ _ rfl [.int .u64 c, .int .i64 k] _ (fun w k => range_tm (kept_block HW.out.1 k)) Tryz.underlying59 rfl info24 ?_; simp only [Act.put, List.setIfInBounds_toArray, List.set_cons_succ, List.set_cons_zero]
 refine QuietCalls.call1 rfl rfl Tryz.call45 (fun w _ => HR.out w) rfl ?_; simp only [Act.put, List.setIfInBounds_toArray, List.set_cons_succ, List.set_cons_zero]
 first | go_big_quiet_step (fail) | quiet_step (fail)
 first | go_big_quiet_step (fail) | quiet_step (fail)
 first | go_big_quiet_step (fail) | quiet_step (fail)
 first | go_big_quiet_step (fail) | quiet_step (fail)
 first | go_big_quiet_step (fail) | quiet_step (fail)
 first | go_big_quiet_step (fail) | quiet_step (fail)
 first | go_big_quiet_step (fail) | quiet_step (fail)
 first | go_big_quiet_step (fail) | quiet_step (fail)
 first | go_big_quiet_step (fail) | quiet_step (fail)
 first | go_big_quiet_step (fail) | quiet_step (fail)
 first | go_big_quiet_step (fail) | quiet_step (fail)
 first | go_big_quiet_step (fail) | quiet_step (fail)
 first | go_big_quiet_step (fail) | quiet_step (fail)
 refine wpQuiet_nil ?_
 rintro _ ⟨⟨dq, osq⟩, rfl⟩
 have hbl := below_regrown W dq osq
 generalize grow (redrawn W dq) osq = V at hbl
 have HV : Hid (V.heap[w.heap.size + 1]? = some (.cells Ob.zero.cs 57 (0, 0)) ∧ Below w.heap.size w V) := ⟨kept_block HW.out.2.1 hbl, HW.out.2.2.trans (hbl.mono HW.out.2.2.size)⟩
 clear hbl c0 c3 c4 c5 c6 c7 c8 c1 c2
 refine wpList_store_row rfl 57 _ _ rfl _ _ rfl rfl 57 _ HV.out.1 infoROp rfl (by simp [Value.oneCell']) ?_
 go_wp2_with fail
 exact bodyPost_ret (results_cell_row Tryz.results19 _ _ _ _ _ (0, 0) _ rfl (setRow_heap _ _ _ _ _ _ HV.out.1) Tryz.underlying57 rfl infoROp) rfl ⟨rfl, below_setRow HV.out.2 (by omega) _⟩
end Go.Proofs.YtnbhchdaobimmaaGreatDoor
