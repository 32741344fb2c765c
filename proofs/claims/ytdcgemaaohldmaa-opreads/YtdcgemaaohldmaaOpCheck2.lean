/- Contracts: whether an operation may be, the program's. -/
import Derived.Test.YtdcgemaaohldmaaOpCheck
namespace Go.Proofs.Ytdcgemaaohldmaa
open Go.RowKit Go.Wire Go.Stamp Go.Opn
theorem guardOp : Try.prog.eqGuardType Try.prog.depth 26 = false := by kernel_rfl
theorem neq_op {o : Oper} {a : Act} {x y : Operand} {t : TypeId} (ho : o.op = .binOp .neq 26 x y t) (p q : Ob) (hx : a.eval x = .agg p.cs) (hy : a.eval y = .agg q.cs) (w : World) :
    (execOp a.eval o).run Try.prog w = .ok (.value (.bool (!p.eqb q))) w := by
  unfold execOp
  rw [ho]
  simp only [hx, hy, Sem.run_bind, run_eqGuard_agg w .neq 26 x y p.cs q.cs guardOp, Result.andThen_ok, run_neq_struct, eq_op]
  rfl
theorem eql_op {o : Oper} {a : Act} {x y : Operand} {t : TypeId} (ho : o.op = .binOp .eql 26 x y t) (p q : Ob) (hx : a.eval x = .agg p.cs) (hy : a.eval y = .agg q.cs) (w : World) :
    (execOp a.eval o).run Try.prog w = .ok (.value (.bool (p.eqb q))) w := by
  unfold execOp
  rw [ho]
  simp only [hx, hy, Sem.run_bind, run_eqGuard_agg w .eql 26 x y p.cs q.cs guardOp, Result.andThen_ok, run_eql_struct, eq_op]
  rfl
set_option maxHeartbeats 1000000 in
theorem checkOp_any (o : Ob) (w : World) :
    Calls Try.prog 11 #[o.v] w fun e w' => e = .returned (.int .i64 o.chk) ∧ Below w.heap.size w w' := by
  have HC : Hid (∀ w, Calls Try.prog 30 #[o.tm.v] w fun e w' => e = .returned (.int .i64 o.tm.chk) ∧ Below w.heap.size w w') := fun w => check_any o.tm w
  have HM : Hid (∀ w, Calls Try.prog 31 #[.int .u64 o.thing] w fun e w' => e = .returned (.bool (made o.thing)) ∧ Below w.heap.size w w') := fun w => (made_any o.thing w).mono fun e w' ⟨h, k⟩ => ⟨h, by rw [k]; exact Below.refl _ _⟩
  have HF : Hid (∀ w, Calls Try.prog 32 #[o.v] w fun e w' => e = .returned (.bool o.fits) ∧ Below w.heap.size w w') := fun w => fits_any o w
  have HO : Hid (∀ w, Calls Try.prog 33 #[o.v] w fun e w' => e = .returned o.own.v ∧ Below w.heap.size w w') := fun w => own_any o w
  unfold Tm.v at HC
  unfold Ob.v at HF HO ⊢
  by_cases hok : o.tm.Ok
  · rw [Tm.chk_ok hok] at HC
    have hchk : o.chk = if (made o.thing && o.fits && o.eqb o.own) = true then 0 else 50 := by unfold Ob.chk; rw [if_pos hok]; rfl
    rw [hchk]
    clear hchk hok
    generalize o.own = O at HO
    cases hm : made o.thing
    · rw [hm] at HM
      rw [Bool.false_and, Bool.false_and, if_neg (by decide)]
      clear hm
      generalize o.fits = F at HF
      obtain ⟨kd, ⟨c, k⟩, th, p, n, d, g, z⟩ := o
      dsimp only at HC HM HF HO ⊢
      go_enter Try.func11, Try.ntmps11
      go_wp2_with (go_at_call 30; refine (HC.out _).mono ?_; rintro e w1 ⟨rfl, k1⟩)
      have HW : Hid (w1.heap[w.heap.size]? = some (.cells (Ob.mk kd ⟨c, k⟩ th p n d g z).cs 26 (0, 0)) ∧ Below w.heap.size w w1) := ⟨kept_block (heap_alloc_new _ _) k1, below_alloc_call k1⟩
      clear k1
      have c3 := cell_regrown (cells9 HW.out.1).2.2.2.1
      refine QuietCalls.region (by kernel_rfl) (by kernel_rfl) ?_
      first | go_big_quiet_step (fail) | quiet_step (fail)
      first | go_big_quiet_step (fail) | quiet_step (fail)
      refine QuietCalls.call1 rfl rfl Try.call31 (fun w _ => HM.out w) rfl ?_; simp only [Act.put, List.setIfInBounds_toArray, List.set_cons_succ, List.set_cons_zero]
      first | go_big_quiet_step (fail) | quiet_step (fail)
      first | go_big_quiet_step (fail) | quiet_step (fail)
      first | go_big_quiet_step (fail) | quiet_step (fail)
      first | go_big_quiet_step (fail) | quiet_step (fail)
      first | go_big_quiet_step (fail) | quiet_step (fail)
      first | go_big_quiet_step (fail) | quiet_step (fail)
      first | go_big_quiet_step (fail) | quiet_step (fail)
      first | go_big_quiet_step (fail) | quiet_step (fail)
      first | go_big_quiet_step (fail) | quiet_step (fail)
      first | go_big_quiet_step (fail) | quiet_step (fail)
      first | go_big_quiet_step (fail) | quiet_step (fail)
      first | go_big_quiet_step (fail) | quiet_step (fail)
      refine wpQuiet_nil ?_
      intro w2 k2
      go_wp2_with fail
      go_ret
      exact ⟨rfl, HW.out.2.trans (k2.mono HW.out.2.size)⟩
    · rw [hm] at HM
      rw [Bool.true_and]
      clear hm
      cases hf : o.fits
      · rw [hf] at HF
        rw [Bool.false_and, if_neg (by decide)]
        clear hf
        obtain ⟨kd, ⟨c, k⟩, th, p, n, d, g, z⟩ := o
        dsimp only at HC HM HF HO ⊢
        go_enter Try.func11, Try.ntmps11
        go_wp2_with (go_at_call 30; refine (HC.out _).mono ?_; rintro e w1 ⟨rfl, k1⟩)
        have HW : Hid (w1.heap[w.heap.size]? = some (.cells (Ob.mk kd ⟨c, k⟩ th p n d g z).cs 26 (0, 0)) ∧ Below w.heap.size w w1) := ⟨kept_block (heap_alloc_new _ _) k1, below_alloc_call k1⟩
        clear k1
        have c3 := cell_regrown (cells9 HW.out.1).2.2.2.1
        refine QuietCalls.region (by kernel_rfl) (by kernel_rfl) ?_
        first | go_big_quiet_step (fail) | quiet_step (fail)
        first | go_big_quiet_step (fail) | quiet_step (fail)
        refine QuietCalls.call1 rfl rfl Try.call31 (fun w _ => HM.out w) rfl ?_; simp only [Act.put, List.setIfInBounds_toArray, List.set_cons_succ, List.set_cons_zero]
        first | go_big_quiet_step (fail) | quiet_step (fail)
        first | go_big_quiet_step (fail) | quiet_step (fail)
        refine QuietCalls.load rfl 26 _ rfl _ rfl _ _ _ _ HW.out.1 Try.underlying26 rfl infoOp ?_; simp only [Act.put, List.setIfInBounds_toArray, List.set_cons_succ, List.set_cons_zero]
        refine QuietCalls.call1 rfl rfl Try.call32 (fun w _ => HF.out w) rfl ?_; simp only [Act.put, List.setIfInBounds_toArray, List.set_cons_succ, List.set_cons_zero]
        first | go_big_quiet_step (fail) | quiet_step (fail)
        first | go_big_quiet_step (fail) | quiet_step (fail)
        first | go_big_quiet_step (fail) | quiet_step (fail)
        first | go_big_quiet_step (fail) | quiet_step (fail)
        first | go_big_quiet_step (fail) | quiet_step (fail)
        first | go_big_quiet_step (fail) | quiet_step (fail)
        first | go_big_quiet_step (fail) | quiet_step (fail)
        first | go_big_quiet_step (fail) | quiet_step (fail)
        refine wpQuiet_nil ?_
        intro w2 k2
        go_wp2_with fail
        go_ret
        exact ⟨rfl, HW.out.2.trans (k2.mono HW.out.2.size)⟩
      · rw [hf] at HF
        rw [Bool.true_and]
        clear hf
        cases he : o.eqb O
        · rw [if_neg (by decide)]
          obtain ⟨kd, ⟨c, k⟩, th, p, n, d, g, z⟩ := o
          dsimp only at HC HM HF HO ⊢
          go_enter Try.func11, Try.ntmps11
          go_wp2_with (go_at_call 30; refine (HC.out _).mono ?_; rintro e w1 ⟨rfl, k1⟩)
          have HW : Hid (w1.heap[w.heap.size]? = some (.cells (Ob.mk kd ⟨c, k⟩ th p n d g z).cs 26 (0, 0)) ∧ Below w.heap.size w w1) := ⟨kept_block (heap_alloc_new _ _) k1, below_alloc_call k1⟩
          clear k1
          have c3 := cell_regrown (cells9 HW.out.1).2.2.2.1
          refine QuietCalls.region (by kernel_rfl) (by kernel_rfl) ?_
          first | go_big_quiet_step (fail) | quiet_step (fail)
          first | go_big_quiet_step (fail) | quiet_step (fail)
          refine QuietCalls.call1 rfl rfl Try.call31 (fun w _ => HM.out w) rfl ?_; simp only [Act.put, List.setIfInBounds_toArray, List.set_cons_succ, List.set_cons_zero]
          first | go_big_quiet_step (fail) | quiet_step (fail)
          first | go_big_quiet_step (fail) | quiet_step (fail)
          refine QuietCalls.load rfl 26 _ rfl _ rfl _ _ _ _ HW.out.1 Try.underlying26 rfl infoOp ?_; simp only [Act.put, List.setIfInBounds_toArray, List.set_cons_succ, List.set_cons_zero]
          refine QuietCalls.call1 rfl rfl Try.call32 (fun w _ => HF.out w) rfl ?_; simp only [Act.put, List.setIfInBounds_toArray, List.set_cons_succ, List.set_cons_zero]
          first | go_big_quiet_step (fail) | quiet_step (fail)
          first | go_big_quiet_step (fail) | quiet_step (fail)
          first | go_big_quiet_step (fail) | quiet_step (fail)
          refine QuietCalls.load rfl 26 _ rfl _ rfl _ _ _ _ HW.out.1 Try.underlying26 rfl infoOp ?_; simp only [Act.put, List.setIfInBounds_toArray, List.set_cons_succ, List.set_cons_zero]
          refine QuietCalls.load rfl 26 _ rfl _ rfl _ _ _ _ HW.out.1 Try.underlying26 rfl infoOp ?_; simp only [Act.put, List.setIfInBounds_toArray, List.set_cons_succ, List.set_cons_zero]
          refine QuietCalls.call1 rfl rfl Try.call33 (fun w _ => HO.out w) rfl ?_; simp only [Act.put, List.setIfInBounds_toArray, List.set_cons_succ, List.set_cons_zero]
          refine QuietCalls.hand rfl (.bool true) (fun w => (neq_op rfl (Ob.mk kd ⟨c, k⟩ th p n d g z) O rfl rfl w).trans (by rw [he]; rfl)) ?_; simp only [Act.put, List.setIfInBounds_toArray, List.set_cons_succ, List.set_cons_zero]
          first | go_big_quiet_step (fail) | quiet_step (fail)
          refine wpQuiet_nil ?_
          intro w2 k2
          go_wp2_with fail
          go_ret
          exact ⟨rfl, HW.out.2.trans (k2.mono HW.out.2.size)⟩
        · rw [if_pos rfl]
          obtain ⟨kd, ⟨c, k⟩, th, p, n, d, g, z⟩ := o
          dsimp only at HC HM HF HO ⊢
          go_enter Try.func11, Try.ntmps11
          go_wp2_with (go_at_call 30; refine (HC.out _).mono ?_; rintro e w1 ⟨rfl, k1⟩)
          have HW : Hid (w1.heap[w.heap.size]? = some (.cells (Ob.mk kd ⟨c, k⟩ th p n d g z).cs 26 (0, 0)) ∧ Below w.heap.size w w1) := ⟨kept_block (heap_alloc_new _ _) k1, below_alloc_call k1⟩
          clear k1
          have c3 := cell_regrown (cells9 HW.out.1).2.2.2.1
          refine QuietCalls.region (by kernel_rfl) (by kernel_rfl) ?_
          first | go_big_quiet_step (fail) | quiet_step (fail)
          first | go_big_quiet_step (fail) | quiet_step (fail)
          refine QuietCalls.call1 rfl rfl Try.call31 (fun w _ => HM.out w) rfl ?_; simp only [Act.put, List.setIfInBounds_toArray, List.set_cons_succ, List.set_cons_zero]
          first | go_big_quiet_step (fail) | quiet_step (fail)
          first | go_big_quiet_step (fail) | quiet_step (fail)
          refine QuietCalls.load rfl 26 _ rfl _ rfl _ _ _ _ HW.out.1 Try.underlying26 rfl infoOp ?_; simp only [Act.put, List.setIfInBounds_toArray, List.set_cons_succ, List.set_cons_zero]
          refine QuietCalls.call1 rfl rfl Try.call32 (fun w _ => HF.out w) rfl ?_; simp only [Act.put, List.setIfInBounds_toArray, List.set_cons_succ, List.set_cons_zero]
          first | go_big_quiet_step (fail) | quiet_step (fail)
          first | go_big_quiet_step (fail) | quiet_step (fail)
          first | go_big_quiet_step (fail) | quiet_step (fail)
          refine QuietCalls.load rfl 26 _ rfl _ rfl _ _ _ _ HW.out.1 Try.underlying26 rfl infoOp ?_; simp only [Act.put, List.setIfInBounds_toArray, List.set_cons_succ, List.set_cons_zero]
          refine QuietCalls.load rfl 26 _ rfl _ rfl _ _ _ _ HW.out.1 Try.underlying26 rfl infoOp ?_; simp only [Act.put, List.setIfInBounds_toArray, List.set_cons_succ, List.set_cons_zero]
          refine QuietCalls.call1 rfl rfl Try.call33 (fun w _ => HO.out w) rfl ?_; simp only [Act.put, List.setIfInBounds_toArray, List.set_cons_succ, List.set_cons_zero]
          refine QuietCalls.hand rfl (.bool false) (fun w => (neq_op rfl (Ob.mk kd ⟨c, k⟩ th p n d g z) O rfl rfl w).trans (by rw [he]; rfl)) ?_; simp only [Act.put, List.setIfInBounds_toArray, List.set_cons_succ, List.set_cons_zero]
          first | go_big_quiet_step (fail) | quiet_step (fail)
          refine wpQuiet_nil ?_
          intro w2 k2
          go_wp2_with fail
          go_ret
          exact ⟨rfl, HW.out.2.trans (k2.mono HW.out.2.size)⟩
  · rw [Tm.chk_no hok] at HC
    rw [Ob.chk_no hok]
    clear hok
    obtain ⟨kd, ⟨c, k⟩, th, p, n, d, g, z⟩ := o
    dsimp only at HC HM HF HO ⊢
    go_enter Try.func11, Try.ntmps11
    go_wp2_with (go_at_call 30; refine (HC.out _).mono ?_; rintro e w1 ⟨rfl, k1⟩)
    go_ret
    exact ⟨rfl, below_alloc_call k1⟩
end Go.Proofs.Ytdcgemaaohldmaa
