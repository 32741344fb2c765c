/- Several texts in one: OpCheck, OpCheck2, OpRef, OpRefEq. -/
import Derived.Test.YtdcgemaaohldmaaDoorStampOne
import Derived.Test.YtdcgemaaohldmaaDoorPureSha
/- Contracts: whether an operation may be, the program's and the document's; an operation as the document has it. -/
namespace Go.Opn
open Go.RowKit Go.Wire Go.Stamp
/-- The ways through whether a place may be. -/
theorem place_ways (par th : Int) (n : ByteArray) (P : Bool → Prop)
    (a : (par == 0 || made par) = false → P false)
    (b : (par == 0 || made par) = true → (par != th) = false → P false)
    (c : (par == 0 || made par) = true → (par != th) = true → (n.size : Int) < 1 → P false)
    (d : (par == 0 || made par) = true → (par != th) = true → 1 ≤ (n.size : Int) → decide ((n.size : Int) ≤ 32) = false → P false)
    (e : (par == 0 || made par) = true → (par != th) = true → 1 ≤ (n.size : Int) → decide ((n.size : Int) ≤ 32) = true → P true) :
    P ((par == 0 || made par) && !(par == th) && decide (1 ≤ n.size) && decide (n.size ≤ 32)) := by
  cases h1 : (par == 0 || made par)
  · exact a h1
  · by_cases h2 : par = th
    · rw [beq_iff_eq.2 h2]; exact b h1 (by rw [bne, beq_iff_eq.2 h2]; rfl)
    · rw [beq_eq_false_iff_ne.2 h2]
      replace h2 : (par != th) = true := by rw [bne, beq_eq_false_iff_ne.2 h2]; rfl
      by_cases h3 : 1 ≤ n.size
      · by_cases h4 : n.size ≤ 32
        · rw [decide_eq_true h3, decide_eq_true h4]; exact e h1 h2 (by omega) (decide_eq_true (by omega))
        · rw [decide_eq_true h3, decide_eq_false h4]; exact d h1 h2 (by omega) (decide_eq_false (by omega))
      · rw [decide_eq_false h3]; exact c h1 h2 (by omega)
theorem fill_ways (n : ByteArray) (z : Int) (P : Bool → Prop)
    (a : ((n.size : Int) == 32) = false → P false)
    (b : ((n.size : Int) == 32) = true → z < 0 → P false)
    (c : ((n.size : Int) == 32) = true → 0 ≤ z → decide (z ≤ 8192) = false → P false)
    (d : ((n.size : Int) == 32) = true → 0 ≤ z → decide (z ≤ 8192) = true → P true) : P (n.size == 32 && decide (0 ≤ z) && decide (z ≤ 8192)) := by
  by_cases h1 : n.size = 32
  · have e1 : ((n.size : Int) == 32) = true := beq_iff_eq.2 (by omega)
    rw [beq_iff_eq.2 h1]
    by_cases h2 : 0 ≤ z
    · by_cases h3 : z ≤ 8192
      · rw [decide_eq_true h2, decide_eq_true h3]; exact d e1 h2 (decide_eq_true h3)
      · rw [decide_eq_true h2, decide_eq_false h3]; exact c e1 h2 (decide_eq_false h3)
    · rw [decide_eq_false h2]; exact b e1 (by omega)
  · rw [beq_eq_false_iff_ne.2 h1]
    exact a (beq_eq_false_iff_ne.2 (by omega))
end Go.Opn
namespace Go.Proofs.YtdcgemaaohldmaaDoor
open Go.RowKit Go.Wire Go.Stamp Go.Opn
set_option maxHeartbeats 1000000 in
theorem fits2 (o : Ob) (w : World) (h : o.kind = 2) :
    Calls Tryd.prog 28 #[o.v] w fun e w' => e = .returned (.bool o.place) ∧ Below w.heap.size w w' := by
  obtain ⟨kd, ⟨c, k⟩, th, p, n, d, g, z⟩ := o
  dsimp only at h
  subst h
  have HP : Hid (∀ w, Calls Tryd.prog 56 #[.int .u64 p] w fun e w' => e = .returned (.bool (p == 0 || made p)) ∧ w' = w) := fun w => parent_any p w
  unfold Ob.place Ob.v
  dsimp only
  refine place_ways p th n (fun b => Calls Tryd.prog 28 #[.agg #[.int .i64 2, .int .u64 c, .int .i64 k, .int .u64 th, .int .u64 p, .string n, .bool d, .string g, .int .i64 z]] w fun e w' => e = .returned (.bool b) ∧ Below w.heap.size w w') ?_ ?_ ?_ ?_ ?_
  all_goals (
    intro h1
    rw [h1] at HP
    clear h1
    intros
    go_enter Tryd.func28, Tryd.ntmps28
    go_wp2_with (go_at_call 56; refine (HP.out _).mono ?_; rintro e w' ⟨rfl, rfl⟩)
    go_ret
    exact ⟨rfl, (Below.refl _ _).alloc (Nat.le_refl _) _⟩)
set_option maxHeartbeats 1000000 in
theorem fits1 (o : Ob) (w : World) (h : o.kind = 1) :
    Calls Tryd.prog 28 #[o.v] w fun e w' => e = .returned (.bool (o.thing == o.tm.thing && o.place)) ∧ Below w.heap.size w w' := by
  have HT : Hid (∀ w, Calls Tryd.prog 55 #[o.tm.v] w fun e w' => e = .returned (.int .u64 o.tm.thing) ∧ Below w.heap.size w w') := fun w => thing_any o.tm w
  unfold Tm.v at HT
  generalize o.tm.thing = t at HT
  obtain ⟨kd, ⟨c, k⟩, th, p, n, d, g, z⟩ := o
  dsimp only at h HT
  subst h
  have HP : Hid (∀ w, Calls Tryd.prog 56 #[.int .u64 p] w fun e w' => e = .returned (.bool (p == 0 || made p)) ∧ w' = w) := fun w => parent_any p w
  unfold Ob.place Ob.v
  dsimp only
  by_cases ht : th = t
  · rw [beq_iff_eq.2 ht, Bool.true_and]
    replace ht : (th != t) = false := by rw [bne, beq_iff_eq.2 ht]; rfl
    refine place_ways p th n (fun b => Calls Tryd.prog 28 #[.agg #[.int .i64 1, .int .u64 c, .int .i64 k, .int .u64 th, .int .u64 p, .string n, .bool d, .string g, .int .i64 z]] w fun e w' => e = .returned (.bool b) ∧ Below w.heap.size w w') ?_ ?_ ?_ ?_ ?_
    all_goals (
      intro h1
      rw [h1] at HP
      clear h1
      intros
      go_enter Tryd.func28, Tryd.ntmps28
      go_wp2_with fail
      obtain ⟨W, hW⟩ : ∃ W, W = w.alloc (.cells (Ob.mk 1 ⟨c, k⟩ th p n d g z).cs 26) := ⟨_, rfl⟩
      rw [← hW]
      have HW : Hid (W.heap[w.heap.size]? = some (.cells (Ob.mk 1 ⟨c, k⟩ th p n d g z).cs 26 (0, 0)) ∧ Below w.heap.size w W) := by rw [hW]; exact ⟨heap_alloc_new _ _, (Below.refl _ _).alloc (Nat.le_refl _) _⟩
      clear hW
      have c3 := cell_regrown (cells9 HW.out.1).2.2.2.1
      refine QuietCalls.region (by kernel_rfl) (by kernel_rfl) ?_
      first | go_big_quiet_step (fail) | quiet_step (fail)
      first | go_big_quiet_step (fail) | quiet_step (fail)
      first | go_big_quiet_step (fail) | quiet_step (fail)
      refine QuietCalls.loadMid rfl 24 _ rfl _ _ rfl [.int .u64 c, .int .i64 k] _ (fun w k => range_tm (kept_block HW.out.1 k)) Tryd.underlying24 rfl info24 ?_; simp only [Act.put, List.setIfInBounds_toArray, List.set_cons_succ, List.set_cons_zero]
      refine QuietCalls.call1 rfl rfl Tryd.call55 (fun w _ => HT.out w) rfl ?_; simp only [Act.put, List.setIfInBounds_toArray, List.set_cons_succ, List.set_cons_zero]
      first | go_big_quiet_step (fail) | quiet_step (fail)
      refine wpQuiet_nil ?_
      intro w1 k1
      replace HW : Hid (w1.heap[w.heap.size]? = some (.cells (Ob.mk 1 ⟨c, k⟩ th p n d g z).cs 26 (0, 0)) ∧ Below w.heap.size w w1) := ⟨kept_block HW.out.1 k1, HW.out.2.trans (k1.mono HW.out.2.size)⟩
      clear k1 c3
      obtain ⟨c0, c1, c2, c3, c4, c5, c6, c7, c8⟩ := cells9 HW.out.1
      go_wp2_with (go_at_call 56; refine (HP.out _).mono ?_; rintro e w' ⟨rfl, rfl⟩)
      go_ret
      exact ⟨rfl, HW.out.2⟩)
  · rw [beq_eq_false_iff_ne.2 ht, Bool.false_and]
    replace ht : (th != t) = true := by rw [bne, beq_eq_false_iff_ne.2 ht]; rfl
    go_enter Tryd.func28, Tryd.ntmps28
    go_wp2_with fail
    obtain ⟨W, hW⟩ : ∃ W, W = w.alloc (.cells (Ob.mk 1 ⟨c, k⟩ th p n d g z).cs 26) := ⟨_, rfl⟩
    rw [← hW]
    have HW : Hid (W.heap[w.heap.size]? = some (.cells (Ob.mk 1 ⟨c, k⟩ th p n d g z).cs 26 (0, 0)) ∧ Below w.heap.size w W) := by rw [hW]; exact ⟨heap_alloc_new _ _, (Below.refl _ _).alloc (Nat.le_refl _) _⟩
    clear hW
    have c3 := cell_regrown (cells9 HW.out.1).2.2.2.1
    refine QuietCalls.region (by kernel_rfl) (by kernel_rfl) ?_
    first | go_big_quiet_step (fail) | quiet_step (fail)
    first | go_big_quiet_step (fail) | quiet_step (fail)
    first | go_big_quiet_step (fail) | quiet_step (fail)
    refine QuietCalls.loadMid rfl 24 _ rfl _ _ rfl [.int .u64 c, .int .i64 k] _ (fun w k => range_tm (kept_block HW.out.1 k)) Tryd.underlying24 rfl info24 ?_; simp only [Act.put, List.setIfInBounds_toArray, List.set_cons_succ, List.set_cons_zero]
    refine QuietCalls.call1 rfl rfl Tryd.call55 (fun w _ => HT.out w) rfl ?_; simp only [Act.put, List.setIfInBounds_toArray, List.set_cons_succ, List.set_cons_zero]
    first | go_big_quiet_step (fail) | quiet_step (fail)
    refine wpQuiet_nil ?_
    intro w1 k1
    replace HW : Hid (w1.heap[w.heap.size]? = some (.cells (Ob.mk 1 ⟨c, k⟩ th p n d g z).cs 26 (0, 0)) ∧ Below w.heap.size w w1) := ⟨kept_block HW.out.1 k1, HW.out.2.trans (k1.mono HW.out.2.size)⟩
    clear k1 c3
    obtain ⟨c0, c1, c2, c3, c4, c5, c6, c7, c8⟩ := cells9 HW.out.1
    go_wp2_with fail
    go_ret
    exact ⟨rfl, HW.out.2⟩
set_option maxHeartbeats 1000000 in
theorem fits4 (o : Ob) (w : World) (h : o.kind = 4) :
    Calls Tryd.prog 28 #[o.v] w fun e w' => e = .returned (.bool o.fill) ∧ Below w.heap.size w w' := by
  obtain ⟨kd, ⟨c, k⟩, th, p, n, d, g, z⟩ := o
  dsimp only at h
  subst h
  unfold Ob.fill Ob.v
  dsimp only
  refine fill_ways g z (fun b => Calls Tryd.prog 28 #[.agg #[.int .i64 4, .int .u64 c, .int .i64 k, .int .u64 th, .int .u64 p, .string n, .bool d, .string g, .int .i64 z]] w fun e w' => e = .returned (.bool b) ∧ Below w.heap.size w w') ?_ ?_ ?_ ?_
  all_goals (
    intros
    go_enter Tryd.func28, Tryd.ntmps28
    go_wp2_with fail
    go_ret
    exact ⟨rfl, (Below.refl _ _).alloc (Nat.le_refl _) _⟩)
set_option maxHeartbeats 1000000 in
theorem fits_any (o : Ob) (w : World) :
    Calls Tryd.prog 28 #[o.v] w fun e w' => e = .returned (.bool o.fits) ∧ Below w.heap.size w w' := by
  unfold Ob.fits
  by_cases k1 : o.kind = 1
  · rw [if_pos k1]; exact fits1 o w k1
  rw [if_neg k1]
  by_cases k2 : o.kind = 2
  · rw [if_pos k2]; exact fits2 o w k2
  rw [if_neg k2]
  by_cases k3 : o.kind = 3
  · rw [if_pos k3]
    obtain ⟨kd, ⟨c, k⟩, th, p, n, d, g, z⟩ := o
    dsimp only at k3
    subst k3
    unfold Ob.v
    clear k1 k2
    go_enter Tryd.func28, Tryd.ntmps28
    go_wp2_with fail
    go_ret
    exact ⟨rfl, (Below.refl _ _).alloc (Nat.le_refl _) _⟩
  rw [if_neg k3]
  by_cases k4 : o.kind = 4
  · rw [if_pos k4]; exact fits4 o w k4
  rw [if_neg k4]
  obtain ⟨kd, ⟨c, k⟩, th, p, n, d, g, z⟩ := o
  dsimp only at k1 k2 k3 k4
  have e1 : (kd == 1) = false := beq_eq_false_iff_ne.2 k1
  have e2 : (kd == 2) = false := beq_eq_false_iff_ne.2 k2
  have e3 : (kd == 3) = false := beq_eq_false_iff_ne.2 k3
  have e4 : (kd == 4) = false := beq_eq_false_iff_ne.2 k4
  clear k1 k2 k3 k4
  unfold Ob.v
  go_enter Tryd.func28, Tryd.ntmps28
  go_wp2_with fail
  go_ret
  exact ⟨rfl, (Below.refl _ _).alloc (Nat.le_refl _) _⟩
end Go.Proofs.YtdcgemaaohldmaaDoor
/- Contracts: whether an operation may be, the program's. -/
namespace Go.Proofs.YtdcgemaaohldmaaDoor
open Go.RowKit Go.Wire Go.Stamp Go.Opn
theorem guardOp : Tryd.prog.eqGuardType Tryd.prog.depth 26 = false := by kernel_rfl
theorem neq_op {o : Oper} {a : Act} {x y : Operand} {t : TypeId} (ho : o.op = .binOp .neq 26 x y t) (p q : Ob) (hx : a.eval x = .agg p.cs) (hy : a.eval y = .agg q.cs) (w : World) :
    (execOp a.eval o).run Tryd.prog w = .ok (.value (.bool (!p.eqb q))) w := by
  unfold execOp
  rw [ho]
  simp only [hx, hy, Sem.run_bind, run_eqGuard_agg w .neq 26 x y p.cs q.cs guardOp, Result.andThen_ok, run_neq_struct, eq_op]
  rfl
theorem eql_op {o : Oper} {a : Act} {x y : Operand} {t : TypeId} (ho : o.op = .binOp .eql 26 x y t) (p q : Ob) (hx : a.eval x = .agg p.cs) (hy : a.eval y = .agg q.cs) (w : World) :
    (execOp a.eval o).run Tryd.prog w = .ok (.value (.bool (p.eqb q))) w := by
  unfold execOp
  rw [ho]
  simp only [hx, hy, Sem.run_bind, run_eqGuard_agg w .eql 26 x y p.cs q.cs guardOp, Result.andThen_ok, run_eql_struct, eq_op]
  rfl
set_option maxHeartbeats 1000000 in
theorem checkOp_any (o : Ob) (w : World) :
    Calls Tryd.prog 9 #[o.v] w fun e w' => e = .returned (.int .i64 o.chk) ∧ Below w.heap.size w w' := by
  have HC : Hid (∀ w, Calls Tryd.prog 26 #[o.tm.v] w fun e w' => e = .returned (.int .i64 o.tm.chk) ∧ Below w.heap.size w w') := fun w => check_any o.tm w
  have HM : Hid (∀ w, Calls Tryd.prog 27 #[.int .u64 o.thing] w fun e w' => e = .returned (.bool (made o.thing)) ∧ Below w.heap.size w w') := fun w => (made_any o.thing w).mono fun e w' ⟨h, k⟩ => ⟨h, by rw [k]; exact Below.refl _ _⟩
  have HF : Hid (∀ w, Calls Tryd.prog 28 #[o.v] w fun e w' => e = .returned (.bool o.fits) ∧ Below w.heap.size w w') := fun w => fits_any o w
  have HO : Hid (∀ w, Calls Tryd.prog 29 #[o.v] w fun e w' => e = .returned o.own.v ∧ Below w.heap.size w w') := fun w => own_any o w
  unfold Tm.v at HC
  unfold Ob.v at HF HO ⊢
  by_cases hok : o.tm.Ok
  · rw [Tm.chk_ok hok] at HC
    have hchk : o.chk = if (made o.thing && o.fits && o.eqb o.own) = true then 0 else 50 := by unfold Ob.chk; rw [if_pos hok]; rfl
    rw [hchk]
    clear hchk hok
    generalize o.own = O at HO
    cases hm : made o.thing
    · rw [hm] at HM
      rw [Bool.false_and, Bool.false_and, if_neg (by decide)]
      clear hm
      generalize o.fits = F at HF
      obtain ⟨kd, ⟨c, k⟩, th, p, n, d, g, z⟩ := o
      dsimp only at HC HM HF HO ⊢
      go_enter Tryd.func9, Tryd.ntmps9
      go_wp2_with (go_at_call 26; refine (HC.out _).mono ?_; rintro e w1 ⟨rfl, k1⟩)
      have HW : Hid (w1.heap[w.heap.size]? = some (.cells (Ob.mk kd ⟨c, k⟩ th p n d g z).cs 26 (0, 0)) ∧ Below w.heap.size w w1) := ⟨kept_block (heap_alloc_new _ _) k1, below_alloc_call k1⟩
      clear k1
      have c3 := cell_regrown (cells9 HW.out.1).2.2.2.1
      refine QuietCalls.region (by kernel_rfl) (by kernel_rfl) ?_
      first | go_big_quiet_step (fail) | quiet_step (fail)
      first | go_big_quiet_step (fail) | quiet_step (fail)
      refine QuietCalls.call1 rfl rfl Tryd.call27 (fun w _ => HM.out w) rfl ?_; simp only [Act.put, List.setIfInBounds_toArray, List.set_cons_succ, List.set_cons_zero]
      first | go_big_quiet_step (fail) | quiet_step (fail)
      first | go_big_quiet_step (fail) | quiet_step (fail)
      first | go_big_quiet_step (fail) | quiet_step (fail)
      first | go_big_quiet_step (fail) | quiet_step (fail)
      first | go_big_quiet_step (fail) | quiet_step (fail)
      first | go_big_quiet_step (fail) | quiet_step (fail)
      first | go_big_quiet_step (fail) | quiet_step (fail)
      first | go_big_quiet_step (fail) | quiet_step (fail)
      first | go_big_quiet_step (fail) | quiet_step (fail)
      first | go_big_quiet_step (fail) | quiet_step (fail)
      first | go_big_quiet_step (fail) | quiet_step (fail)
      first | go_big_quiet_step (fail) | quiet_step (fail)
      refine wpQuiet_nil ?_
      intro w2 k2
      go_wp2_with fail
      go_ret
      exact ⟨rfl, HW.out.2.trans (k2.mono HW.out.2.size)⟩
    · rw [hm] at HM
      rw [Bool.true_and]
      clear hm
      cases hf : o.fits
      · rw [hf] at HF
        rw [Bool.false_and, if_neg (by decide)]
        clear hf
        obtain ⟨kd, ⟨c, k⟩, th, p, n, d, g, z⟩ := o
        dsimp only at HC HM HF HO ⊢
        go_enter Tryd.func9, Tryd.ntmps9
        go_wp2_with (go_at_call 26; refine (HC.out _).mono ?_; rintro e w1 ⟨rfl, k1⟩)
        have HW : Hid (w1.heap[w.heap.size]? = some (.cells (Ob.mk kd ⟨c, k⟩ th p n d g z).cs 26 (0, 0)) ∧ Below w.heap.size w w1) := ⟨kept_block (heap_alloc_new _ _) k1, below_alloc_call k1⟩
        clear k1
        have c3 := cell_regrown (cells9 HW.out.1).2.2.2.1
        refine QuietCalls.region (by kernel_rfl) (by kernel_rfl) ?_
        first | go_big_quiet_step (fail) | quiet_step (fail)
        first | go_big_quiet_step (fail) | quiet_step (fail)
        refine QuietCalls.call1 rfl rfl Tryd.call27 (fun w _ => HM.out w) rfl ?_; simp only [Act.put, List.setIfInBounds_toArray, List.set_cons_succ, List.set_cons_zero]
        first | go_big_quiet_step (fail) | quiet_step (fail)
        first | go_big_quiet_step (fail) | quiet_step (fail)
        refine QuietCalls.load rfl 26 _ rfl _ rfl _ _ _ _ HW.out.1 Tryd.underlying26 rfl infoOp ?_; simp only [Act.put, List.setIfInBounds_toArray, List.set_cons_succ, List.set_cons_zero]
        refine QuietCalls.call1 rfl rfl Tryd.call28 (fun w _ => HF.out w) rfl ?_; simp only [Act.put, List.setIfInBounds_toArray, List.set_cons_succ, List.set_cons_zero]
        first | go_big_quiet_step (fail) | quiet_step (fail)
        first | go_big_quiet_step (fail) | quiet_step (fail)
        first | go_big_quiet_step (fail) | quiet_step (fail)
        first | go_big_quiet_step (fail) | quiet_step (fail)
        first | go_big_quiet_step (fail) | quiet_step (fail)
        first | go_big_quiet_step (fail) | quiet_step (fail)
        first | go_big_quiet_step (fail) | quiet_step (fail)
        first | go_big_quiet_step (fail) | quiet_step (fail)
        refine wpQuiet_nil ?_
        intro w2 k2
        go_wp2_with fail
        go_ret
        exact ⟨rfl, HW.out.2.trans (k2.mono HW.out.2.size)⟩
      · rw [hf] at HF
        rw [Bool.true_and]
        clear hf
        cases he : o.eqb O
        · rw [if_neg (by decide)]
          obtain ⟨kd, ⟨c, k⟩, th, p, n, d, g, z⟩ := o
          dsimp only at HC HM HF HO ⊢
          go_enter Tryd.func9, Tryd.ntmps9
          go_wp2_with (go_at_call 26; refine (HC.out _).mono ?_; rintro e w1 ⟨rfl, k1⟩)
          have HW : Hid (w1.heap[w.heap.size]? = some (.cells (Ob.mk kd ⟨c, k⟩ th p n d g z).cs 26 (0, 0)) ∧ Below w.heap.size w w1) := ⟨kept_block (heap_alloc_new _ _) k1, below_alloc_call k1⟩
          clear k1
          have c3 := cell_regrown (cells9 HW.out.1).2.2.2.1
          refine QuietCalls.region (by kernel_rfl) (by kernel_rfl) ?_
          first | go_big_quiet_step (fail) | quiet_step (fail)
          first | go_big_quiet_step (fail) | quiet_step (fail)
          refine QuietCalls.call1 rfl rfl Tryd.call27 (fun w _ => HM.out w) rfl ?_; simp only [Act.put, List.setIfInBounds_toArray, List.set_cons_succ, List.set_cons_zero]
          first | go_big_quiet_step (fail) | quiet_step (fail)
          first | go_big_quiet_step (fail) | quiet_step (fail)
          refine QuietCalls.load rfl 26 _ rfl _ rfl _ _ _ _ HW.out.1 Tryd.underlying26 rfl infoOp ?_; simp only [Act.put, List.setIfInBounds_toArray, List.set_cons_succ, List.set_cons_zero]
          refine QuietCalls.call1 rfl rfl Tryd.call28 (fun w _ => HF.out w) rfl ?_; simp only [Act.put, List.setIfInBounds_toArray, List.set_cons_succ, List.set_cons_zero]
          first | go_big_quiet_step (fail) | quiet_step (fail)
          first | go_big_quiet_step (fail) | quiet_step (fail)
          first | go_big_quiet_step (fail) | quiet_step (fail)
          refine QuietCalls.load rfl 26 _ rfl _ rfl _ _ _ _ HW.out.1 Tryd.underlying26 rfl infoOp ?_; simp only [Act.put, List.setIfInBounds_toArray, List.set_cons_succ, List.set_cons_zero]
          refine QuietCalls.load rfl 26 _ rfl _ rfl _ _ _ _ HW.out.1 Tryd.underlying26 rfl infoOp ?_; simp only [Act.put, List.setIfInBounds_toArray, List.set_cons_succ, List.set_cons_zero]
          refine QuietCalls.call1 rfl rfl Tryd.call29 (fun w _ => HO.out w) rfl ?_; simp only [Act.put, List.setIfInBounds_toArray, List.set_cons_succ, List.set_cons_zero]
          refine QuietCalls.hand rfl (.bool true) (fun w => (neq_op rfl (Ob.mk kd ⟨c, k⟩ th p n d g z) O rfl rfl w).trans (by rw [he]; rfl)) ?_; simp only [Act.put, List.setIfInBounds_toArray, List.set_cons_succ, List.set_cons_zero]
          first | go_big_quiet_step (fail) | quiet_step (fail)
          refine wpQuiet_nil ?_
          intro w2 k2
          go_wp2_with fail
          go_ret
          exact ⟨rfl, HW.out.2.trans (k2.mono HW.out.2.size)⟩
        · rw [if_pos rfl]
          obtain ⟨kd, ⟨c, k⟩, th, p, n, d, g, z⟩ := o
          dsimp only at HC HM HF HO ⊢
          go_enter Tryd.func9, Tryd.ntmps9
          go_wp2_with (go_at_call 26; refine (HC.out _).mono ?_; rintro e w1 ⟨rfl, k1⟩)
          have HW : Hid (w1.heap[w.heap.size]? = some (.cells (Ob.mk kd ⟨c, k⟩ th p n d g z).cs 26 (0, 0)) ∧ Below w.heap.size w w1) := ⟨kept_block (heap_alloc_new _ _) k1, below_alloc_call k1⟩
          clear k1
          have c3 := cell_regrown (cells9 HW.out.1).2.2.2.1
          refine QuietCalls.region (by kernel_rfl) (by kernel_rfl) ?_
          first | go_big_quiet_step (fail) | quiet_step (fail)
          first | go_big_quiet_step (fail) | quiet_step (fail)
          refine QuietCalls.call1 rfl rfl Tryd.call27 (fun w _ => HM.out w) rfl ?_; simp only [Act.put, List.setIfInBounds_toArray, List.set_cons_succ, List.set_cons_zero]
          first | go_big_quiet_step (fail) | quiet_step (fail)
          first | go_big_quiet_step (fail) | quiet_step (fail)
          refine QuietCalls.load rfl 26 _ rfl _ rfl _ _ _ _ HW.out.1 Tryd.underlying26 rfl infoOp ?_; simp only [Act.put, List.setIfInBounds_toArray, List.set_cons_succ, List.set_cons_zero]
          refine QuietCalls.call1 rfl rfl Tryd.call28 (fun w _ => HF.out w) rfl ?_; simp only [Act.put, List.setIfInBounds_toArray, List.set_cons_succ, List.set_cons_zero]
          first | go_big_quiet_step (fail) | quiet_step (fail)
          first | go_big_quiet_step (fail) | quiet_step (fail)
          first | go_big_quiet_step (fail) | quiet_step (fail)
          refine QuietCalls.load rfl 26 _ rfl _ rfl _ _ _ _ HW.out.1 Tryd.underlying26 rfl infoOp ?_; simp only [Act.put, List.setIfInBounds_toArray, List.set_cons_succ, List.set_cons_zero]
          refine QuietCalls.load rfl 26 _ rfl _ rfl _ _ _ _ HW.out.1 Tryd.underlying26 rfl infoOp ?_; simp only [Act.put, List.setIfInBounds_toArray, List.set_cons_succ, List.set_cons_zero]
          refine QuietCalls.call1 rfl rfl Tryd.call29 (fun w _ => HO.out w) rfl ?_; simp only [Act.put, List.setIfInBounds_toArray, List.set_cons_succ, List.set_cons_zero]
          refine QuietCalls.hand rfl (.bool false) (fun w => (neq_op rfl (Ob.mk kd ⟨c, k⟩ th p n d g z) O rfl rfl w).trans (by rw [he]; rfl)) ?_; simp only [Act.put, List.setIfInBounds_toArray, List.set_cons_succ, List.set_cons_zero]
          first | go_big_quiet_step (fail) | quiet_step (fail)
          refine wpQuiet_nil ?_
          intro w2 k2
          go_wp2_with fail
          go_ret
          exact ⟨rfl, HW.out.2.trans (k2.mono HW.out.2.size)⟩
  · rw [Tm.chk_no hok] at HC
    rw [Ob.chk_no hok]
    clear hok
    obtain ⟨kd, ⟨c, k⟩, th, p, n, d, g, z⟩ := o
    dsimp only at HC HM HF HO ⊢
    go_enter Tryd.func9, Tryd.ntmps9
    go_wp2_with (go_at_call 26; refine (HC.out _).mono ?_; rintro e w1 ⟨rfl, k1⟩)
    go_ret
    exact ⟨rfl, below_alloc_call k1⟩
end Go.Proofs.YtdcgemaaohldmaaDoor
/- Contract: an operation as the document has it. -/
namespace Go.Proofs.YtdcgemaaohldmaaDoor
open Go.RowKit Go.Wire Go.Stamp Go.Opn Go.Sort
theorem below_setRow {B : Nat} {w w1 : World} (h : Below B w w1) {g : Nat} (hg : B ≤ g) (cs : Array Value) : Below B w (w1.setRow g cs) :=
  h.trans ⟨rfl, rfl, rfl, by simp, fun k hk => setRow_other _ _ _ _ (by omega)⟩
set_option maxRecDepth 100000 in
set_option maxHeartbeats 1000000 in
theorem refOp_any (o : Ob) (w : World) :
    Calls Tryd.prog 7 #[o.v] w fun e w' => e = .returned o.v ∧ Below w.heap.size w w' := by
  have HR : Hid (∀ w, Calls Tryd.prog 25 #[o.tm.v] w fun e w' => e = .returned o.tm.v ∧ Below w.heap.size w w') := fun w => ref_any o.tm w
  obtain ⟨kd, ⟨c, k⟩, th, p, n, d, g, z⟩ := o
  unfold Tm.v at HR
  unfold Ob.v
  dsimp only at HR ⊢
  go_enter Tryd.func7, Tryd.ntmps7
  go_wp2_with fail
  obtain ⟨W, hW⟩ : ∃ W, W = (w.alloc (.cells (Ob.mk kd ⟨c, k⟩ th p n d g z).cs 26)).alloc (.cells Ob.zero.cs 33) := ⟨_, rfl⟩
  dsimp only [Ob.zero] at hW
  rw [← hW]
  have HW : Hid (W.heap[w.heap.size]? = some (.cells (Ob.mk kd ⟨c, k⟩ th p n d g z).cs 26 (0, 0)) ∧ W.heap[w.heap.size + 1]? = some (.cells Ob.zero.cs 33 (0, 0)) ∧ Below w.heap.size w W) := by
    rw [hW]; exact ⟨kept_alloc (heap_alloc_new _ _) _, new_at (by simp) _, ((Below.refl _ _).alloc (Nat.le_refl _) _).alloc (by simp) _⟩
  clear hW
  obtain ⟨c0, c1, c2, c3, c4, c5, c6, c7, c8⟩ := cells9 HW.out.1
  replace c0 := cell_regrown c0
  replace c3 := cell_regrown c3
  replace c4 := cell_regrown c4
  replace c5 := cell_regrown c5
  replace c6 := cell_regrown c6
  replace c7 := cell_regrown c7
  replace c8 := cell_regrown c8
  refine QTail.wp_region_tail (fun w' => ∃ p : Regrown, w' = grow (redrawn W p.d) p.os) 18 (by kernel_rfl) (by kernel_rfl) ⟨⟨W.drawn + 1, #[]⟩, by rw [grow_empty]; rfl⟩ ?_
  simp only [List.take_succ_cons, List.take_zero, List.drop_succ_cons, List.drop_zero]
  first | go_big_quiet_step (fail) | quiet_step (fail)
  first | go_big_quiet_step (fail) | quiet_step (fail)
  first | go_big_quiet_step (fail) | quiet_step (fail)
  refine QuietCalls.loadMid rfl 24 _ rfl _ _ rfl [.int .u64 c, .int .i64 k] _ (fun w k => range_tm (kept_block HW.out.1 k)) Tryd.underlying24 rfl info24 ?_; simp only [Act.put, List.setIfInBounds_toArray, List.set_cons_succ, List.set_cons_zero]
  refine QuietCalls.call1 rfl rfl Tryd.call25 (fun w _ => HR.out w) rfl ?_; simp only [Act.put, List.setIfInBounds_toArray, List.set_cons_succ, List.set_cons_zero]
  first | go_big_quiet_step (fail) | quiet_step (fail)
  first | go_big_quiet_step (fail) | quiet_step (fail)
  first | go_big_quiet_step (fail) | quiet_step (fail)
  first | go_big_quiet_step (fail) | quiet_step (fail)
  first | go_big_quiet_step (fail) | quiet_step (fail)
  first | go_big_quiet_step (fail) | quiet_step (fail)
  first | go_big_quiet_step (fail) | quiet_step (fail)
  first | go_big_quiet_step (fail) | quiet_step (fail)
  first | go_big_quiet_step (fail) | quiet_step (fail)
  first | go_big_quiet_step (fail) | quiet_step (fail)
  first | go_big_quiet_step (fail) | quiet_step (fail)
  first | go_big_quiet_step (fail) | quiet_step (fail)
  first | go_big_quiet_step (fail) | quiet_step (fail)
  refine wpQuiet_nil ?_
  rintro _ ⟨⟨dq, osq⟩, rfl⟩
  have hbl := below_regrown W dq osq
  generalize grow (redrawn W dq) osq = V at hbl
  have HV : Hid (V.heap[w.heap.size + 1]? = some (.cells Ob.zero.cs 33 (0, 0)) ∧ Below w.heap.size w V) := ⟨kept_block HW.out.2.1 hbl, HW.out.2.2.trans (hbl.mono HW.out.2.2.size)⟩
  clear hbl c0 c3 c4 c5 c6 c7 c8 c1 c2
  refine wpList_store_row rfl 33 _ _ rfl _ _ rfl rfl 33 _ HV.out.1 infoROp rfl (by simp [Value.oneCell']) ?_
  go_wp2_with fail
  exact bodyPost_ret (results_cell_row Tryd.results7 _ _ _ _ _ (0, 0) _ rfl (setRow_heap _ _ _ _ _ _ HV.out.1) Tryd.underlying33 rfl infoROp) rfl ⟨rfl, below_setRow HV.out.2 (by omega) _⟩
end Go.Proofs.YtdcgemaaohldmaaDoor
/- Operations of the document's own are compared. -/
namespace Go.Proofs.YtdcgemaaohldmaaDoor
open Go.RowKit Go.Wire Go.Stamp Go.Opn
theorem eq_rstamp (a b : Tm) (w : World) : (Op.equalIn 9999 31 (.agg #[.int .u64 a.c, .int .i64 a.k]) (.agg #[.int .u64 b.c, .int .i64 b.k])).run Tryd.prog w = .ok (a.c == b.c && (a.k == b.k && true)) w := by
  rw [run_equalIn_agg w 9998 31 _ _ (by unfold Program.fieldsOf; rw [Tryd.underlying31]) (by kernel_rfl)]
  unfold Program.fieldsOf
  rw [Tryd.underlying31]
  refine eq_step (x := .int .u64 a.c) (y := .int .u64 b.c) (by decide) (by go_simp) (by go_simp) (run_equalIn_int w _ _ _ _ _ _ Tryd.underlying22) ?_
  refine eq_step (x := .int .i64 a.k) (y := .int .i64 b.k) (by decide) (by go_simp) (by go_simp) (run_equalIn_int w _ _ _ _ _ _ Tryd.underlying3) ?_
  rfl
theorem eq_rop (a b : Ob) (w : World) : (Op.equalIn 10000 33 (.agg a.cs) (.agg b.cs)).run Tryd.prog w = .ok (a.eqb b) w := by
  rw [run_equalIn_agg w 9999 33 a.cs b.cs (by unfold Program.fieldsOf; rw [Tryd.underlying33]) (by kernel_rfl)]
  unfold Program.fieldsOf
  rw [Tryd.underlying33]
  refine eq_step (x := .int .i64 a.kind) (y := .int .i64 b.kind) (by decide) (by go_simp) (by go_simp) (run_equalIn_int w _ _ _ _ _ _ Tryd.underlying3) ?_
  refine eq_step (x := .agg #[.int .u64 a.tm.c, .int .i64 a.tm.k]) (y := .agg #[.int .u64 b.tm.c, .int .i64 b.tm.k]) (by decide) (by go_simp) (by go_simp) (eq_rstamp a.tm b.tm w) ?_
  refine eq_step (x := .int .u64 a.thing) (y := .int .u64 b.thing) (by decide) (by go_simp) (by go_simp) (run_equalIn_int w _ _ _ _ _ _ Tryd.underlying22) ?_
  refine eq_step (x := .int .u64 a.par) (y := .int .u64 b.par) (by decide) (by go_simp) (by go_simp) (run_equalIn_int w _ _ _ _ _ _ Tryd.underlying22) ?_
  refine eq_step (x := .string a.name) (y := .string b.name) (by decide) (by go_simp) (by go_simp) (run_equalIn_string w _ _ _ _ Tryd.underlying9) ?_
  refine eq_step (x := .bool a.dir) (y := .bool b.dir) (by decide) (by go_simp) (by go_simp) (run_equalIn_bool' w _ _ _ _ Tryd.underlying4) ?_
  refine eq_step (x := .string a.dg) (y := .string b.dg) (by decide) (by go_simp) (by go_simp) (run_equalIn_string w _ _ _ _ Tryd.underlying9) ?_
  refine eq_step (x := .int .i64 a.size) (y := .int .i64 b.size) (by decide) (by go_simp) (by go_simp) (run_equalIn_int w _ _ _ _ _ _ Tryd.underlying3) ?_
  rfl
theorem guardROp : Tryd.prog.eqGuardType Tryd.prog.depth 33 = false := by kernel_rfl
theorem eql_rop {o : Oper} {a : Act} {x y : Operand} {t : TypeId} (ho : o.op = .binOp .eql 33 x y t) (p q : Ob) (hx : a.eval x = .agg p.cs) (hy : a.eval y = .agg q.cs) (w : World) :
    (execOp a.eval o).run Tryd.prog w = .ok (.value (.bool (p.eqb q))) w := by
  unfold execOp
  rw [ho]
  simp only [hx, hy, Sem.run_bind, run_eqGuard_agg w .eql 33 x y p.cs q.cs guardROp, Result.andThen_ok, run_eql_struct, eq_rop]
  rfl
end Go.Proofs.YtdcgemaaohldmaaDoor
