/- Several texts in one: OpLeaves, OpCheck, OpCheck2, OpPut, OpEncode. -/
import Derived.Test.YtkbboddibgfjbaaGreatDoorWirePure
import Derived.Test.YtkbboddibgfjbaaGreatDoorStampAll
import Derived.Deep.MidRow
import Derived.Deep.Cut
import Derived.Deep.CutBlock
import Derived.Deep.DeepCutAuto
import Derived.Test.YtkbboddibgfjbaaGreatDoorWireOut
/- Contracts of the operations' small functions. -/
namespace Go.Opn
open Go.RowKit Go.Wire Go.Stamp
/-- An operation's cells. -/
abbrev Ob.cs (o : Ob) : Array Value := #[.int .i64 o.kind, .int .u64 o.tm.c, .int .i64 o.tm.k, .int .u64 o.thing, .int .u64 o.par, .string o.name, .bool o.dir, .string o.dg, .int .i64 o.size]
theorem cells9 {w : World} {g : Nat} {o : Ob} {T : TypeId} (h : w.heap[g]? = some (.cells o.cs T (0, 0))) :
    w.cell? ⟨g, 0, none⟩ = some (.int .i64 o.kind) ∧ w.cell? ⟨g, 1, none⟩ = some (.int .u64 o.tm.c) ∧ w.cell? ⟨g, 2, none⟩ = some (.int .i64 o.tm.k) ∧ w.cell? ⟨g, 3, none⟩ = some (.int .u64 o.thing) ∧ w.cell? ⟨g, 4, none⟩ = some (.int .u64 o.par) ∧
    w.cell? ⟨g, 5, none⟩ = some (.string o.name) ∧ w.cell? ⟨g, 6, none⟩ = some (.bool o.dir) ∧ w.cell? ⟨g, 7, none⟩ = some (.string o.dg) ∧ w.cell? ⟨g, 8, none⟩ = some (.int .i64 o.size) :=
  ⟨cell_of_row _ _ _ _ _ _ h, cell_of_row _ _ _ _ _ _ h, cell_of_row _ _ _ _ _ _ h, cell_of_row _ _ _ _ _ _ h, cell_of_row _ _ _ _ _ _ h, cell_of_row _ _ _ _ _ _ h, cell_of_row _ _ _ _ _ _ h, cell_of_row _ _ _ _ _ _ h, cell_of_row _ _ _ _ _ _ h⟩
theorem frozen9 {w : World} {g : Nat} {o : Ob} {T : TypeId} (h : w.heap[g]? = some (.cells o.cs T (0, 0))) (i : Nat) : w.frozen? ⟨g, i, none⟩ = false :=
  frozen_of_row _ _ _ _ _ h
theorem eq_step {P : Program} {w : World} {d : Nat} {xs ys : Array Value} {f : Field} {fs : List Field} {x y : Value} {r q : Bool} (hn : f.name ≠ "_") (hx : (part f.type xs f.offset).run P w = .ok x w) (hy : (part f.type ys f.offset).run P w = .ok y w)
    (he : (Op.equalIn d f.type x y).run P w = .ok r w) (rest : (Op.eqFields d xs ys fs).run P w = .ok q w) : (Op.eqFields d xs ys (f :: fs)).run P w = .ok (r && q) w := by
  simp only [Op.eqFields, if_pos hn, Sem.run_bind, hx, hy, he, Result.andThen_ok, Sem.run_ite, rest]
  cases r
  · simp
  · simp
theorem range_tm {w : World} {g : Nat} {o : Ob} {T : TypeId} (h : w.heap[g]? = some (.cells o.cs T (0, 0))) : w.rangeAt g 1 [.int .u64 o.tm.c, .int .i64 o.tm.k] := by
  intro j v hj
  match j, hj with
  | 0, hj => cases hj; exact (cells9 h).2.1
  | 1, hj => cases hj; exact (cells9 h).2.2.1
end Go.Opn
namespace Go.QuietCalls
open Go.RowKit Go.Sort
/-- A struct that lies in the midst of a block is loaded. -/
theorem loadMid {P : Program} {ops : Array Oper} {W : World} {Q : Act → Prop} {rest : List Oper} {o : Oper} {a : Act} (hgd : Region.wanted o (yielded ops a.tmps) = true) (ty : TypeId) (x : Operand) (ho : o.op = .load ty x)
    (g off : Nat) (hx : a.eval x = .pointer (some ⟨g, off, none⟩)) (cs : List Value) (d : TypeDesc) (hc : ∀ w, Below W.heap.size W w → w.rangeAt g off cs)
    (hu : P.underlying ty = some d) (hd : d.isRow = true) (hi : (P.info? ty).map (·.size) = some cs.length)
    (h : wpQuiet P ops (fun w' => ∃ p : Regrown, w' = grow (redrawn W p.d) p.os) Q rest (a.put o.dst (.agg cs.toArray))) : wpQuiet P ops (fun w' => ∃ p : Regrown, w' = grow (redrawn W p.d) p.os) Q (o :: rest) a := by
  refine wpQuiet_step fun K hK => ?_
  rw [if_pos hgd]
  refine ⟨.agg cs.toArray, fun w hw0 => ?_, hK _ h⟩
  have hw : Below W.heap.size W w := by obtain ⟨p, rfl⟩ := hw0; exact below_regrown _ _ _
  unfold Oper.quietAt execOp
  simp only [ho, hx, Instr.loadAt, Instr.sureAddr, Sem.run_bind, Sem.run_pure, Result.andThen_ok, run_loadVar_mid w g off ty cs d (hc w hw) hu hd hi]
  exact ⟨rfl, rfl⟩
end Go.QuietCalls
namespace Go.Proofs.YtkbboddibgfjbaaGreatDoor
open Go.RowKit Go.Wire Go.Stamp Go.Opn
theorem infoOp : (Tryz.prog.info? 58).map (·.size) = some 9 := by kernel_rfl
theorem infoROp : (Tryz.prog.info? 49).map (·.size) = some 9 := by kernel_rfl
set_option maxHeartbeats 400000 in
theorem parent_any (n : Int) (w : World) :
    Calls Tryz.prog 175 #[.int .u64 n] w fun e w' => e = .returned (.bool (n == 0 || made n)) ∧ w' = w := by
  have H : Hid (∀ w, Calls Tryz.prog 140 #[.int .u64 n] w fun e w' => e = .returned (.bool (made n)) ∧ w' = w) := fun w => made_any n w
  by_cases h : n = 0
  · subst h
    go_enter Tryz.func175, Tryz.ntmps175
    go_wp2
    go_ret
    exact ⟨rfl, rfl⟩
  · have h0 : (n == 0) = false := beq_eq_false_iff_ne.2 h
    rw [h0, Bool.false_or]
    generalize made n = b at H
    go_enter Tryz.func175, Tryz.ntmps175
    go_wp2_with (go_at_call 140; refine (H.out _).mono ?_; rintro e w' ⟨rfl, rfl⟩)
    go_ret
    exact ⟨rfl, rfl⟩
set_option maxHeartbeats 1000000 in
theorem own_any (o : Ob) (w : World) :
    Calls Tryz.prog 142 #[o.v] w fun e w' => e = .returned o.own.v ∧ Below w.heap.size w w' := by
  obtain ⟨kd, ⟨c, k⟩, th, p, n, d, g, z⟩ := o
  by_cases k1 : kd = 1
  · subst k1
    unfold Ob.own Ob.v
    dsimp only
    go_enter Tryz.func142, Tryz.ntmps142
    go_wp2
    go_region
    go_wp2
    exact bodyPost_ret (results_cell_row Tryz.results142 _ _ _ _ _ (0, 0) _ rfl (kept_alloc (new_at (by simp) _) _) Tryz.underlying58 rfl infoOp) rfl ⟨rfl, ((((Below.refl _ _).alloc (Nat.le_refl _) _).alloc (by simp) _).alloc (by simp; omega) _).drew⟩
  by_cases k2 : kd = 2
  · subst k2
    unfold Ob.own Ob.v
    dsimp only
    go_enter Tryz.func142, Tryz.ntmps142
    go_wp2
    go_region
    go_wp2
    exact bodyPost_ret (results_cell_row Tryz.results142 _ _ _ _ _ (0, 0) _ rfl (kept_alloc (new_at (by simp) _) _) Tryz.underlying58 rfl infoOp) rfl ⟨rfl, ((((Below.refl _ _).alloc (Nat.le_refl _) _).alloc (by simp) _).alloc (by simp; omega) _).drew⟩
  by_cases k4 : kd = 4
  · subst k4
    unfold Ob.own Ob.v
    dsimp only
    go_enter Tryz.func142, Tryz.ntmps142
    go_wp2
    go_region
    go_wp2
    exact bodyPost_ret (results_cell_row Tryz.results142 _ _ _ _ _ (0, 0) _ rfl (kept_alloc (new_at (by simp) _) _) Tryz.underlying58 rfl infoOp) rfl ⟨rfl, ((((Below.refl _ _).alloc (Nat.le_refl _) _).alloc (by simp) _).alloc (by simp; omega) _).drew⟩
  · unfold Ob.own Ob.v
    dsimp only
    rw [if_neg k1, if_neg k2, if_neg k4]
    have e1 : (kd == 1) = false := beq_eq_false_iff_ne.2 k1
    have e2 : (kd == 2) = false := beq_eq_false_iff_ne.2 k2
    have e4 : (kd == 4) = false := beq_eq_false_iff_ne.2 k4
    clear k1 k2 k4
    go_enter Tryz.func142, Tryz.ntmps142
    go_wp2
    exact bodyPost_ret (results_cell_row Tryz.results142 _ _ _ _ _ (0, 0) _ rfl (kept_alloc (new_at (by simp) _) _) Tryz.underlying58 rfl infoOp) rfl ⟨rfl, ((((Below.refl _ _).alloc (Nat.le_refl _) _).alloc (by simp) _).alloc (by simp; omega) _)⟩
theorem eq_stamp (a b : Tm) (w : World) : (Op.equalIn 9999 56 (.agg #[.int .u64 a.c, .int .i64 a.k]) (.agg #[.int .u64 b.c, .int .i64 b.k])).run Tryz.prog w = .ok (a.c == b.c && (a.k == b.k && true)) w := by
  rw [run_equalIn_agg w 9998 56 _ _ (by unfold Program.fieldsOf; rw [Tryz.underlying56]) (by kernel_rfl)]
  unfold Program.fieldsOf
  rw [Tryz.underlying56]
  refine eq_step (x := .int .u64 a.c) (y := .int .u64 b.c) (by decide) (by go_simp) (by go_simp) (run_equalIn_int w _ _ _ _ _ _ Tryz.underlying45) ?_
  refine eq_step (x := .int .i64 a.k) (y := .int .i64 b.k) (by decide) (by go_simp) (by go_simp) (run_equalIn_int w _ _ _ _ _ _ Tryz.underlying3) ?_
  rfl
theorem eq_op (a b : Ob) (w : World) : (Op.equalIn 10000 58 (.agg a.cs) (.agg b.cs)).run Tryz.prog w = .ok (a.eqb b) w := by
  rw [run_equalIn_agg w 9999 58 a.cs b.cs (by unfold Program.fieldsOf; rw [Tryz.underlying58]) (by kernel_rfl)]
  unfold Program.fieldsOf
  rw [Tryz.underlying58]
  refine eq_step (x := .int .i64 a.kind) (y := .int .i64 b.kind) (by decide) (by go_simp) (by go_simp) (run_equalIn_int w _ _ _ _ _ _ Tryz.underlying3) ?_
  refine eq_step (x := .agg #[.int .u64 a.tm.c, .int .i64 a.tm.k]) (y := .agg #[.int .u64 b.tm.c, .int .i64 b.tm.k]) (by decide) (by go_simp) (by go_simp) (eq_stamp a.tm b.tm w) ?_
  refine eq_step (x := .int .u64 a.thing) (y := .int .u64 b.thing) (by decide) (by go_simp) (by go_simp) (run_equalIn_int w _ _ _ _ _ _ Tryz.underlying45) ?_
  refine eq_step (x := .int .u64 a.par) (y := .int .u64 b.par) (by decide) (by go_simp) (by go_simp) (run_equalIn_int w _ _ _ _ _ _ Tryz.underlying45) ?_
  refine eq_step (x := .string a.name) (y := .string b.name) (by decide) (by go_simp) (by go_simp) (run_equalIn_string w _ _ _ _ Tryz.underlying9) ?_
  refine eq_step (x := .bool a.dir) (y := .bool b.dir) (by decide) (by go_simp) (by go_simp) (run_equalIn_bool' w _ _ _ _ Tryz.underlying4) ?_
  refine eq_step (x := .string a.dg) (y := .string b.dg) (by decide) (by go_simp) (by go_simp) (run_equalIn_string w _ _ _ _ Tryz.underlying9) ?_
  refine eq_step (x := .int .i64 a.size) (y := .int .i64 b.size) (by decide) (by go_simp) (by go_simp) (run_equalIn_int w _ _ _ _ _ _ Tryz.underlying3) ?_
  rfl
end Go.Proofs.YtkbboddibgfjbaaGreatDoor
/- Contracts: whether an operation may be, the program's and the document's; an operation as the document has it. -/
namespace Go.Opn
open Go.RowKit Go.Wire Go.Stamp
/-- The ways through whether a place may be. -/
theorem place_ways (par th : Int) (n : ByteArray) (P : Bool → Prop)
    (a : (par == 0 || made par) = false → P false)
    (b : (par == 0 || made par) = true → (par != th) = false → P false)
    (c : (par == 0 || made par) = true → (par != th) = true → (n.size : Int) < 1 → P false)
    (d : (par == 0 || made par) = true → (par != th) = true → 1 ≤ (n.size : Int) → decide ((n.size : Int) ≤ 32) = false → P false)
    (e : (par == 0 || made par) = true → (par != th) = true → 1 ≤ (n.size : Int) → decide ((n.size : Int) ≤ 32) = true → P true) :
    P ((par == 0 || made par) && !(par == th) && decide (1 ≤ n.size) && decide (n.size ≤ 32)) := by
  cases h1 : (par == 0 || made par)
  · exact a h1
  · by_cases h2 : par = th
    · rw [beq_iff_eq.2 h2]; exact b h1 (by rw [bne, beq_iff_eq.2 h2]; rfl)
    · rw [beq_eq_false_iff_ne.2 h2]
      replace h2 : (par != th) = true := by rw [bne, beq_eq_false_iff_ne.2 h2]; rfl
      by_cases h3 : 1 ≤ n.size
      · by_cases h4 : n.size ≤ 32
        · rw [decide_eq_true h3, decide_eq_true h4]; exact e h1 h2 (by omega) (decide_eq_true (by omega))
        · rw [decide_eq_true h3, decide_eq_false h4]; exact d h1 h2 (by omega) (decide_eq_false (by omega))
      · rw [decide_eq_false h3]; exact c h1 h2 (by omega)
theorem fill_ways (n : ByteArray) (z : Int) (P : Bool → Prop)
    (a : ((n.size : Int) == 32) = false → P false)
    (b : ((n.size : Int) == 32) = true → z < 0 → P false)
    (c : ((n.size : Int) == 32) = true → 0 ≤ z → decide (z ≤ 8192) = false → P false)
    (d : ((n.size : Int) == 32) = true → 0 ≤ z → decide (z ≤ 8192) = true → P true) : P (n.size == 32 && decide (0 ≤ z) && decide (z ≤ 8192)) := by
  by_cases h1 : n.size = 32
  · have e1 : ((n.size : Int) == 32) = true := beq_iff_eq.2 (by omega)
    rw [beq_iff_eq.2 h1]
    by_cases h2 : 0 ≤ z
    · by_cases h3 : z ≤ 8192
      · rw [decide_eq_true h2, decide_eq_true h3]; exact d e1 h2 (decide_eq_true h3)
      · rw [decide_eq_true h2, decide_eq_false h3]; exact c e1 h2 (decide_eq_false h3)
    · rw [decide_eq_false h2]; exact b e1 (by omega)
  · rw [beq_eq_false_iff_ne.2 h1]
    exact a (beq_eq_false_iff_ne.2 (by omega))
end Go.Opn
namespace Go.Proofs.YtkbboddibgfjbaaGreatDoor
open Go.RowKit Go.Wire Go.Stamp Go.Opn
set_option maxHeartbeats 1000000 in
theorem fits2 (o : Ob) (w : World) (h : o.kind = 2) :
    Calls Tryz.prog 141 #[o.v] w fun e w' => e = .returned (.bool o.place) ∧ Below w.heap.size w w' := by
  obtain ⟨kd, ⟨c, k⟩, th, p, n, d, g, z⟩ := o
  dsimp only at h
  subst h
  have HP : Hid (∀ w, Calls Tryz.prog 175 #[.int .u64 p] w fun e w' => e = .returned (.bool (p == 0 || made p)) ∧ w' = w) := fun w => parent_any p w
  unfold Ob.place Ob.v
  dsimp only
  refine place_ways p th n (fun b => Calls Tryz.prog 141 #[.agg #[.int .i64 2, .int .u64 c, .int .i64 k, .int .u64 th, .int .u64 p, .string n, .bool d, .string g, .int .i64 z]] w fun e w' => e = .returned (.bool b) ∧ Below w.heap.size w w') ?_ ?_ ?_ ?_ ?_
  all_goals (
    intro h1
    rw [h1] at HP
    clear h1
    intros
    go_enter Tryz.func141, Tryz.ntmps141
    go_wp2_with (go_at_call 175; refine (HP.out _).mono ?_; rintro e w' ⟨rfl, rfl⟩)
    go_ret
    exact ⟨rfl, (Below.refl _ _).alloc (Nat.le_refl _) _⟩)
set_option maxHeartbeats 1000000 in
theorem fits1 (o : Ob) (w : World) (h : o.kind = 1) :
    Calls Tryz.prog 141 #[o.v] w fun e w' => e = .returned (.bool (o.thing == o.tm.thing && o.place)) ∧ Below w.heap.size w w' := by
  have HT : Hid (∀ w, Calls Tryz.prog 174 #[o.tm.v] w fun e w' => e = .returned (.int .u64 o.tm.thing) ∧ Below w.heap.size w w') := fun w => thing_any o.tm w
  unfold Tm.v at HT
  generalize o.tm.thing = t at HT
  obtain ⟨kd, ⟨c, k⟩, th, p, n, d, g, z⟩ := o
  dsimp only at h HT
  subst h
  have HP : Hid (∀ w, Calls Tryz.prog 175 #[.int .u64 p] w fun e w' => e = .returned (.bool (p == 0 || made p)) ∧ w' = w) := fun w => parent_any p w
  unfold Ob.place Ob.v
  dsimp only
  by_cases ht : th = t
  · rw [beq_iff_eq.2 ht, Bool.true_and]
    replace ht : (th != t) = false := by rw [bne, beq_iff_eq.2 ht]; rfl
    refine place_ways p th n (fun b => Calls Tryz.prog 141 #[.agg #[.int .i64 1, .int .u64 c, .int .i64 k, .int .u64 th, .int .u64 p, .string n, .bool d, .string g, .int .i64 z]] w fun e w' => e = .returned (.bool b) ∧ Below w.heap.size w w') ?_ ?_ ?_ ?_ ?_
    all_goals (
      intro h1
      rw [h1] at HP
      clear h1
      intros
      go_enter Tryz.func141, Tryz.ntmps141
      go_wp2_with fail
      obtain ⟨W, hW⟩ : ∃ W, W = w.alloc (.cells (Ob.mk 1 ⟨c, k⟩ th p n d g z).cs 58) := ⟨_, rfl⟩
      rw [← hW]
      have HW : Hid (W.heap[w.heap.size]? = some (.cells (Ob.mk 1 ⟨c, k⟩ th p n d g z).cs 58 (0, 0)) ∧ Below w.heap.size w W) := by rw [hW]; exact ⟨heap_alloc_new _ _, (Below.refl _ _).alloc (Nat.le_refl _) _⟩
      clear hW
      have c3 := cell_regrown (cells9 HW.out.1).2.2.2.1
      refine QuietCalls.region (by kernel_rfl) (by kernel_rfl) ?_
      first | go_big_quiet_step (fail) | quiet_step (fail)
      first | go_big_quiet_step (fail) | quiet_step (fail)
      first | go_big_quiet_step (fail) | quiet_step (fail)
      refine QuietCalls.loadMid rfl 56 _ rfl _ _ rfl [.int .u64 c, .int .i64 k] _ (fun w k => range_tm (kept_block HW.out.1 k)) Tryz.underlying56 rfl info24 ?_; simp only [Act.put, List.setIfInBounds_toArray, List.set_cons_succ, List.set_cons_zero]
      refine QuietCalls.call1 rfl rfl Tryz.call174 (fun w _ => HT.out w) rfl ?_; simp only [Act.put, List.setIfInBounds_toArray, List.set_cons_succ, List.set_cons_zero]
      first | go_big_quiet_step (fail) | quiet_step (fail)
      refine wpQuiet_nil ?_
      intro w1 k1
      replace HW : Hid (w1.heap[w.heap.size]? = some (.cells (Ob.mk 1 ⟨c, k⟩ th p n d g z).cs 58 (0, 0)) ∧ Below w.heap.size w w1) := ⟨kept_block HW.out.1 k1, HW.out.2.trans (k1.mono HW.out.2.size)⟩
      clear k1 c3
      obtain ⟨c0, c1, c2, c3, c4, c5, c6, c7, c8⟩ := cells9 HW.out.1
      go_wp2_with (go_at_call 175; refine (HP.out _).mono ?_; rintro e w' ⟨rfl, rfl⟩)
      go_ret
      exact ⟨rfl, HW.out.2⟩)
  · rw [beq_eq_false_iff_ne.2 ht, Bool.false_and]
    replace ht : (th != t) = true := by rw [bne, beq_eq_false_iff_ne.2 ht]; rfl
    go_enter Tryz.func141, Tryz.ntmps141
    go_wp2_with fail
    obtain ⟨W, hW⟩ : ∃ W, W = w.alloc (.cells (Ob.mk 1 ⟨c, k⟩ th p n d g z).cs 58) := ⟨_, rfl⟩
    rw [← hW]
    have HW : Hid (W.heap[w.heap.size]? = some (.cells (Ob.mk 1 ⟨c, k⟩ th p n d g z).cs 58 (0, 0)) ∧ Below w.heap.size w W) := by rw [hW]; exact ⟨heap_alloc_new _ _, (Below.refl _ _).alloc (Nat.le_refl _) _⟩
    clear hW
    have c3 := cell_regrown (cells9 HW.out.1).2.2.2.1
    refine QuietCalls.region (by kernel_rfl) (by kernel_rfl) ?_
    first | go_big_quiet_step (fail) | quiet_step (fail)
    first | go_big_quiet_step (fail) | quiet_step (fail)
    first | go_big_quiet_step (fail) | quiet_step (fail)
    refine QuietCalls.loadMid rfl 56 _ rfl _ _ rfl [.int .u64 c, .int .i64 k] _ (fun w k => range_tm (kept_block HW.out.1 k)) Tryz.underlying56 rfl info24 ?_; simp only [Act.put, List.setIfInBounds_toArray, List.set_cons_succ, List.set_cons_zero]
    refine QuietCalls.call1 rfl rfl Tryz.call174 (fun w _ => HT.out w) rfl ?_; simp only [Act.put, List.setIfInBounds_toArray, List.set_cons_succ, List.set_cons_zero]
    first | go_big_quiet_step (fail) | quiet_step (fail)
    refine wpQuiet_nil ?_
    intro w1 k1
    replace HW : Hid (w1.heap[w.heap.size]? = some (.cells (Ob.mk 1 ⟨c, k⟩ th p n d g z).cs 58 (0, 0)) ∧ Below w.heap.size w w1) := ⟨kept_block HW.out.1 k1, HW.out.2.trans (k1.mono HW.out.2.size)⟩
    clear k1 c3
    obtain ⟨c0, c1, c2, c3, c4, c5, c6, c7, c8⟩ := cells9 HW.out.1
    go_wp2_with fail
    go_ret
    exact ⟨rfl, HW.out.2⟩
set_option maxHeartbeats 1000000 in
theorem fits4 (o : Ob) (w : World) (h : o.kind = 4) :
    Calls Tryz.prog 141 #[o.v] w fun e w' => e = .returned (.bool o.fill) ∧ Below w.heap.size w w' := by
  obtain ⟨kd, ⟨c, k⟩, th, p, n, d, g, z⟩ := o
  dsimp only at h
  subst h
  unfold Ob.fill Ob.v
  dsimp only
  refine fill_ways g z (fun b => Calls Tryz.prog 141 #[.agg #[.int .i64 4, .int .u64 c, .int .i64 k, .int .u64 th, .int .u64 p, .string n, .bool d, .string g, .int .i64 z]] w fun e w' => e = .returned (.bool b) ∧ Below w.heap.size w w') ?_ ?_ ?_ ?_
  all_goals (
    intros
    go_enter Tryz.func141, Tryz.ntmps141
    go_wp2_with fail
    go_ret
    exact ⟨rfl, (Below.refl _ _).alloc (Nat.le_refl _) _⟩)
set_option maxHeartbeats 1000000 in
theorem fits_any (o : Ob) (w : World) :
    Calls Tryz.prog 141 #[o.v] w fun e w' => e = .returned (.bool o.fits) ∧ Below w.heap.size w w' := by
  unfold Ob.fits
  by_cases k1 : o.kind = 1
  · rw [if_pos k1]; exact fits1 o w k1
  rw [if_neg k1]
  by_cases k2 : o.kind = 2
  · rw [if_pos k2]; exact fits2 o w k2
  rw [if_neg k2]
  by_cases k3 : o.kind = 3
  · rw [if_pos k3]
    obtain ⟨kd, ⟨c, k⟩, th, p, n, d, g, z⟩ := o
    dsimp only at k3
    subst k3
    unfold Ob.v
    clear k1 k2
    go_enter Tryz.func141, Tryz.ntmps141
    go_wp2_with fail
    go_ret
    exact ⟨rfl, (Below.refl _ _).alloc (Nat.le_refl _) _⟩
  rw [if_neg k3]
  by_cases k4 : o.kind = 4
  · rw [if_pos k4]; exact fits4 o w k4
  rw [if_neg k4]
  obtain ⟨kd, ⟨c, k⟩, th, p, n, d, g, z⟩ := o
  dsimp only at k1 k2 k3 k4
  have e1 : (kd == 1) = false := beq_eq_false_iff_ne.2 k1
  have e2 : (kd == 2) = false := beq_eq_false_iff_ne.2 k2
  have e3 : (kd == 3) = false := beq_eq_false_iff_ne.2 k3
  have e4 : (kd == 4) = false := beq_eq_false_iff_ne.2 k4
  clear k1 k2 k3 k4
  unfold Ob.v
  go_enter Tryz.func141, Tryz.ntmps141
  go_wp2_with fail
  go_ret
  exact ⟨rfl, (Below.refl _ _).alloc (Nat.le_refl _) _⟩
end Go.Proofs.YtkbboddibgfjbaaGreatDoor
/- Contracts: whether an operation may be, the program's. -/
namespace Go.Proofs.YtkbboddibgfjbaaGreatDoor
open Go.RowKit Go.Wire Go.Stamp Go.Opn
theorem guardOp : Tryz.prog.eqGuardType Tryz.prog.depth 58 = false := by kernel_rfl
theorem neq_op {o : Oper} {a : Act} {x y : Operand} {t : TypeId} (ho : o.op = .binOp .neq 58 x y t) (p q : Ob) (hx : a.eval x = .agg p.cs) (hy : a.eval y = .agg q.cs) (w : World) :
    (execOp a.eval o).run Tryz.prog w = .ok (.value (.bool (!p.eqb q))) w := by
  unfold execOp
  rw [ho]
  simp only [hx, hy, Sem.run_bind, run_eqGuard_agg w .neq 58 x y p.cs q.cs guardOp, Result.andThen_ok, run_neq_struct, eq_op]
  rfl
theorem eql_op {o : Oper} {a : Act} {x y : Operand} {t : TypeId} (ho : o.op = .binOp .eql 58 x y t) (p q : Ob) (hx : a.eval x = .agg p.cs) (hy : a.eval y = .agg q.cs) (w : World) :
    (execOp a.eval o).run Tryz.prog w = .ok (.value (.bool (p.eqb q))) w := by
  unfold execOp
  rw [ho]
  simp only [hx, hy, Sem.run_bind, run_eqGuard_agg w .eql 58 x y p.cs q.cs guardOp, Result.andThen_ok, run_eql_struct, eq_op]
  rfl
set_option maxHeartbeats 1000000 in
theorem checkOp_any (o : Ob) (w : World) :
    Calls Tryz.prog 101 #[o.v] w fun e w' => e = .returned (.int .i64 o.chk) ∧ Below w.heap.size w w' := by
  have HC : Hid (∀ w, Calls Tryz.prog 139 #[o.tm.v] w fun e w' => e = .returned (.int .i64 o.tm.chk) ∧ Below w.heap.size w w') := fun w => check_any o.tm w
  have HM : Hid (∀ w, Calls Tryz.prog 140 #[.int .u64 o.thing] w fun e w' => e = .returned (.bool (made o.thing)) ∧ Below w.heap.size w w') := fun w => (made_any o.thing w).mono fun e w' ⟨h, k⟩ => ⟨h, by rw [k]; exact Below.refl _ _⟩
  have HF : Hid (∀ w, Calls Tryz.prog 141 #[o.v] w fun e w' => e = .returned (.bool o.fits) ∧ Below w.heap.size w w') := fun w => fits_any o w
  have HO : Hid (∀ w, Calls Tryz.prog 142 #[o.v] w fun e w' => e = .returned o.own.v ∧ Below w.heap.size w w') := fun w => own_any o w
  unfold Tm.v at HC
  unfold Ob.v at HF HO ⊢
  by_cases hok : o.tm.Ok
  · rw [Tm.chk_ok hok] at HC
    have hchk : o.chk = if (made o.thing && o.fits && o.eqb o.own) = true then 0 else 50 := by unfold Ob.chk; rw [if_pos hok]; rfl
    rw [hchk]
    clear hchk hok
    generalize o.own = O at HO
    cases hm : made o.thing
    · rw [hm] at HM
      rw [Bool.false_and, Bool.false_and, if_neg (by decide)]
      clear hm
      generalize o.fits = F at HF
      obtain ⟨kd, ⟨c, k⟩, th, p, n, d, g, z⟩ := o
      dsimp only at HC HM HF HO ⊢
      go_enter Tryz.func101, Tryz.ntmps101
      go_wp2_with (go_at_call 139; refine (HC.out _).mono ?_; rintro e w1 ⟨rfl, k1⟩)
      have HW : Hid (w1.heap[w.heap.size]? = some (.cells (Ob.mk kd ⟨c, k⟩ th p n d g z).cs 58 (0, 0)) ∧ Below w.heap.size w w1) := ⟨kept_block (heap_alloc_new _ _) k1, below_alloc_call k1⟩
      clear k1
      have c3 := cell_regrown (cells9 HW.out.1).2.2.2.1
      refine QuietCalls.region (by kernel_rfl) (by kernel_rfl) ?_
      first | go_big_quiet_step (fail) | quiet_step (fail)
      first | go_big_quiet_step (fail) | quiet_step (fail)
      refine QuietCalls.call1 rfl rfl Tryz.call140 (fun w _ => HM.out w) rfl ?_; simp only [Act.put, List.setIfInBounds_toArray, List.set_cons_succ, List.set_cons_zero]
      first | go_big_quiet_step (fail) | quiet_step (fail)
      first | go_big_quiet_step (fail) | quiet_step (fail)
      first | go_big_quiet_step (fail) | quiet_step (fail)
      first | go_big_quiet_step (fail) | quiet_step (fail)
      first | go_big_quiet_step (fail) | quiet_step (fail)
      first | go_big_quiet_step (fail) | quiet_step (fail)
      first | go_big_quiet_step (fail) | quiet_step (fail)
      first | go_big_quiet_step (fail) | quiet_step (fail)
      first | go_big_quiet_step (fail) | quiet_step (fail)
      first | go_big_quiet_step (fail) | quiet_step (fail)
      first | go_big_quiet_step (fail) | quiet_step (fail)
      first | go_big_quiet_step (fail) | quiet_step (fail)
      refine wpQuiet_nil ?_
      intro w2 k2
      go_wp2_with fail
      go_ret
      exact ⟨rfl, HW.out.2.trans (k2.mono HW.out.2.size)⟩
    · rw [hm] at HM
      rw [Bool.true_and]
      clear hm
      cases hf : o.fits
      · rw [hf] at HF
        rw [Bool.false_and, if_neg (by decide)]
        clear hf
        obtain ⟨kd, ⟨c, k⟩, th, p, n, d, g, z⟩ := o
        dsimp only at HC HM HF HO ⊢
        go_enter Tryz.func101, Tryz.ntmps101
        go_wp2_with (go_at_call 139; refine (HC.out _).mono ?_; rintro e w1 ⟨rfl, k1⟩)
        have HW : Hid (w1.heap[w.heap.size]? = some (.cells (Ob.mk kd ⟨c, k⟩ th p n d g z).cs 58 (0, 0)) ∧ Below w.heap.size w w1) := ⟨kept_block (heap_alloc_new _ _) k1, below_alloc_call k1⟩
        clear k1
        have c3 := cell_regrown (cells9 HW.out.1).2.2.2.1
        refine QuietCalls.region (by kernel_rfl) (by kernel_rfl) ?_
        first | go_big_quiet_step (fail) | quiet_step (fail)
        first | go_big_quiet_step (fail) | quiet_step (fail)
        refine QuietCalls.call1 rfl rfl Tryz.call140 (fun w _ => HM.out w) rfl ?_; simp only [Act.put, List.setIfInBounds_toArray, List.set_cons_succ, List.set_cons_zero]
        first | go_big_quiet_step (fail) | quiet_step (fail)
        first | go_big_quiet_step (fail) | quiet_step (fail)
        refine QuietCalls.load rfl 58 _ rfl _ rfl _ _ _ _ HW.out.1 Tryz.underlying58 rfl infoOp ?_; simp only [Act.put, List.setIfInBounds_toArray, List.set_cons_succ, List.set_cons_zero]
        refine QuietCalls.call1 rfl rfl Tryz.call141 (fun w _ => HF.out w) rfl ?_; simp only [Act.put, List.setIfInBounds_toArray, List.set_cons_succ, List.set_cons_zero]
        first | go_big_quiet_step (fail) | quiet_step (fail)
        first | go_big_quiet_step (fail) | quiet_step (fail)
        first | go_big_quiet_step (fail) | quiet_step (fail)
        first | go_big_quiet_step (fail) | quiet_step (fail)
        first | go_big_quiet_step (fail) | quiet_step (fail)
        first | go_big_quiet_step (fail) | quiet_step (fail)
        first | go_big_quiet_step (fail) | quiet_step (fail)
        first | go_big_quiet_step (fail) | quiet_step (fail)
        refine wpQuiet_nil ?_
        intro w2 k2
        go_wp2_with fail
        go_ret
        exact ⟨rfl, HW.out.2.trans (k2.mono HW.out.2.size)⟩
      · rw [hf] at HF
        rw [Bool.true_and]
        clear hf
        cases he : o.eqb O
        · rw [if_neg (by decide)]
          obtain ⟨kd, ⟨c, k⟩, th, p, n, d, g, z⟩ := o
          dsimp only at HC HM HF HO ⊢
          go_enter Tryz.func101, Tryz.ntmps101
          go_wp2_with (go_at_call 139; refine (HC.out _).mono ?_; rintro e w1 ⟨rfl, k1⟩)
          have HW : Hid (w1.heap[w.heap.size]? = some (.cells (Ob.mk kd ⟨c, k⟩ th p n d g z).cs 58 (0, 0)) ∧ Below w.heap.size w w1) := ⟨kept_block (heap_alloc_new _ _) k1, below_alloc_call k1⟩
          clear k1
          have c3 := cell_regrown (cells9 HW.out.1).2.2.2.1
          refine QuietCalls.region (by kernel_rfl) (by kernel_rfl) ?_
          first | go_big_quiet_step (fail) | quiet_step (fail)
          first | go_big_quiet_step (fail) | quiet_step (fail)
          refine QuietCalls.call1 rfl rfl Tryz.call140 (fun w _ => HM.out w) rfl ?_; simp only [Act.put, List.setIfInBounds_toArray, List.set_cons_succ, List.set_cons_zero]
          first | go_big_quiet_step (fail) | quiet_step (fail)
          first | go_big_quiet_step (fail) | quiet_step (fail)
          refine QuietCalls.load rfl 58 _ rfl _ rfl _ _ _ _ HW.out.1 Tryz.underlying58 rfl infoOp ?_; simp only [Act.put, List.setIfInBounds_toArray, List.set_cons_succ, List.set_cons_zero]
          refine QuietCalls.call1 rfl rfl Tryz.call141 (fun w _ => HF.out w) rfl ?_; simp only [Act.put, List.setIfInBounds_toArray, List.set_cons_succ, List.set_cons_zero]
          first | go_big_quiet_step (fail) | quiet_step (fail)
          first | go_big_quiet_step (fail) | quiet_step (fail)
          first | go_big_quiet_step (fail) | quiet_step (fail)
          refine QuietCalls.load rfl 58 _ rfl _ rfl _ _ _ _ HW.out.1 Tryz.underlying58 rfl infoOp ?_; simp only [Act.put, List.setIfInBounds_toArray, List.set_cons_succ, List.set_cons_zero]
          refine QuietCalls.load rfl 58 _ rfl _ rfl _ _ _ _ HW.out.1 Tryz.underlying58 rfl infoOp ?_; simp only [Act.put, List.setIfInBounds_toArray, List.set_cons_succ, List.set_cons_zero]
          refine QuietCalls.call1 rfl rfl Tryz.call142 (fun w _ => HO.out w) rfl ?_; simp only [Act.put, List.setIfInBounds_toArray, List.set_cons_succ, List.set_cons_zero]
          refine QuietCalls.hand rfl (.bool true) (fun w => (neq_op rfl (Ob.mk kd ⟨c, k⟩ th p n d g z) O rfl rfl w).trans (by rw [he]; rfl)) ?_; simp only [Act.put, List.setIfInBounds_toArray, List.set_cons_succ, List.set_cons_zero]
          first | go_big_quiet_step (fail) | quiet_step (fail)
          refine wpQuiet_nil ?_
          intro w2 k2
          go_wp2_with fail
          go_ret
          exact ⟨rfl, HW.out.2.trans (k2.mono HW.out.2.size)⟩
        · rw [if_pos rfl]
          obtain ⟨kd, ⟨c, k⟩, th, p, n, d, g, z⟩ := o
          dsimp only at HC HM HF HO ⊢
          go_enter Tryz.func101, Tryz.ntmps101
          go_wp2_with (go_at_call 139; refine (HC.out _).mono ?_; rintro e w1 ⟨rfl, k1⟩)
          have HW : Hid (w1.heap[w.heap.size]? = some (.cells (Ob.mk kd ⟨c, k⟩ th p n d g z).cs 58 (0, 0)) ∧ Below w.heap.size w w1) := ⟨kept_block (heap_alloc_new _ _) k1, below_alloc_call k1⟩
          clear k1
          have c3 := cell_regrown (cells9 HW.out.1).2.2.2.1
          refine QuietCalls.region (by kernel_rfl) (by kernel_rfl) ?_
          first | go_big_quiet_step (fail) | quiet_step (fail)
          first | go_big_quiet_step (fail) | quiet_step (fail)
          refine QuietCalls.call1 rfl rfl Tryz.call140 (fun w _ => HM.out w) rfl ?_; simp only [Act.put, List.setIfInBounds_toArray, List.set_cons_succ, List.set_cons_zero]
          first | go_big_quiet_step (fail) | quiet_step (fail)
          first | go_big_quiet_step (fail) | quiet_step (fail)
          refine QuietCalls.load rfl 58 _ rfl _ rfl _ _ _ _ HW.out.1 Tryz.underlying58 rfl infoOp ?_; simp only [Act.put, List.setIfInBounds_toArray, List.set_cons_succ, List.set_cons_zero]
          refine QuietCalls.call1 rfl rfl Tryz.call141 (fun w _ => HF.out w) rfl ?_; simp only [Act.put, List.setIfInBounds_toArray, List.set_cons_succ, List.set_cons_zero]
          first | go_big_quiet_step (fail) | quiet_step (fail)
          first | go_big_quiet_step (fail) | quiet_step (fail)
          first | go_big_quiet_step (fail) | quiet_step (fail)
          refine QuietCalls.load rfl 58 _ rfl _ rfl _ _ _ _ HW.out.1 Tryz.underlying58 rfl infoOp ?_; simp only [Act.put, List.setIfInBounds_toArray, List.set_cons_succ, List.set_cons_zero]
          refine QuietCalls.load rfl 58 _ rfl _ rfl _ _ _ _ HW.out.1 Tryz.underlying58 rfl infoOp ?_; simp only [Act.put, List.setIfInBounds_toArray, List.set_cons_succ, List.set_cons_zero]
          refine QuietCalls.call1 rfl rfl Tryz.call142 (fun w _ => HO.out w) rfl ?_; simp only [Act.put, List.setIfInBounds_toArray, List.set_cons_succ, List.set_cons_zero]
          refine QuietCalls.hand rfl (.bool false) (fun w => (neq_op rfl (Ob.mk kd ⟨c, k⟩ th p n d g z) O rfl rfl w).trans (by rw [he]; rfl)) ?_; simp only [Act.put, List.setIfInBounds_toArray, List.set_cons_succ, List.set_cons_zero]
          first | go_big_quiet_step (fail) | quiet_step (fail)
          refine wpQuiet_nil ?_
          intro w2 k2
          go_wp2_with fail
          go_ret
          exact ⟨rfl, HW.out.2.trans (k2.mono HW.out.2.size)⟩
  · rw [Tm.chk_no hok] at HC
    rw [Ob.chk_no hok]
    clear hok
    obtain ⟨kd, ⟨c, k⟩, th, p, n, d, g, z⟩ := o
    dsimp only at HC HM HF HO ⊢
    go_enter Tryz.func101, Tryz.ntmps101
    go_wp2_with (go_at_call 139; refine (HC.out _).mono ?_; rintro e w1 ⟨rfl, k1⟩)
    go_ret
    exact ⟨rfl, below_alloc_call k1⟩
end Go.Proofs.YtkbboddibgfjbaaGreatDoor
/- Contracts: an operation put, its bytes, the program's. -/
namespace Go.Opn
open Go.RowKit Go.Wire Go.Stamp
/-- An operation in block g is being put into the writer v, which has l. -/
structure PutAt (T S B g : Nat) (v : Value) (o : Ob) (w0 : World) (l : List UInt8) (w : World) : Prop where
  hw : WAt T B v l w
  ho : w.heap[g]? = some (.cells o.cs S (0, 0))
  hB : B ≤ w.heap.size
  wrote : Wrote B v w0 w
theorem PutAt.step {T S B g : Nat} {v : Value} {o : Ob} {w0 w w' : World} {l l' : List UInt8} (i : PutAt T S B g v o w0 l w) (hv : v ≠ .pointer (some ⟨g, 0, none⟩)) (hS : S ≠ 5) (h : WAt T B v l' w') (k : Wrote B v w w') : PutAt T S B g v o w0 l' w' :=
  ⟨h, k.row hv hS i.ho, Nat.le_trans i.hB k.below.size, i.wrote.trans k⟩
theorem pad_full (x : ByteArray) (h : x.size = 32) : pad x.data.toList = x.data.toList := by
  rw [size_list] at h
  unfold pad
  rw [h, List.take_of_length_le (by omega)]
  simp
end Go.Opn
namespace Go.Proofs.YtkbboddibgfjbaaGreatDoor
open Go.RowKit Go.Wire Go.Stamp Go.Opn
set_option maxRecDepth 100000 in
set_option maxHeartbeats 1000000 in
theorem putOp_any (B : Nat) (v : Value) (l : List UInt8) (o : Ob) (w : World) (h : WAt 230 B v l w) (hl : l.length + 200 ≤ 140737488355328) (hB : B ≤ w.heap.size) (hok : o.tm.Ok) (hg : o.Good) :
    Calls Tryz.prog 105 #[v, o.v] w fun e w' => e = .returned (.tuple #[]) ∧ WAt 230 B v (l ++ o.bytes) w' ∧ Wrote B v w w' := by
  have i := Ob.good_is hg
  have I : Hid (PutAt 230 58 B w.heap.size v o w l (w.alloc (.cells o.cs 58))) :=
    ⟨h.below ((Below.refl _ _).alloc (Nat.le_refl _) _), heap_alloc_new _ _, by simp; omega, Wrote.of ((Below.refl _ _).alloc (Nat.le_refl _) _) hB⟩
  have HV : v ≠ .pointer (some ⟨w.heap.size, 0, none⟩) := wat_ne h (Nat.le_refl _)
  have HN1 : Hid (∀ (n : Nat) (L : List UInt8) (w1 : World), PutAt 230 58 B w.heap.size v o w L w1 → L.length ≤ l.length + 100 → n < 18446744073709551616 → Calls Tryz.prog 103 #[v, .int .u64 n, .int .i64 1] w1 fun e w' => e = .returned (.tuple #[]) ∧ PutAt 230 58 B w.heap.size v o w (L ++ num 2 n) w') := fun n L w1 j hL hn =>
    (wnumber_sp B v L n 1 w1 j.hw (.inr (by omega)) j.hB hn).mono fun e w' ⟨a, b, c⟩ => ⟨a, j.step HV (by decide) b c⟩
  have HN8 : Hid (∀ (n : Nat) (L : List UInt8) (w1 : World), PutAt 230 58 B w.heap.size v o w L w1 → L.length ≤ l.length + 100 → n < 18446744073709551616 → Calls Tryz.prog 103 #[v, .int .u64 n, .int .i64 8] w1 fun e w' => e = .returned (.tuple #[]) ∧ PutAt 230 58 B w.heap.size v o w (L ++ num 16 n) w') := fun n L w1 j hL hn =>
    (wnumber_sp B v L n 8 w1 j.hw (.inr (by omega)) j.hB hn).mono fun e w' ⟨a, b, c⟩ => ⟨a, j.step HV (by decide) b c⟩
  have HP : Hid (∀ (c k : Nat) (L : List UInt8) (w1 : World), PutAt 230 58 B w.heap.size v o w L w1 → L.length ≤ l.length + 100 → c < 18446744073709551616 → k < 256 → Calls Tryz.prog 145 #[v, .agg #[.int .u64 c, .int .i64 k]] w1 fun e w' => e = .returned (.tuple #[]) ∧ PutAt 230 58 B w.heap.size v o w (L ++ num 16 c ++ num 2 k) w') := fun c k L w1 j hL hc hk =>
    (put_any B v L c k w1 j.hw (.inr (by omega)) j.hB hc hk).mono fun e w' ⟨a, b, d⟩ => ⟨a, j.step HV (by decide) b d⟩
  have HBo : Hid (∀ (x : Bool) (L : List UInt8) (w1 : World), PutAt 230 58 B w.heap.size v o w L w1 → L.length ≤ l.length + 100 → Calls Tryz.prog 146 #[v, .bool x] w1 fun e w' => e = .returned (.tuple #[]) ∧ PutAt 230 58 B w.heap.size v o w (L ++ [letter x]) w') := fun x L w1 j hL =>
    (wbool_sp B v L x w1 j.hw (.inr (by omega)) j.hB).mono fun e w' ⟨a, b, c⟩ => ⟨a, j.step HV (by decide) b c⟩
  have HTx : Hid (∀ (x : ByteArray) (L : List UInt8) (w1 : World), PutAt 230 58 B w.heap.size v o w L w1 → L.length ≤ l.length + 100 → x.size ≤ 32 → Calls Tryz.prog 147 #[v, .string x] w1 fun e w' => e = .returned (.tuple #[]) ∧ PutAt 230 58 B w.heap.size v o w (L ++ (num 8 x.size ++ x.data.toList)) w') := fun x L w1 j hL hx =>
    (wtext_sp B v L x w1 j.hw (.inr (by omega)) j.hB (by unfold maxLen; omega)).mono fun e w' ⟨a, b, c⟩ => ⟨a, j.step HV (by decide) b c⟩
  have HHa : Hid (∀ (x : ByteArray) (L : List UInt8) (w1 : World), PutAt 230 58 B w.heap.size v o w L w1 → L.length ≤ l.length + 100 → x.size = 32 → Calls Tryz.prog 104 #[v, .string x] w1 fun e w' => e = .returned (.tuple #[]) ∧ PutAt 230 58 B w.heap.size v o w (L ++ x.data.toList) w') := fun x L w1 j hL hx =>
    (whash_sp B v L x w1 j.hw (.inr (by omega)) j.hB).mono fun e w' ⟨a, b, c⟩ => ⟨a, j.step HV (by decide) (by rw [pad_full x hx] at b; exact b) c⟩
  have HCo : Hid (∀ (n : Nat) (L : List UInt8) (w1 : World), PutAt 230 58 B w.heap.size v o w L w1 → L.length ≤ l.length + 100 → n ≤ 8192 → Calls Tryz.prog 148 #[v, .int .i64 n] w1 fun e w' => e = .returned (.tuple #[]) ∧ PutAt 230 58 B w.heap.size v o w (L ++ num 8 n) w') := fun n L w1 j hL hn =>
    (wcount_sp B v L n w1 j.hw (.inr (by omega)) j.hB (by omega)).mono fun e w' ⟨a, b, c⟩ => ⟨a, j.step HV (by decide) (by rw [show (max (n : Int) 0).toNat = n by omega] at b; exact b) c⟩
  obtain ⟨i1, i2, i3, i4, i5, i6⟩ := i
  clear h hg
  unfold Tm.Ok at hok
  obtain ⟨kd, ⟨c, k⟩, th, p, n, d, g, z⟩ := o
  dsimp only at hok i1 i2 i3 i4 i5 i6
  obtain ⟨c, rfl⟩ : ∃ c' : Nat, c = c' := ⟨c.toNat, by omega⟩
  obtain ⟨k, rfl⟩ : ∃ k' : Nat, k = k' := ⟨k.toNat, by omega⟩
  obtain ⟨th, rfl⟩ : ∃ t' : Nat, th = t' := ⟨th.toNat, by omega⟩
  obtain ⟨p, rfl⟩ : ∃ t' : Nat, p = t' := ⟨p.toNat, by omega⟩
  obtain ⟨z, rfl⟩ : ∃ t' : Nat, z = t' := ⟨z.toNat, by omega⟩
  have hz : z ≤ 8192 := by omega
  have hp : p < 18446744073709551616 := by omega
  have ht : th < 18446744073709551616 := by omega
  have hc : c < 18446744073709551616 := by omega
  have hk : k < 256 := by omega
  clear hok i1 i2 i4 hB
  unfold Ob.v
  rcases i6 with ⟨rfl, hd, hz0⟩ | ⟨rfl, hd, hz0, hdir⟩ | ⟨rfl, hp0, hn0, hd, hz0, hdir⟩ | ⟨rfl, hp0, hn0, hdir, hdg⟩
  · have eb : (Ob.mk 1 ⟨c, k⟩ th p n d g z).bytes = num 2 1 ++ (num 16 c ++ num 2 k) ++ num 16 th ++ [letter d] ++ (num 16 p ++ (num 8 n.size ++ n.data.toList)) := by
      unfold Ob.bytes Ob.head Ob.spot; rw [if_pos rfl]; rfl
    have el : l ++ (num 2 1 ++ (num 16 c ++ num 2 k) ++ num 16 th ++ [letter d] ++ (num 16 p ++ (num 8 n.size ++ n.data.toList))) = l ++ num 2 1 ++ num 16 c ++ num 2 k ++ num 16 th ++ [letter d] ++ num 16 p ++ (num 8 n.size ++ n.data.toList) := by simp only [List.append_assoc]
    rw [eb, el]
    clear eb el hd hz0
    go_enter Tryz.func105, Tryz.ntmps105
    go_wp2_with (first
      | (go_at_call_of 103 (Value.int IntKind.i64 1); refine (HN1.out 1 _ _ I.out (by omega) (by decide)).mono ?_; rintro e w1 ⟨rfl, i⟩; replace I : Hid _ := i; clear i; obtain ⟨c0, c1, c2, c3, c4, c5, c6, c7, c8⟩ := cells9 I.out.ho)
      | (go_at_call 145; refine (HP.out c k _ _ I.out (by simp only [List.length_append, num_length]; omega) hc hk).mono ?_; rintro e w1 ⟨rfl, i⟩; replace I : Hid _ := i; clear i c0 c1 c2 c3 c4 c5 c6 c7 c8; obtain ⟨c0, c1, c2, c3, c4, c5, c6, c7, c8⟩ := cells9 I.out.ho)
      | (go_at_call_of 103 (Value.int IntKind.u64 (th : Int)); refine (HN8.out th _ _ I.out (by simp only [List.length_append, num_length]; omega) ht).mono ?_; rintro e w1 ⟨rfl, i⟩; replace I : Hid _ := i; clear i c0 c1 c2 c3 c4 c5 c6 c7 c8; obtain ⟨c0, c1, c2, c3, c4, c5, c6, c7, c8⟩ := cells9 I.out.ho)
      | (go_at_call 146; refine (HBo.out d _ _ I.out (by simp only [List.length_append, num_length]; omega)).mono ?_; rintro e w1 ⟨rfl, i⟩; replace I : Hid _ := i; clear i c0 c1 c2 c3 c4 c5 c6 c7 c8; obtain ⟨c0, c1, c2, c3, c4, c5, c6, c7, c8⟩ := cells9 I.out.ho)
      | (go_at_call_of 103 (Value.int IntKind.u64 (p : Int)); refine (HN8.out p _ _ I.out (by simp only [List.length_append, num_length, List.length_singleton]; omega) hp).mono ?_; rintro e w1 ⟨rfl, i⟩; replace I : Hid _ := i; clear i c0 c1 c2 c3 c4 c5 c6 c7 c8; obtain ⟨c0, c1, c2, c3, c4, c5, c6, c7, c8⟩ := cells9 I.out.ho)
      | (go_at_call 147; refine (HTx.out n _ _ I.out (by simp only [List.length_append, num_length, List.length_singleton]; omega) i3).mono ?_; rintro e w1 ⟨rfl, i⟩; replace I : Hid _ := i; clear i c0 c1 c2 c3 c4 c5 c6 c7 c8; obtain ⟨c0, c1, c2, c3, c4, c5, c6, c7, c8⟩ := cells9 I.out.ho))
    go_end0
    exact ⟨rfl, I.out.hw, I.out.wrote⟩
  · have eb : (Ob.mk 2 ⟨c, k⟩ th p n d g z).bytes = num 2 2 ++ (num 16 c ++ num 2 k) ++ num 16 th ++ (num 16 p ++ (num 8 n.size ++ n.data.toList)) := by
      unfold Ob.bytes Ob.head Ob.spot; rw [if_neg (show ¬ ((2 : Int) = 1) by decide), if_pos rfl]; rfl
    have el : l ++ (num 2 2 ++ (num 16 c ++ num 2 k) ++ num 16 th ++ (num 16 p ++ (num 8 n.size ++ n.data.toList))) = l ++ num 2 2 ++ num 16 c ++ num 2 k ++ num 16 th ++ num 16 p ++ (num 8 n.size ++ n.data.toList) := by simp only [List.append_assoc]
    rw [eb, el]
    clear eb el hd hz0 hdir
    go_enter Tryz.func105, Tryz.ntmps105
    go_wp2_with (first
      | (go_at_call_of 103 (Value.int IntKind.i64 1); refine (HN1.out 2 _ _ I.out (by omega) (by decide)).mono ?_; rintro e w1 ⟨rfl, i⟩; replace I : Hid _ := i; clear i; obtain ⟨c0, c1, c2, c3, c4, c5, c6, c7, c8⟩ := cells9 I.out.ho)
      | (go_at_call 145; refine (HP.out c k _ _ I.out (by simp only [List.length_append, num_length]; omega) hc hk).mono ?_; rintro e w1 ⟨rfl, i⟩; replace I : Hid _ := i; clear i c0 c1 c2 c3 c4 c5 c6 c7 c8; obtain ⟨c0, c1, c2, c3, c4, c5, c6, c7, c8⟩ := cells9 I.out.ho)
      | (go_at_call_of 103 (Value.int IntKind.u64 (th : Int)); refine (HN8.out th _ _ I.out (by simp only [List.length_append, num_length]; omega) ht).mono ?_; rintro e w1 ⟨rfl, i⟩; replace I : Hid _ := i; clear i c0 c1 c2 c3 c4 c5 c6 c7 c8; obtain ⟨c0, c1, c2, c3, c4, c5, c6, c7, c8⟩ := cells9 I.out.ho)
      | (go_at_call_of 103 (Value.int IntKind.u64 (p : Int)); refine (HN8.out p _ _ I.out (by simp only [List.length_append, num_length]; omega) hp).mono ?_; rintro e w1 ⟨rfl, i⟩; replace I : Hid _ := i; clear i c0 c1 c2 c3 c4 c5 c6 c7 c8; obtain ⟨c0, c1, c2, c3, c4, c5, c6, c7, c8⟩ := cells9 I.out.ho)
      | (go_at_call 147; refine (HTx.out n _ _ I.out (by simp only [List.length_append, num_length]; omega) i3).mono ?_; rintro e w1 ⟨rfl, i⟩; replace I : Hid _ := i; clear i c0 c1 c2 c3 c4 c5 c6 c7 c8; obtain ⟨c0, c1, c2, c3, c4, c5, c6, c7, c8⟩ := cells9 I.out.ho))
    go_end0
    exact ⟨rfl, I.out.hw, I.out.wrote⟩
  · have eb : (Ob.mk 3 ⟨c, k⟩ th p n d g z).bytes = num 2 3 ++ (num 16 c ++ num 2 k) ++ num 16 th := by
      unfold Ob.bytes Ob.head Ob.spot; rw [if_neg (show ¬ ((3 : Int) = 1) by decide), if_neg (show ¬ ((3 : Int) = 2) by decide), if_neg (show ¬ ((3 : Int) = 4) by decide)]; rfl
    have el : l ++ (num 2 3 ++ (num 16 c ++ num 2 k) ++ num 16 th) = l ++ num 2 3 ++ num 16 c ++ num 2 k ++ num 16 th := by simp only [List.append_assoc]
    rw [eb, el]
    clear eb el hd hz0 hdir hn0 hp0
    go_enter Tryz.func105, Tryz.ntmps105
    go_wp2_with (first
      | (go_at_call_of 103 (Value.int IntKind.i64 1); refine (HN1.out 3 _ _ I.out (by omega) (by decide)).mono ?_; rintro e w1 ⟨rfl, i⟩; replace I : Hid _ := i; clear i; obtain ⟨c0, c1, c2, c3, c4, c5, c6, c7, c8⟩ := cells9 I.out.ho)
      | (go_at_call 145; refine (HP.out c k _ _ I.out (by simp only [List.length_append, num_length]; omega) hc hk).mono ?_; rintro e w1 ⟨rfl, i⟩; replace I : Hid _ := i; clear i c0 c1 c2 c3 c4 c5 c6 c7 c8; obtain ⟨c0, c1, c2, c3, c4, c5, c6, c7, c8⟩ := cells9 I.out.ho)
      | (go_at_call_of 103 (Value.int IntKind.u64 (th : Int)); refine (HN8.out th _ _ I.out (by simp only [List.length_append, num_length]; omega) ht).mono ?_; rintro e w1 ⟨rfl, i⟩; replace I : Hid _ := i; clear i c0 c1 c2 c3 c4 c5 c6 c7 c8; obtain ⟨c0, c1, c2, c3, c4, c5, c6, c7, c8⟩ := cells9 I.out.ho))
    go_end0
    exact ⟨rfl, I.out.hw, I.out.wrote⟩
  · have eb : (Ob.mk 4 ⟨c, k⟩ th p n d g z).bytes = num 2 4 ++ (num 16 c ++ num 2 k) ++ num 16 th ++ g.data.toList ++ num 8 z := by
      unfold Ob.bytes Ob.head Ob.spot; rw [if_neg (show ¬ ((4 : Int) = 1) by decide), if_neg (show ¬ ((4 : Int) = 2) by decide), if_pos rfl]; rfl
    have el : l ++ (num 2 4 ++ (num 16 c ++ num 2 k) ++ num 16 th ++ g.data.toList ++ num 8 z) = l ++ num 2 4 ++ num 16 c ++ num 2 k ++ num 16 th ++ g.data.toList ++ num 8 z := by simp only [List.append_assoc]
    rw [eb, el]
    clear eb el hdir hn0 hp0
    go_enter Tryz.func105, Tryz.ntmps105
    go_wp2_with (first
      | (go_at_call_of 103 (Value.int IntKind.i64 1); refine (HN1.out 4 _ _ I.out (by omega) (by decide)).mono ?_; rintro e w1 ⟨rfl, i⟩; replace I : Hid _ := i; clear i; obtain ⟨c0, c1, c2, c3, c4, c5, c6, c7, c8⟩ := cells9 I.out.ho)
      | (go_at_call 145; refine (HP.out c k _ _ I.out (by simp only [List.length_append, num_length]; omega) hc hk).mono ?_; rintro e w1 ⟨rfl, i⟩; replace I : Hid _ := i; clear i c0 c1 c2 c3 c4 c5 c6 c7 c8; obtain ⟨c0, c1, c2, c3, c4, c5, c6, c7, c8⟩ := cells9 I.out.ho)
      | (go_at_call_of 103 (Value.int IntKind.u64 (th : Int)); refine (HN8.out th _ _ I.out (by simp only [List.length_append, num_length]; omega) ht).mono ?_; rintro e w1 ⟨rfl, i⟩; replace I : Hid _ := i; clear i c0 c1 c2 c3 c4 c5 c6 c7 c8; obtain ⟨c0, c1, c2, c3, c4, c5, c6, c7, c8⟩ := cells9 I.out.ho)
      | (go_at_call 104; refine (HHa.out g _ _ I.out (by simp only [List.length_append, num_length]; omega) hdg).mono ?_; rintro e w1 ⟨rfl, i⟩; replace I : Hid _ := i; clear i c0 c1 c2 c3 c4 c5 c6 c7 c8; obtain ⟨c0, c1, c2, c3, c4, c5, c6, c7, c8⟩ := cells9 I.out.ho)
      | (go_at_call 148; refine (HCo.out z _ _ I.out (by simp only [List.length_append, num_length, ← size_list]; omega) hz).mono ?_; rintro e w1 ⟨rfl, i⟩; replace I : Hid _ := i; clear i c0 c1 c2 c3 c4 c5 c6 c7 c8; obtain ⟨c0, c1, c2, c3, c4, c5, c6, c7, c8⟩ := cells9 I.out.ho))
    go_end0
    exact ⟨rfl, I.out.hw, I.out.wrote⟩
end Go.Proofs.YtkbboddibgfjbaaGreatDoor
/- Contracts: an operation's bytes, the program's. -/
namespace Go.Proofs.YtkbboddibgfjbaaGreatDoor
open Go.RowKit Go.Wire Go.Stamp Go.Opn
end Go.Proofs.YtkbboddibgfjbaaGreatDoor
