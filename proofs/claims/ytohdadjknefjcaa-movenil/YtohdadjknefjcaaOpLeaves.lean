/- Contracts of the operations' small functions. -/
import Derived.Test.YtohdadjknefjcaaWirePure
import Derived.Test.YtohdadjknefjcaaStampAll
import Derived.Deep.MidRow
import Derived.Deep.Cut
import Derived.Deep.CutBlock
import Derived.Deep.DeepCutAuto
namespace Go.Opn
open Go.RowKit Go.Wire Go.Stamp
/-- An operation's cells. -/
abbrev Ob.cs (o : Ob) : Array Value := #[.int .i64 o.kind, .int .u64 o.tm.c, .int .i64 o.tm.k, .int .u64 o.thing, .int .u64 o.par, .string o.name, .bool o.dir, .string o.dg, .int .i64 o.size]
theorem cells9 {w : World} {g : Nat} {o : Ob} {T : TypeId} (h : w.heap[g]? = some (.cells o.cs T (0, 0))) :
    w.cell? ⟨g, 0, none⟩ = some (.int .i64 o.kind) ∧ w.cell? ⟨g, 1, none⟩ = some (.int .u64 o.tm.c) ∧ w.cell? ⟨g, 2, none⟩ = some (.int .i64 o.tm.k) ∧ w.cell? ⟨g, 3, none⟩ = some (.int .u64 o.thing) ∧ w.cell? ⟨g, 4, none⟩ = some (.int .u64 o.par) ∧
    w.cell? ⟨g, 5, none⟩ = some (.string o.name) ∧ w.cell? ⟨g, 6, none⟩ = some (.bool o.dir) ∧ w.cell? ⟨g, 7, none⟩ = some (.string o.dg) ∧ w.cell? ⟨g, 8, none⟩ = some (.int .i64 o.size) :=
  ⟨cell_of_row _ _ _ _ _ _ h, cell_of_row _ _ _ _ _ _ h, cell_of_row _ _ _ _ _ _ h, cell_of_row _ _ _ _ _ _ h, cell_of_row _ _ _ _ _ _ h, cell_of_row _ _ _ _ _ _ h, cell_of_row _ _ _ _ _ _ h, cell_of_row _ _ _ _ _ _ h, cell_of_row _ _ _ _ _ _ h⟩
theorem frozen9 {w : World} {g : Nat} {o : Ob} {T : TypeId} (h : w.heap[g]? = some (.cells o.cs T (0, 0))) (i : Nat) : w.frozen? ⟨g, i, none⟩ = false :=
  frozen_of_row _ _ _ _ _ h
theorem eq_step {P : Program} {w : World} {d : Nat} {xs ys : Array Value} {f : Field} {fs : List Field} {x y : Value} {r q : Bool} (hn : f.name ≠ "_") (hx : (part f.type xs f.offset).run P w = .ok x w) (hy : (part f.type ys f.offset).run P w = .ok y w)
    (he : (Op.equalIn d f.type x y).run P w = .ok r w) (rest : (Op.eqFields d xs ys fs).run P w = .ok q w) : (Op.eqFields d xs ys (f :: fs)).run P w = .ok (r && q) w := by
  simp only [Op.eqFields, if_pos hn, Sem.run_bind, hx, hy, he, Result.andThen_ok, Sem.run_ite, rest]
  cases r
  · simp
  · simp
theorem range_tm {w : World} {g : Nat} {o : Ob} {T : TypeId} (h : w.heap[g]? = some (.cells o.cs T (0, 0))) : w.rangeAt g 1 [.int .u64 o.tm.c, .int .i64 o.tm.k] := by
  intro j v hj
  match j, hj with
  | 0, hj => cases hj; exact (cells9 h).2.1
  | 1, hj => cases hj; exact (cells9 h).2.2.1
end Go.Opn
namespace Go.QuietCalls
open Go.RowKit Go.Sort
/-- A struct that lies in the midst of a block is loaded. -/
theorem loadMid {P : Program} {ops : Array Oper} {W : World} {Q : Act → Prop} {rest : List Oper} {o : Oper} {a : Act} (hgd : Region.wanted o (yielded ops a.tmps) = true) (ty : TypeId) (x : Operand) (ho : o.op = .load ty x)
    (g off : Nat) (hx : a.eval x = .pointer (some ⟨g, off, none⟩)) (cs : List Value) (d : TypeDesc) (hc : ∀ w, Below W.heap.size W w → w.rangeAt g off cs)
    (hu : P.underlying ty = some d) (hd : d.isRow = true) (hi : (P.info? ty).map (·.size) = some cs.length)
    (h : wpQuiet P ops (fun w' => ∃ p : Regrown, w' = grow (redrawn W p.d) p.os) Q rest (a.put o.dst (.agg cs.toArray))) : wpQuiet P ops (fun w' => ∃ p : Regrown, w' = grow (redrawn W p.d) p.os) Q (o :: rest) a := by
  refine wpQuiet_step fun K hK => ?_
  rw [if_pos hgd]
  refine ⟨.agg cs.toArray, fun w hw0 => ?_, hK _ h⟩
  have hw : Below W.heap.size W w := by obtain ⟨p, rfl⟩ := hw0; exact below_regrown _ _ _
  unfold Oper.quietAt execOp
  simp only [ho, hx, Instr.loadAt, Instr.sureAddr, Sem.run_bind, Sem.run_pure, Result.andThen_ok, run_loadVar_mid w g off ty cs d (hc w hw) hu hd hi]
  exact ⟨rfl, rfl⟩
end Go.QuietCalls
namespace Go.Proofs.Ytohdadjknefjcaa
open Go.RowKit Go.Wire Go.Stamp Go.Opn
theorem infoOp : (Try.prog.info? 40).map (·.size) = some 9 := by kernel_rfl
theorem infoROp : (Try.prog.info? 34).map (·.size) = some 9 := by kernel_rfl
theorem eq_stamp (a b : Tm) (w : World) : (Op.equalIn 9999 38 (.agg #[.int .u64 a.c, .int .i64 a.k]) (.agg #[.int .u64 b.c, .int .i64 b.k])).run Try.prog w = .ok (a.c == b.c && (a.k == b.k && true)) w := by
  rw [run_equalIn_agg w 9998 38 _ _ (by unfold Program.fieldsOf; rw [Try.underlying38]) (by kernel_rfl)]
  unfold Program.fieldsOf
  rw [Try.underlying38]
  refine eq_step (x := .int .u64 a.c) (y := .int .u64 b.c) (by decide) (by go_simp) (by go_simp) (run_equalIn_int w _ _ _ _ _ _ Try.underlying30) ?_
  refine eq_step (x := .int .i64 a.k) (y := .int .i64 b.k) (by decide) (by go_simp) (by go_simp) (run_equalIn_int w _ _ _ _ _ _ Try.underlying3) ?_
  rfl
theorem eq_op (a b : Ob) (w : World) : (Op.equalIn 10000 40 (.agg a.cs) (.agg b.cs)).run Try.prog w = .ok (a.eqb b) w := by
  rw [run_equalIn_agg w 9999 40 a.cs b.cs (by unfold Program.fieldsOf; rw [Try.underlying40]) (by kernel_rfl)]
  unfold Program.fieldsOf
  rw [Try.underlying40]
  refine eq_step (x := .int .i64 a.kind) (y := .int .i64 b.kind) (by decide) (by go_simp) (by go_simp) (run_equalIn_int w _ _ _ _ _ _ Try.underlying3) ?_
  refine eq_step (x := .agg #[.int .u64 a.tm.c, .int .i64 a.tm.k]) (y := .agg #[.int .u64 b.tm.c, .int .i64 b.tm.k]) (by decide) (by go_simp) (by go_simp) (eq_stamp a.tm b.tm w) ?_
  refine eq_step (x := .int .u64 a.thing) (y := .int .u64 b.thing) (by decide) (by go_simp) (by go_simp) (run_equalIn_int w _ _ _ _ _ _ Try.underlying30) ?_
  refine eq_step (x := .int .u64 a.par) (y := .int .u64 b.par) (by decide) (by go_simp) (by go_simp) (run_equalIn_int w _ _ _ _ _ _ Try.underlying30) ?_
  refine eq_step (x := .string a.name) (y := .string b.name) (by decide) (by go_simp) (by go_simp) (run_equalIn_string w _ _ _ _ Try.underlying9) ?_
  refine eq_step (x := .bool a.dir) (y := .bool b.dir) (by decide) (by go_simp) (by go_simp) (run_equalIn_bool' w _ _ _ _ Try.underlying4) ?_
  refine eq_step (x := .string a.dg) (y := .string b.dg) (by decide) (by go_simp) (by go_simp) (run_equalIn_string w _ _ _ _ Try.underlying9) ?_
  refine eq_step (x := .int .i64 a.size) (y := .int .i64 b.size) (by decide) (by go_simp) (by go_simp) (run_equalIn_int w _ _ _ _ _ _ Try.underlying3) ?_
  rfl
end Go.Proofs.Ytohdadjknefjcaa
