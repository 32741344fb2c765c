/- Operations of the document's own are compared. -/
import Derived.Test.YtknnamanbeckeaaOpAll
namespace Go.Proofs.Ytknnamanbeckeaa
open Go.RowKit Go.Wire Go.Stamp Go.Opn
theorem eq_rstamp (a b : Tm) (w : World) : (Op.equalIn 9999 32 (.agg #[.int .u64 a.c, .int .i64 a.k]) (.agg #[.int .u64 b.c, .int .i64 b.k])).run Try.prog w = .ok (a.c == b.c && (a.k == b.k && true)) w := by
  rw [run_equalIn_agg w 9998 32 _ _ (by unfold Program.fieldsOf; rw [Try.underlying32]) (by kernel_rfl)]
  unfold Program.fieldsOf
  rw [Try.underlying32]
  refine eq_step (x := .int .u64 a.c) (y := .int .u64 b.c) (by decide) (by go_simp) (by go_simp) (run_equalIn_int w _ _ _ _ _ _ Try.underlying30) ?_
  refine eq_step (x := .int .i64 a.k) (y := .int .i64 b.k) (by decide) (by go_simp) (by go_simp) (run_equalIn_int w _ _ _ _ _ _ Try.underlying3) ?_
  rfl
theorem eq_rop (a b : Ob) (w : World) : (Op.equalIn 10000 34 (.agg a.cs) (.agg b.cs)).run Try.prog w = .ok (a.eqb b) w := by
  rw [run_equalIn_agg w 9999 34 a.cs b.cs (by unfold Program.fieldsOf; rw [Try.underlying34]) (by kernel_rfl)]
  unfold Program.fieldsOf
  rw [Try.underlying34]
  refine eq_step (x := .int .i64 a.kind) (y := .int .i64 b.kind) (by decide) (by go_simp) (by go_simp) (run_equalIn_int w _ _ _ _ _ _ Try.underlying3) ?_
  refine eq_step (x := .agg #[.int .u64 a.tm.c, .int .i64 a.tm.k]) (y := .agg #[.int .u64 b.tm.c, .int .i64 b.tm.k]) (by decide) (by go_simp) (by go_simp) (eq_rstamp a.tm b.tm w) ?_
  refine eq_step (x := .int .u64 a.thing) (y := .int .u64 b.thing) (by decide) (by go_simp) (by go_simp) (run_equalIn_int w _ _ _ _ _ _ Try.underlying30) ?_
  refine eq_step (x := .int .u64 a.par) (y := .int .u64 b.par) (by decide) (by go_simp) (by go_simp) (run_equalIn_int w _ _ _ _ _ _ Try.underlying30) ?_
  refine eq_step (x := .string a.name) (y := .string b.name) (by decide) (by go_simp) (by go_simp) (run_equalIn_string w _ _ _ _ Try.underlying9) ?_
  refine eq_step (x := .bool a.dir) (y := .bool b.dir) (by decide) (by go_simp) (by go_simp) (run_equalIn_bool' w _ _ _ _ Try.underlying4) ?_
  refine eq_step (x := .string a.dg) (y := .string b.dg) (by decide) (by go_simp) (by go_simp) (run_equalIn_string w _ _ _ _ Try.underlying9) ?_
  refine eq_step (x := .int .i64 a.size) (y := .int .i64 b.size) (by decide) (by go_simp) (by go_simp) (run_equalIn_int w _ _ _ _ _ _ Try.underlying3) ?_
  rfl
theorem guardROp : Try.prog.eqGuardType Try.prog.depth 34 = false := by kernel_rfl
theorem eql_rop {o : Oper} {a : Act} {x y : Operand} {t : TypeId} (ho : o.op = .binOp .eql 34 x y t) (p q : Ob) (hx : a.eval x = .agg p.cs) (hy : a.eval y = .agg q.cs) (w : World) :
    (execOp a.eval o).run Try.prog w = .ok (.value (.bool (p.eqb q))) w := by
  unfold execOp
  rw [ho]
  simp only [hx, hy, Sem.run_bind, run_eqGuard_agg w .eql 34 x y p.cs q.cs guardROp, Result.andThen_ok, run_eql_struct, eq_rop]
  rfl
end Go.Proofs.Ytknnamanbeckeaa
