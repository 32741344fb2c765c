/- Contracts: the law's operations, as the program and as the document have them. -/
import Derived.Test.YtmnenamdjkjlaaaDoorRunAF
import Derived.Test.YtmnenamdjkjlaaaDoorOpRef
import Derived.Test.YtmnenamdjkjlaaaDoorRegionAll
import Derived.Test.YtmnenamdjkjlaaaDoorRunAA
namespace Go.Mov
open Go.RowKit Go.Opn
/-- An operation of the law's: with one letter of a digest. -/
structure Le where
  op : Ob
  h : UInt8
def Le.cs (e : Le) : List Value := [.int .i64 e.op.kind, .int .u64 e.op.tm.c, .int .i64 e.op.tm.k, .int .u64 e.op.thing, .int .u64 e.op.par, .string e.op.name, .bool e.op.dir, .string e.op.dg, .int .i64 e.op.size, .int .u8 (e.h.toNat : Nat)]
def Le.v (e : Le) : Value := .agg #[.int .i64 e.op.kind, .int .u64 e.op.tm.c, .int .i64 e.op.tm.k, .int .u64 e.op.thing, .int .u64 e.op.par, .string e.op.name, .bool e.op.dir, .string e.op.dg, .int .i64 e.op.size, .int .u8 (e.h.toNat : Nat)]
def Le.en (e : Le) : En := ⟨e.op, ⟨#[e.h]⟩⟩
end Go.Mov
namespace Go.Proofs.YtmnenamdjkjlaaaDoor
open Go.RowKit Go.Opn Go.Stamp Go.MapInt Go.Mov Go.Shelf
attribute [local go_sem] Oper.semAt_some
set_option maxRecDepth 100000 in
theorem uB : Tryd.prog.underlying 116 = some (.slice 5) := by kernel_rfl
set_option maxRecDepth 100000 in
theorem u5 : Tryd.prog.underlying 5 = some (.int .u8) := by kernel_rfl
set_option maxRecDepth 100000 in
theorem u9 : Tryd.prog.underlying 9 = some .string := by kernel_rfl
set_option maxRecDepth 100000 in
theorem conv1 (q : UInt8) (g : Nat) (W : World) (h : W.cell? ⟨g, 0, none⟩ = some (.int .u8 (q.toNat : Nat))) : (convert 116 9 (.slice (some ⟨g, 0, none⟩) 1 1)).run Tryd.prog W = .ok (.string ⟨#[q]⟩) W := by
  have hr := run_convert_bytes_back (P := Tryd.prog) W 116 9 5 ⟨g, 0, none⟩ 1 [q] uB u5 u9 (fun j hj => by
    obtain rfl : j = 0 := by simp at hj; omega
    exact h)
  exact hr
end Go.Proofs.YtmnenamdjkjlaaaDoor
