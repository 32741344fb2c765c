/- Contracts: why a node is refused: which number errors.Is finds within it. -/
import Derived.Test.YtkbboddibgfjbaaGreatDoorNodeOne
import Derived.LaidEql
import Derived.Stop.Asserts
import Derived.RowKitTokens
namespace Go.Proofs.YtkbboddibgfjbaaGreatDoor
open Go.RowKit Go.Sort Go.Nod Go.Extern.Stop Go.Stop Go.Extern
attribute [local go_sem] Oper.semAt_some
/-- Closed facts: what reflectlite.TypeOf(target).Comparable() gives where the target is a number. -/
theorem erTypeOf (v : Value) (w : World) : (callFunc 86 #[.iface 27 v]).run Tryz.prog w = .ok (.value (.iface 205 (.agg #[.pointer (some ⟨2, 27, none⟩)]))) w := by kernel_rfl
theorem erComparable (w : World) : (callFunc 221 #[.agg #[.pointer (some ⟨2, 27, none⟩)]]).run Tryz.prog w = .ok (.value (.bool true)) w := by kernel_rfl
theorem erMethodComparable (v : Value) (w : World) : (Go.method 398 205 v "Comparable").run Tryz.prog w = .ok (221, v) w := by kernel_rfl
theorem erUnLate (v : Value) (w : World) : (Go.method 398 181 v "Unwrap").run Tryz.prog w = .ok (218, v) w := by kernel_rfl
theorem erUnLack (v : Value) (w : World) : (Go.method 398 133 v "Unwrap").run Tryz.prog w = .ok (213, v) w := by kernel_rfl
theorem erUnRefusal (v : Value) (w : World) : (Go.method 398 112 v "Unwrap").run Tryz.prog w = .ok (211, v) w := by kernel_rfl
theorem erEqlNum (a b : Int) (w : World) : (binOp .eql 79 (.iface 27 (.int .i64 a)) (.iface 27 (.int .i64 b))).run Tryz.prog w = .ok (.bool (a == b)) w := by kernel_rfl
theorem erEqlNil (b : Int) (w : World) : (binOp .eql 79 .nilIface (.iface 27 (.int .i64 b))).run Tryz.prog w = .ok (.bool false) w := by kernel_rfl
/-- What the assertions of errors.is find. -/
theorem noIs (t : TypeId) (ht : t ∈ [27, 181, 133, 112]) (v : Value) (xT : TypeId) (w : World) :
    (Instr.typeAssert (.iface t v) xT 207 true).run Tryz.prog w = .ok (.tuple #[.nilIface, .bool false]) w := by
  simp only [List.mem_cons, List.mem_nil_iff, or_false] at ht
  rcases ht with rfl | rfl | rfl | rfl <;> exact run_typeAssert_lacksB Tryz.underlying207 (by kernel_rfl) (by kernel_rfl) v xT w
theorem hasUnwrap (t : TypeId) (ht : t ∈ [181, 133, 112]) (v : Value) (xT : TypeId) (w : World) :
    (Instr.typeAssert (.iface t v) xT 210 true).run Tryz.prog w = .ok (.tuple #[.iface t v, .bool true]) w := by
  simp only [List.mem_cons, List.mem_nil_iff, or_false] at ht
  rcases ht with rfl | rfl | rfl <;> exact run_typeAssert_hasB Tryz.underlying210 (by kernel_rfl) v xT w
theorem noUnwrap (v : Value) (xT : TypeId) (w : World) :
    (Instr.typeAssert (.iface 27 v) xT 210 true).run Tryz.prog w = .ok (.tuple #[.nilIface, .bool false]) w :=
  run_typeAssert_lacksB Tryz.underlying210 (by kernel_rfl) (by kernel_rfl) v xT w
theorem noUnwraps (v : Value) (xT : TypeId) (w : World) :
    (Instr.typeAssert (.iface 27 v) xT 212 true).run Tryz.prog w = .ok (.tuple #[.nilIface, .bool false]) w :=
  run_typeAssert_lacksB Tryz.underlying212 (by kernel_rfl) (by kernel_rfl) v xT w
theorem unLate_any (v : Value) (w : World) : Calls Tryz.prog 218 #[v] w fun e w' => e = .returned (.iface 27 (.int .i64 122)) ∧ w' = w := by
  go_enter Tryz.func218, Tryz.ntmps218
  go_wp2
  go_ret
  exact ⟨rfl, rfl⟩
theorem unLack_any (v : Value) (w : World) : Calls Tryz.prog 213 #[v] w fun e w' => e = .returned (.iface 27 (.int .i64 123)) ∧ w' = w := by
  go_enter Tryz.func213, Tryz.ntmps213
  go_wp2
  go_ret
  exact ⟨rfl, rfl⟩
/-- A reason: its number, 0 where there is none. -/
def Er (k : Int) (v : Value) : Prop := (k = 0 ∧ v = .nilIface) ∨ (k ≠ 0 ∧ v = .iface 27 (.int .i64 k)) ∨ (k = 122 ∧ ∃ u, v = .iface 181 u) ∨ (k = 123 ∧ ∃ u, v = .iface 133 u)
theorem isIn_num (a : Int) (w : World) :
    Calls Tryz.prog 87 #[.iface 27 (.int .i64 a), .iface 27 (.int .i64 123), .bool true] w fun e w' => e = .returned (.bool (a == 123)) ∧ w' = w := by
  have heq := erEqlNum a 123
  have nI := noIs 27 (by simp)
  have nU := noUnwrap
  have nV := noUnwraps
  go_enter Tryz.func87, Tryz.ntmps87
  go_wp2
  refine wp_loop_rounds 1 ?_
  rw [rounds_succ]
  cases hab : (a == 123) <;> rw [hab] at heq <;> go_wp2 <;> (go_ret; exact ⟨by rw [hab]; rfl, rfl⟩)
theorem isIn_late (u : Value) (w : World) :
    Calls Tryz.prog 87 #[.iface 181 u, .iface 27 (.int .i64 123), .bool true] w fun e w' => e = .returned (.bool false) ∧ w' = w := by
  have heq := run_eql_iface_types (P := Tryz.prog) 181 27 u (.int .i64 123) Tryz.underlying79 (by decide) w
  have heq2 := erEqlNum 122 123
  have nI := noIs 27 (by simp)
  have nI2 := noIs 181 (by simp)
  have nU := noUnwrap
  have nV := noUnwraps
  have hU := hasUnwrap 181 (by simp)
  have mU := erUnLate
  have HW := hide (unLate_any u)
  go_enter Tryz.func87, Tryz.ntmps87
  go_wp2
  refine wp_loop_rounds 2 ?_
  rw [rounds_succ]
  go_wp2_with (go_at_call 218; refine (HW.out _).mono ?_; rintro e w1 ⟨rfl, rfl⟩)
  rw [rounds_succ]
  go_wp2
  go_ret
  exact ⟨rfl, rfl⟩
theorem isIn_lack (u : Value) (w : World) :
    Calls Tryz.prog 87 #[.iface 133 u, .iface 27 (.int .i64 123), .bool true] w fun e w' => e = .returned (.bool true) ∧ w' = w := by
  have heq := run_eql_iface_types (P := Tryz.prog) 133 27 u (.int .i64 123) Tryz.underlying79 (by decide) w
  have heq2 := erEqlNum 123 123
  have nI2 := noIs 133 (by simp)
  have hU := hasUnwrap 133 (by simp)
  have mU := erUnLack
  have HW := hide (unLack_any u)
  go_enter Tryz.func87, Tryz.ntmps87
  go_wp2
  refine wp_loop_rounds 2 ?_
  rw [rounds_succ]
  go_wp2_with (go_at_call 213; refine (HW.out _).mono ?_; rintro e w1 ⟨rfl, rfl⟩)
  rw [rounds_succ]
  go_wp2
  go_ret
  exact ⟨rfl, rfl⟩
set_option maxRecDepth 100000 in
/-- errors.Is(err, ErrWait). -/
theorem isWait_any {k : Int} {v : Value} (h : Er k v) (w : World) :
    Calls Tryz.prog 56 #[v, .iface 27 (.int .i64 123)] w fun e w' => e = .returned (.bool (k == 123)) ∧ w' = w := by
  have tT := erTypeOf
  have cT := erComparable
  have mR := erMethodComparable
  rcases h with ⟨rfl, rfl⟩ | ⟨-, rfl⟩ | ⟨rfl, u, rfl⟩ | ⟨rfl, u, rfl⟩
  · have heN := erEqlNil 123
    go_enter Tryz.func56, Tryz.ntmps56
    go_wp2
    go_ret
    exact ⟨rfl, rfl⟩
  · have HU := hide (isIn_num k w)
    generalize (k == 123) = K at *
    go_enter Tryz.func56, Tryz.ntmps56
    go_wp2_with (go_at_call 87; refine HU.out.mono ?_; rintro e w2 ⟨rfl, hb⟩; subst hb)
    go_ret
    exact ⟨rfl, rfl⟩
  · have HU := hide (isIn_late u w)
    go_enter Tryz.func56, Tryz.ntmps56
    go_wp2_with (go_at_call 87; refine HU.out.mono ?_; rintro e w2 ⟨rfl, hb⟩; subst hb)
    go_ret
    exact ⟨rfl, rfl⟩
  · have HU := hide (isIn_lack u w)
    go_enter Tryz.func56, Tryz.ntmps56
    go_wp2_with (go_at_call 87; refine HU.out.mono ?_; rintro e w2 ⟨rfl, hb⟩; subst hb)
    go_ret
    exact ⟨rfl, rfl⟩
end Go.Proofs.YtkbboddibgfjbaaGreatDoor
