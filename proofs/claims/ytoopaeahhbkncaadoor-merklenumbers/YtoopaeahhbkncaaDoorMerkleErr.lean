/- Contracts: errors within others: which number errors.Is finds in why a share shows nothing. -/
import Derived.Test.YtoopaeahhbkncaaDoorMerkleFirst
import Derived.LaidEql
import Derived.Stop.Asserts
import Derived.RowKitTokens
namespace Go.Proofs.YtoopaeahhbkncaaDoor
open Go.RowKit Go.Sort Go.Mk Go.Chunk Go.Extern.Stop Go.Stop Go.Extern
attribute [local go_sem] Oper.semAt_some
/-- Closed facts: what reflectlite.TypeOf(target).Comparable() gives where the target is a number. -/
theorem erTypeOf (v : Value) (w : World) : (callFunc 81 #[.iface 27 v]).run Tryd.prog w = .ok (.value (.iface 140 (.agg #[.pointer (some ⟨2, 27, none⟩)]))) w := by kernel_rfl
theorem erComparable (w : World) : (callFunc 149 #[.agg #[.pointer (some ⟨2, 27, none⟩)]]).run Tryd.prog w = .ok (.value (.bool true)) w := by kernel_rfl
theorem erMethodComparable (v : Value) (w : World) : (Go.method 303 140 v "Comparable").run Tryd.prog w = .ok (149, v) w := by kernel_rfl
theorem erMethodUnwrap (v : Value) (w : World) : (Go.method 303 104 v "Unwrap").run Tryd.prog w = .ok (141, v) w := by kernel_rfl
theorem erEqlNum (a b : Int) (w : World) : (binOp .eql 79 (.iface 27 (.int .i64 a)) (.iface 27 (.int .i64 b))).run Tryd.prog w = .ok (.bool (a == b)) w := by kernel_rfl
/-- What errors.is's assertions find: a number and the reasons have neither Is nor Unwrap; what wraps them has Unwrap() []error. -/
theorem noIs (t : TypeId) (ht : t ∈ [27, 104, 125, 129, 132, 136]) (v : Value) (xT : TypeId) (w : World) :
    (Instr.typeAssert (.iface t v) xT 142 true).run Tryd.prog w = .ok (.tuple #[.nilIface, .bool false]) w := by
  simp only [List.mem_cons, List.mem_nil_iff, or_false] at ht
  rcases ht with rfl | rfl | rfl | rfl | rfl | rfl <;> exact run_typeAssert_lacksB Tryd.underlying142 (by kernel_rfl) (by kernel_rfl) v xT w
theorem noUnwrap (t : TypeId) (ht : t ∈ [27, 104, 125, 129, 132, 136]) (v : Value) (xT : TypeId) (w : World) :
    (Instr.typeAssert (.iface t v) xT 145 true).run Tryd.prog w = .ok (.tuple #[.nilIface, .bool false]) w := by
  simp only [List.mem_cons, List.mem_nil_iff, or_false] at ht
  rcases ht with rfl | rfl | rfl | rfl | rfl | rfl <;> exact run_typeAssert_lacksB Tryd.underlying145 (by kernel_rfl) (by kernel_rfl) v xT w
theorem noUnwraps (t : TypeId) (ht : t ∈ [27, 125, 129, 132, 136]) (v : Value) (xT : TypeId) (w : World) :
    (Instr.typeAssert (.iface t v) xT 147 true).run Tryd.prog w = .ok (.tuple #[.nilIface, .bool false]) w := by
  simp only [List.mem_cons, List.mem_nil_iff, or_false] at ht
  rcases ht with rfl | rfl | rfl | rfl | rfl <;> exact run_typeAssert_lacksB Tryd.underlying147 (by kernel_rfl) (by kernel_rfl) v xT w
theorem hasUnwraps (v : Value) (xT : TypeId) (w : World) :
    (Instr.typeAssert (.iface 104 v) xT 147 true).run Tryd.prog w = .ok (.tuple #[.iface 104 v, .bool true]) w :=
  run_typeAssert_hasB Tryd.underlying147 (by kernel_rfl) v xT w
/-- A number against a number. -/
theorem is_num (a b : Int) (w : World) :
    Calls Tryd.prog 82 #[.iface 27 (.int .i64 a), .iface 27 (.int .i64 b), .bool true] w fun e w' => e = .returned (.bool (a == b)) ∧ w' = w := by
  have heq := erEqlNum a b
  have nI := noIs 27 (by simp)
  have nU := noUnwrap 27 (by simp)
  have nV := noUnwraps 27 (by simp)
  go_enter Tryd.func82, Tryd.ntmps82
  go_wp2
  refine wp_loop_rounds 1 ?_
  rw [rounds_succ]
  cases hab : (a == b) <;> rw [hab] at heq <;> go_wp2 <;> (go_ret; exact ⟨by rw [hab]; rfl, rfl⟩)
/-- A reason against a number. -/
theorem is_why (t : TypeId) (ht : t ∈ [125, 129, 132, 136]) (v : Value) (b : Int) (w : World) :
    Calls Tryd.prog 82 #[.iface t v, .iface 27 (.int .i64 b), .bool true] w fun e w' => e = .returned (.bool false) ∧ w' = w := by
  have hne : t ≠ 27 := by intro e; subst e; simp at ht
  have heq := run_eql_iface_types (P := Tryd.prog) t 27 v (.int .i64 b) Tryd.underlying79 hne w
  have nI := noIs t (.tail _ (.tail _ ht))
  have nU := noUnwrap t (.tail _ (.tail _ ht))
  have nV := noUnwraps t (.tail _ ht)
  clear ht hne
  go_enter Tryd.func82, Tryd.ntmps82
  go_wp2
  refine wp_loop_rounds 1 ?_
  rw [rounds_succ]
  go_wp2
  go_ret
  exact ⟨rfl, rfl⟩
theorem claimIs (v : Value) (w : World) : (Instr.typeAssert (.iface 125 v) 79 125 true).run Tryd.prog w = .ok (.tuple #[v, .bool true]) w := by kernel_rfl
theorem claimNot (t : TypeId) (ht : t ∈ [129, 132, 136]) (v : Value) (w : World) : (Instr.typeAssert (.iface t v) 79 125 true).run Tryd.prog w = .ok (.tuple #[.pointer none, .bool false]) w := by
  simp only [List.mem_cons, List.mem_nil_iff, or_false] at ht
  rcases ht with rfl | rfl | rfl <;> kernel_rfl
theorem kind_claim (v : Value) (w : World) :
    Calls Tryd.prog 142 #[.iface 125 v] w fun e w' => e = .returned (.int .i64 1) ∧ w' = w := by
  have h := claimIs v w
  go_enter Tryd.func142, Tryd.ntmps142
  go_wp2
  go_ret
  exact ⟨rfl, rfl⟩
theorem kind_else (t : TypeId) (ht : t ∈ [129, 132, 136]) (v : Value) (w : World) :
    Calls Tryd.prog 142 #[.iface t v] w fun e w' => e = .returned (.int .i64 90) ∧ w' = w := by
  have h := claimNot t ht v w
  clear ht
  go_enter Tryd.func142, Tryd.ntmps142
  go_wp2
  go_ret
  exact ⟨rfl, rfl⟩
/-- The number of a reason. -/
def kindOf (t : TypeId) : Int := if t = 125 then 1 else 90
theorem kind_any (t : TypeId) (ht : t ∈ [125, 129, 132, 136]) (v : Value) (w : World) :
    Calls Tryd.prog 142 #[.iface t v] w fun e w' => e = .returned (.int .i64 (kindOf t)) ∧ w' = w := by
  rcases List.mem_cons.1 ht with rfl | h
  · exact kind_claim v w
  · have : kindOf t = 90 := by
      unfold kindOf
      rw [if_neg (by intro e; subst e; simp at h)]
    rw [this]
    exact kind_else t h v w
theorem unwrap_any (u : Nat) (at_ : Int) (t : TypeId) (ht : t ∈ [125, 129, 132, 136]) (v : Value) (w : World) (h : w.heap[u]? = some (.cells #[.int .i64 at_, .iface t v] 106 (0, 0))) :
    Calls Tryd.prog 141 #[.pointer (some ⟨u, 0, none⟩)] w fun e w' => ∃ g, e = .returned (.slice (some ⟨g, 0, none⟩) 2 2) ∧ w'.cell? ⟨g, 0, none⟩ = some (.iface 27 (.int .i64 (kindOf t))) ∧ w'.cell? ⟨g, 1, none⟩ = some (.iface t v) ∧ Below w.heap.size w w' := by
  have HK := hide (fun w => kind_any t ht v w)
  have c1 : w.cell? ⟨u, 1, none⟩ = some (.iface t v) := by rw [cell_of_row _ _ _ _ _ _ h]; rfl
  have hu : u < w.heap.size := by
    rcases Nat.lt_or_ge u w.heap.size with y | y
    · exact y
    · rw [Array.getElem?_eq_none y] at h; cases h
  have r1 := cell_regrown c1
  clear h ht
  generalize kindOf t = K at *
  go_enter Tryd.func141, Tryd.ntmps141
  go_wp2_with fail
  refine QuietCalls.tail 10 (by kernel_rfl) (by kernel_rfl) ?_
  simp only [List.take_succ_cons, List.take_zero, List.drop_succ_cons, List.drop_zero]
  iterate 4 first | go_big_quiet_step (fail) | quiet_step (fail)
  refine QuietCalls.call1 rfl rfl Tryd.call142 (fun w _ => (HK.out w).mono fun e w' h => ⟨h.1, h.2 ▸ Below.refl _ _⟩) rfl ?_; simp only [Act.put, List.setIfInBounds_toArray, List.set_cons_succ, List.set_cons_zero]
  iterate 5 first | go_big_quiet_step (fail) | quiet_step (fail)
  refine wpQuiet_nil ?_
  intro w2 hb2
  have HB2 := hide hb2
  clear hb2 r1 c1
  go_wp2_with fail
  go_ret
  exact ⟨w2.heap.size, rfl, by simp, by simp, HB2.out.alloc HB2.out.size _⟩
set_option maxRecDepth 100000 in
set_option maxHeartbeats 1000000 in
theorem is_unshown (u : Nat) (at_ : Int) (t : TypeId) (ht : t ∈ [125, 129, 132, 136]) (v : Value) (b : Int) (w : World) (h : w.heap[u]? = some (.cells #[.int .i64 at_, .iface t v] 106 (0, 0))) :
    Calls Tryd.prog 82 #[.iface 104 (.pointer (some ⟨u, 0, none⟩)), .iface 27 (.int .i64 b), .bool true] w fun e w' => e = .returned (.bool (kindOf t == b)) ∧ Below w.heap.size w w' := by
  have heq := run_eql_iface_types (P := Tryd.prog) 104 27 (.pointer (some ⟨u, 0, none⟩)) (.int .i64 b) Tryd.underlying79 (by decide) w
  have nI := noIs 104 (by simp)
  have nU := noUnwrap 104 (by simp)
  have hU := hasUnwraps
  have mU := erMethodUnwrap
  have HW := hide (unwrap_any u at_ t ht v w h)
  have HN := hide (fun w => is_num (kindOf t) b w)
  have HY := hide (fun w => is_why t ht v b w)
  clear h ht
  generalize kindOf t = K at *
  go_enter Tryd.func82, Tryd.ntmps82
  go_wp2
  refine wp_loop_rounds 1 ?_
  rw [rounds_succ]
  go_wp2_with (go_at_call 141; refine HW.out.mono ?_; rintro e w1 ⟨g, rfl, c0, c1, hb⟩; have HB := hide hb; clear hb)
  clear heq nI nU hU mU HW
  cases hKb : (K == b)
  · rw [hKb] at HN
    refine wp_loop_rounds 3 ?_
    rw [rounds_succ]
    go_wp2_with (go_at_call 82; refine (HN.out _).mono ?_; rintro e w2 ⟨rfl, hw⟩; subst hw)
    rw [rounds_succ]
    go_wp2_with (go_at_call 82; refine (HY.out _).mono ?_; rintro e w3 ⟨rfl, hw⟩; subst hw)
    rw [rounds_succ]
    go_wp2_with fail
    go_ret
    exact ⟨by rw [hKb]; rfl, HB.out⟩
  · rw [hKb] at HN
    refine wp_loop_rounds 1 ?_
    rw [rounds_succ]
    go_wp2_with (go_at_call 82; refine (HN.out _).mono ?_; rintro e w2 ⟨rfl, hw⟩; subst hw)
    go_ret
    exact ⟨by rw [hKb]; rfl, HB.out⟩
set_option maxRecDepth 100000 in
theorem isErr_any (u : Nat) (at_ : Int) (t : TypeId) (ht : t ∈ [125, 129, 132, 136]) (v : Value) (b : Int) (w : World) (h : w.heap[u]? = some (.cells #[.int .i64 at_, .iface t v] 106 (0, 0))) :
    Calls Tryd.prog 55 #[.iface 104 (.pointer (some ⟨u, 0, none⟩)), .iface 27 (.int .i64 b)] w fun e w' => e = .returned (.bool (kindOf t == b)) ∧ Below w.heap.size w w' := by
  have tT := erTypeOf
  have cT := erComparable
  have mR := erMethodComparable
  have HU := hide (is_unshown u at_ t ht v b w h)
  clear h ht
  generalize (kindOf t == b) = K at *
  go_enter Tryd.func55, Tryd.ntmps55
  go_wp2_with (go_at_call 82; refine HU.out.mono ?_; rintro e w2 ⟨rfl, hb⟩)
  go_ret
  exact ⟨rfl, hb⟩
end Go.Proofs.YtoopaeahhbkncaaDoor
