/- A region that draws its order, walked once over a class of worlds that its operations keep: laws for single operations; of no program. -/
import Derived.Test.YtoopaeahhbkncaaDoorQuietCalls
import Derived.Laws.StructEq
namespace Go.QuietClass
open Go.RowKit
theorem region {P : Program} {id : Nat} {Q : Exit → Act → World → Prop} {a : Act} {w : World} {l : List Oper} (C : World → Prop) (hm : P.follows .mixedOrders = true) (hB : Region.lexB .any l.toArray = true) (hC : C w.drew)
    (h : wpQuiet P l.toArray C (fun a' => ∀ w', C w' → Q .normal a' w') l a) : (Code.region id l.toArray true).wp P Q a w :=
  wp_region_quiet (C := C) hm hB hC (by simpa using h)
theorem call {P : Program} {ops : Array Oper} {C : World → Prop} {Q : Act → Prop} {rest : List Oper} {o : Oper} {a : Act} (hgd : Region.wanted o (yielded ops a.tmps) = true) (f : FuncId) (args : Array Value) (v : Value)
    (hc : ∀ w, C w → Calls P f args w fun e w' => e = .returned v ∧ C w')
    (ho : ∀ w, (execOp a.eval o).run P w = .ok (.enter f args) w)
    (h : wpQuiet P ops C Q rest (a.put o.dst v)) : wpQuiet P ops C Q (o :: rest) a := by
  refine wpQuiet_step fun K hK => ?_
  rw [if_pos hgd]
  refine ⟨v, fun w hw => ?_, hK _ h⟩
  unfold Oper.quietAt
  rw [ho]
  exact ⟨rfl, hc w hw⟩
theorem call0 {P : Program} {ops : Array Oper} {C : World → Prop} {Q : Act → Prop} {rest : List Oper} {o : Oper} {a : Act} {f : FuncId} {ts : Array TypeId} {v : Value} (hgd : Region.wanted o (yielded ops a.tmps) = true)
    (ho : o.op = .call { callee := .value (.func f), args := #[], argTypes := ts }) (hf : ∀ args w, (callFunc f args).run P w = .ok (.enter f args) w)
    (hc : ∀ w, C w → Calls P f #[] w fun e w' => e = .returned v ∧ C w')
    (h : wpQuiet P ops C Q rest (a.put o.dst v)) : wpQuiet P ops C Q (o :: rest) a :=
  call hgd f _ v hc (fun w => by
    rw [← hf]
    obtain ⟨dst, op, ty, pos, after, gd⟩ := o
    dsimp only at ho
    subst ho
    show (callFunc f (#[] ++ #[].map a.eval ++ #[])).run P w = _
    simp) h
theorem call1 {P : Program} {ops : Array Oper} {C : World → Prop} {Q : Act → Prop} {rest : List Oper} {o : Oper} {a : Act} {f : FuncId} {x : Operand} {ts : Array TypeId} {u v : Value} (hgd : Region.wanted o (yielded ops a.tmps) = true)
    (ho : o.op = .call { callee := .value (.func f), args := #[x], argTypes := ts }) (hf : ∀ args w, (callFunc f args).run P w = .ok (.enter f args) w)
    (hc : ∀ w, C w → Calls P f #[u] w fun e w' => e = .returned v ∧ C w') (hx : a.eval x = u)
    (h : wpQuiet P ops C Q rest (a.put o.dst v)) : wpQuiet P ops C Q (o :: rest) a :=
  call hgd f _ v hc (fun w => by
    subst hx
    rw [← hf]
    obtain ⟨dst, op, ty, pos, after, gd⟩ := o
    dsimp only at ho
    subst ho
    show (callFunc f (#[] ++ #[x].map a.eval ++ #[])).run P w = _
    simp) h
/-- A row that is loaded. -/
theorem load {P : Program} {ops : Array Oper} {C : World → Prop} {Q : Act → Prop} {rest : List Oper} {o : Oper} {a : Act} (hgd : Region.wanted o (yielded ops a.tmps) = true) (ty : TypeId) (x : Operand) (ho : o.op = .load ty x)
    (g : Nat) (hx : a.eval x = .pointer (some ⟨g, 0, none⟩)) (t : TypeId) (cs : Array Value) (fr : Nat × Nat) (d : TypeDesc) (hg : ∀ w, C w → w.heap[g]? = some (.cells cs t fr))
    (hu : P.underlying ty = some d) (hd : (match d with | .struct _ | .array _ _ => true | _ => false) = true) (hi : (P.info? ty).map (·.size) = some cs.size)
    (h : wpQuiet P ops C Q rest (a.put o.dst (.agg cs))) : wpQuiet P ops C Q (o :: rest) a := by
  refine wpQuiet_step fun K hK => ?_
  rw [if_pos hgd]
  refine ⟨.agg cs, fun w hw => ?_, hK _ h⟩
  unfold Oper.quietAt execOp
  simp only [ho, hx, Instr.loadAt, Instr.sureAddr, Sem.run_bind, Sem.run_pure, Result.andThen_ok, run_loadVar_row w g t ty cs fr d (hg w hw) hu hd hi]
  exact ⟨rfl, rfl⟩
theorem move {P : Program} {ops : Array Oper} {C : World → Prop} {Q : Act → Prop} {rest : List Oper} {o : Oper} {a : Act} {x : Operand} {v : Value} (hgd : Region.wanted o (yielded ops a.tmps) = true)
    (ho : o.op = .move x) (hx : a.eval x = v)
    (h : wpQuiet P ops C Q rest (a.put o.dst v)) : wpQuiet P ops C Q (o :: rest) a :=
  QuietCalls.hand hgd v (fun w => by unfold execOp; rw [ho]; subst hx; rfl) h
theorem pick {P : Program} {ops : Array Oper} {C : World → Prop} {Q : Act → Prop} {rest : List Oper} {o : Oper} {a : Act} {c x y : Operand} {v : Value} (hgd : Region.wanted o (yielded ops a.tmps) = true)
    (ho : o.op = .pick c x y) (hc : a.eval c = .bool true) (hx : a.eval x = v)
    (h : wpQuiet P ops C Q rest (a.put o.dst v)) : wpQuiet P ops C Q (o :: rest) a :=
  QuietCalls.hand hgd v (fun w => by unfold execOp; rw [ho]; simp only [hc, hx, asBool]; rfl) h
theorem eqStr {P : Program} {ops : Array Oper} {C : World → Prop} {Q : Act → Prop} {rest : List Oper} {o : Oper} {a : Act} {x y : Operand} {t t' : TypeId} {s s' : ByteArray} (hgd : Region.wanted o (yielded ops a.tmps) = true)
    (ho : o.op = .binOp .eql t x y t') (hx : a.eval x = .string s) (hy : a.eval y = .string s')
    (h : wpQuiet P ops C Q rest (a.put o.dst (.bool (s.toList == s'.toList)))) : wpQuiet P ops C Q (o :: rest) a :=
  QuietCalls.hand hgd _ (fun w => by unfold execOp; rw [ho]; simp only [hx, hy]; go_simp) h
theorem eqInt {P : Program} {ops : Array Oper} {C : World → Prop} {Q : Act → Prop} {rest : List Oper} {o : Oper} {a : Act} {x y : Operand} {t t' : TypeId} {k : IntKind} {m n : Int} (hgd : Region.wanted o (yielded ops a.tmps) = true)
    (ho : o.op = .binOp .eql t x y t') (hx : a.eval x = .int k m) (hy : a.eval y = .int k n)
    (h : wpQuiet P ops C Q rest (a.put o.dst (.bool (m == n)))) : wpQuiet P ops C Q (o :: rest) a :=
  QuietCalls.hand hgd _ (fun w => by unfold execOp; rw [ho]; simp only [hx, hy]; go_simp) h
theorem beq_self' (s : ByteArray) : (s.toList == s.toList) = true := by simp
theorem eqStr1 {P : Program} {ops : Array Oper} {C : World → Prop} {Q : Act → Prop} {rest : List Oper} {o : Oper} {a : Act} {x y : Operand} {t t' : TypeId} {s : ByteArray} (hgd : Region.wanted o (yielded ops a.tmps) = true)
    (ho : o.op = .binOp .eql t x y t') (hx : a.eval x = .string s) (hy : a.eval y = .string s)
    (h : wpQuiet P ops C Q rest (a.put o.dst (.bool true))) : wpQuiet P ops C Q (o :: rest) a :=
  eqStr hgd ho hx hy (by rw [beq_self']; exact h)
theorem eqInt1 {P : Program} {ops : Array Oper} {C : World → Prop} {Q : Act → Prop} {rest : List Oper} {o : Oper} {a : Act} {x y : Operand} {t t' : TypeId} {k : IntKind} {m : Int} (hgd : Region.wanted o (yielded ops a.tmps) = true)
    (ho : o.op = .binOp .eql t x y t') (hx : a.eval x = .int k m) (hy : a.eval y = .int k m)
    (h : wpQuiet P ops C Q rest (a.put o.dst (.bool true))) : wpQuiet P ops C Q (o :: rest) a :=
  eqInt hgd ho hx hy (by rw [beq_self_eq_true]; exact h)
theorem eqStrV {P : Program} {ops : Array Oper} {C : World → Prop} {Q : Act → Prop} {rest : List Oper} {o : Oper} {a : Act} {x y : Operand} {t t' : TypeId} {s s' : ByteArray} {v : Bool} (hgd : Region.wanted o (yielded ops a.tmps) = true)
    (ho : o.op = .binOp .eql t x y t') (hx : a.eval x = .string s) (hy : a.eval y = .string s') (hv : (s.toList == s'.toList) = v)
    (h : wpQuiet P ops C Q rest (a.put o.dst (.bool v))) : wpQuiet P ops C Q (o :: rest) a :=
  eqStr hgd ho hx hy (by rw [hv]; exact h)
theorem eqBool {P : Program} {ops : Array Oper} {C : World → Prop} {Q : Act → Prop} {rest : List Oper} {o : Oper} {a : Act} {x y : Operand} {t t' : TypeId} {m : Bool} (hgd : Region.wanted o (yielded ops a.tmps) = true)
    (ho : o.op = .binOp .eql t x y t') (hx : a.eval x = .bool m) (hy : a.eval y = .bool m) (ht : P.underlying t = some .bool)
    (h : wpQuiet P ops C Q rest (a.put o.dst (.bool true))) : wpQuiet P ops C Q (o :: rest) a :=
  QuietCalls.hand hgd _ (fun w => by unfold execOp; rw [ho]; simp only [hx, hy]; go_simp) h
end Go.QuietClass
