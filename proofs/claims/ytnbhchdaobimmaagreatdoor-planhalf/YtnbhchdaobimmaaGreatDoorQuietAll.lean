/- Several texts in one: QuietCalls, QuietMore. -/
import Derived.WalkKit
import Derived.WalkLawsBesides
import Derived.Deep.QuietTactic
import Derived.BigQuiet
import Derived.Deep.WholeRow
import Derived.Below
import Derived.Lib.QuietBelow
import Derived.Test.YtnbhchdaobimmaaGreatDoorRunAB
/- A region that draws its order, whose operations only read or call what leaves all that was there: walked once, over the class of worlds in which all that was there stands; of no program. -/
namespace Go.QuietCalls
open Go.RowKit Go.Sort
theorem region {P : Program} {id : Nat} {Q : Exit → Act → World → Prop} {a : Act} {w : World} {l : List Oper} (hm : P.follows .mixedOrders = true) (hB : Region.lexB .any l.toArray = true)
  (h : wpQuiet P l.toArray (fun w' => ∃ p : Regrown, w' = grow (redrawn w p.d) p.os) (fun a' => ∀ w', Below w.heap.size w w' → Q .normal a' w') l a) : (Code.region id l.toArray true).wp P Q a w := by
 have e : (fun a' : Act => ∀ w', Below w.heap.size w w' → Q .normal a' w') = (fun a' : Act => ∀ w', (∃ p : Regrown, w' = grow (redrawn w p.d) p.os) → Q .normal a' w') := by
  funext a'
  apply propext
  constructor
  ·rintro h w' ⟨p, rfl⟩; exact h _ (below_regrown _ _ _)
  ·intro h w' k; exact h _ (regrown_of_below k)
 rw [e] at h
 exact wp_region_quiet_below hm hB h
theorem call {P : Program} {ops : Array Oper} {W : World} {Q : Act → Prop} {rest : List Oper} {o : Oper} {a : Act} (hgd : Region.wanted o (yielded ops a.tmps) = true) (f : FuncId) (args : Array Value) (v : Value)
  (hc : ∀ w, Below W.heap.size W w → Calls P f args w fun e w' => e = .returned v ∧ Below w.heap.size w w')
  (ho : ∀ w, (execOp a.eval o).run P w = .ok (.enter f args) w)
  (h : wpQuiet P ops (fun w' => ∃ p : Regrown, w' = grow (redrawn W p.d) p.os) Q rest (a.put o.dst v)) : wpQuiet P ops (fun w' => ∃ p : Regrown, w' = grow (redrawn W p.d) p.os) Q (o :: rest) a := by
 refine wpQuiet_step fun K hK => ?_
 rw [if_pos hgd]
 refine ⟨v, fun w hw => ?_, hK _ h⟩
 unfold Oper.quietAt
 rw [ho]
 have hw' : Below W.heap.size W w := by obtain ⟨p, rfl⟩ := hw; exact below_regrown _ _ _
 exact ⟨rfl, (hc w hw').mono fun e w' ⟨he, hb⟩ => ⟨he, regrown_of_below (hw'.trans (hb.mono hw'.size))⟩⟩
/-- A row that is loaded. -/
theorem load {P : Program} {ops : Array Oper} {W : World} {Q : Act → Prop} {rest : List Oper} {o : Oper} {a : Act} (hgd : Region.wanted o (yielded ops a.tmps) = true) (ty : TypeId) (x : Operand) (ho : o.op = .load ty x)
  (g : Nat) (hx : a.eval x = .pointer (some ⟨g, 0, none⟩)) (t : TypeId) (cs : Array Value) (fr : Nat × Nat) (d : TypeDesc) (hg : W.heap[g]? = some (.cells cs t fr))
  (hu : P.underlying ty = some d) (hd : (match d with | .struct _ | .array _ _ => true | _ => false) = true) (hi : (P.info? ty).map (·.size) = some cs.size)
  (h : wpQuiet P ops (fun w' => ∃ p : Regrown, w' = grow (redrawn W p.d) p.os) Q rest (a.put o.dst (.agg cs))) : wpQuiet P ops (fun w' => ∃ p : Regrown, w' = grow (redrawn W p.d) p.os) Q (o :: rest) a := by
 have hlt : g < W.heap.size := by
  rcases Nat.lt_or_ge g W.heap.size with y | y
  ·exact y
  ·rw [Array.getElem?_eq_none y] at hg; cases hg
 refine wpQuiet_step fun K hK => ?_
 rw [if_pos hgd]
 refine ⟨.agg cs, fun w hw0 => ?_, hK _ h⟩
 have hw : Below W.heap.size W w := by obtain ⟨p, rfl⟩ := hw0; exact below_regrown _ _ _
 unfold Oper.quietAt execOp
 simp only [ho, hx, Instr.loadAt, Instr.sureAddr, Sem.run_bind, Sem.run_pure, Result.andThen_ok, run_loadVar_row w g t ty cs fr d ((hw.block g hlt).trans hg) hu hd hi]
 exact ⟨rfl, rfl⟩
/-- An operation that hands a value on. -/
theorem hand {P : Program} {ops : Array Oper} {C : World → Prop} {Q : Act → Prop} {rest : List Oper} {o : Oper} {a : Act} (hgd : Region.wanted o (yielded ops a.tmps) = true) (v : Value)
  (ho : ∀ w, (execOp a.eval o).run P w = .ok (.value v) w)
  (h : wpQuiet P ops C Q rest (a.put o.dst v)) : wpQuiet P ops C Q (o :: rest) a := by
 refine wpQuiet_step fun K hK => ?_
 rw [if_pos hgd]
 refine ⟨v, fun w _ => ?_, hK _ h⟩
 unfold Oper.quietAt
 rw [ho]
 exact ⟨rfl, rfl⟩
/-- Calls of a function that is named, of one and two arguments. -/
theorem call1 {P : Program} {ops : Array Oper} {W : World} {Q : Act → Prop} {rest : List Oper} {o : Oper} {a : Act} {f : FuncId} {x : Operand} {ts : Array TypeId} {u v : Value} (hgd : Region.wanted o (yielded ops a.tmps) = true)
  (ho : o.op = .call { callee := .value (.func f), args := #[x], argTypes := ts }) (hf : ∀ args w, (callFunc f args).run P w = .ok (.enter f args) w)
  (hc : ∀ w, Below W.heap.size W w → Calls P f #[u] w fun e w' => e = .returned v ∧ Below w.heap.size w w') (hx : a.eval x = u)
  (h : wpQuiet P ops (fun w' => ∃ p : Regrown, w' = grow (redrawn W p.d) p.os) Q rest (a.put o.dst v)) : wpQuiet P ops (fun w' => ∃ p : Regrown, w' = grow (redrawn W p.d) p.os) Q (o :: rest) a :=
 call hgd f _ v hc (fun w => by
  subst hx
  rw [← hf]
  obtain ⟨dst, op, ty, pos, after, gd⟩ := o
  dsimp only at ho
  subst ho
  show (callFunc f (#[] ++ #[x].map a.eval ++ #[])).run P w = _
  simp) h
end Go.QuietCalls
/- More laws by operations of a region that draws, whose callees leave all that was there: three and four arguments; a forced tail. -/
namespace Go.QuietCalls
open Go.RowKit Go.Sort
/-- The first n operations of a region that draws: quiet, or calls that leave all that was there; the rest in its order. -/
theorem tail {P : Program} {id : Nat} {Q : Exit → Act → World → Prop} {a : Act} {w : World} {l : List Oper} (n : Nat) (hm : P.follows .mixedOrders = true) (hB : Region.lexTailB .any l.toArray n = true)
  (h : wpQuiet P l.toArray (fun w' => ∃ p : Regrown, w' = grow (redrawn w p.d) p.os) (fun a' => ∀ w', Below w.heap.size w w' → wpList P l.toArray Q (l.drop n) a' w') (l.take n) a) : (Code.region id l.toArray true).wp P Q a w := by
 have e : (fun a' : Act => ∀ w', Below w.heap.size w w' → wpList P l.toArray Q (l.drop n) a' w') = (fun a' : Act => ∀ w', (∃ p : Regrown, w' = grow (redrawn w p.d) p.os) → wpList P l.toArray Q (l.drop n) a' w') := by
  funext a'
  apply propext
  constructor
  ·rintro h w' ⟨p, rfl⟩; exact h _ (below_regrown _ _ _)
  ·intro h w' k; exact h _ (regrown_of_below k)
 rw [e] at h
 exact QTail.wp_region_tail _ n hm hB ⟨⟨w.drawn + 1, #[]⟩, by rw [grow_empty]; rfl⟩ h
end Go.QuietCalls
