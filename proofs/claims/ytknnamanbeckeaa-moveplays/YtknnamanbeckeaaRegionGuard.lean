/- Single operations of a region by RegionOwn that stand under a guard; of no program. -/
import Derived.Test.YtknnamanbeckeaaRegionAll
namespace Go.RegionOwn
open Go.RowKit
variable {P : Program} {ops : Array Oper} {Q : Exit → Act → World → Prop} {m : Nat} {sp : Spec} {b : Act} {x : World} {i : Nat} {K : Act → World → Prop} {o : Oper}
theorem T_some {d : Nat} {v : Value} (hv : v ≠ undef) (h : T b d = v) : b.tmps[d]? = some v := by
  unfold T at h
  rw [Array.getD_eq_getD_getElem?] at h
  cases hc : b.tmps[d]? with
  | none => rw [hc] at h; exact absurd h.symm hv
  | some u => rw [hc] at h; exact congrArg some h
theorem wanted_of {j d : Nat} {want : Bool} (hg : o.guard = some (j, want)) (hd : dstOf ops j = some d) (hT : T b d = .bool want) : Region.wanted o (yielded ops b.tmps) = true := by
  have h1 : b.tmps[d]? = some (.bool want) := T_some (fun e => by cases e) hT
  unfold dstOf at hd
  have h2 : ((ops[j]?.bind fun x => x.dst).bind fun x => b.tmps[x]?) = some (.bool want) := by rw [hd]; exact h1
  unfold Region.wanted yielded
  rw [hg]
  simp only [h2]
  simp
theorem wpOp_valueG {v : Value} {y : World} (ho : ops[i]? = some o) (hw : Region.wanted o (yielded ops b.tmps) = true) (hr : (execOp b.eval o).run P x = .ok (.value v) y) (h : K (b.put (dstOf ops i) v) y) : wpOp P ops Q i K b x := by
  rw [dst_of ho] at h
  unfold wpOp
  simp only [ho]
  rw [if_pos hw]
  left
  unfold Oper.wp
  rw [hr]
  exact h
theorem quietG {v : Value} (ho : ops[i]? = some o) (hw : Region.wanted o (yielded ops b.tmps) = true) (hK : Then ops m sp b i x K) (hno : sp.own i = none) (hF : sp.F i x v) (hr : (execOp b.eval o).run P x = .ok (.value v) x) : wpOp P ops Q i K b x :=
  wpOp_valueG ho hw hr (hK v x none ⟨rfl, rfl, rfl, Nat.le_refl _, fun _ _ _ => rfl⟩ (fun _ h => by cases h) hF (fun h => absurd hno h))
theorem calledG {f : FuncId} {args : Array Value} (ho : ops[i]? = some o) (hw : Region.wanted o (yielded ops b.tmps) = true) (hK : Then ops m sp b i x K) (hno : sp.own i = none)
    (hr : (execOp b.eval o).run P x = .ok (.enter f args) x) (hc : Calls P f args x fun e y => ∃ v, e = .returned v ∧ Below x.heap.size x y ∧ sp.F i y v) : wpOp P ops Q i K b x := by
  unfold wpOp
  simp only [ho]
  rw [if_pos hw]
  left
  unfold Oper.wp
  rw [hr]
  refine Calls.mono hc ?_
  rintro e y ⟨v, rfl, hb, hF⟩
  have := hK v y none ⟨hb.os, hb.tape, hb.output, hb.size, fun k hk _ => hb.block k hk⟩ (fun _ h => by cases h) hF (fun h => absurd hno h)
  rw [dst_of ho] at this
  exact this
end Go.RegionOwn
