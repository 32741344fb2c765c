/- Contract: errors.As at a number's variable. -/
import Derived.Test.YtkbboddibgfjbaaGreatDoorDagAsIn
namespace Go.Proofs.YtkbboddibgfjbaaGreatDoor
open Go.RowKit Go.Sort Go.Nod Go.Extern.Stop Go.Stop Go.Extern
attribute [local go_sem] Oper.semAt_some
set_option maxRecDepth 100000 in
set_option maxHeartbeats 8000000 in
theorem asErr_any {k : Int} (hk : k ≠ 0) (v0 : Value) (t : Addr) (old : Value) (w : World) (hv : Rf k v0 w) (hg : w.cell? ⟨0, 0, none⟩ = some (.iface 205 (.agg #[.pointer (some ⟨2, 79, none⟩)]))) (ht0 : w.cell? t = some old) (hf0 : w.frozen? t = false) :
    Calls Tryz.prog 59 #[v0, .iface 117 (.pointer (some t))] w fun e w' => e = .returned (.bool true) ∧ ∃ w1, Below w.heap.size w w1 ∧ w' = w1.setCell t (.int .i64 k) := by
  have h6 := @run_callFunc_extern Tryz.prog 89 _ (fun args => ReflectliteValue.unpack (args.getD 0 (.tuple #[]))) Tryz.func89 (by kernel_rfl) (by kernel_rfl) (by kernel_rfl) (by kernel_rfl)
  have h7 := @run_callFunc_extern Tryz.prog 90 _ (ReflectliteValue.methodAny (ReflectliteValue.valueError "reflectlite.Value.Type" 0) (fun t _ _ _ => ReflectliteType.toType t)) Tryz.func90 (by kernel_rfl) (by kernel_rfl) (by kernel_rfl) (by kernel_rfl)
  have h8 := @run_callFunc_extern Tryz.prog 91 _ (ReflectliteValue.method (ReflectliteValue.valueError "reflectlite.Value.IsNil" 0) ReflectliteValue.isNil) Tryz.func91 (by kernel_rfl) (by kernel_rfl) (by kernel_rfl) (by kernel_rfl)
  have h27 := @run_callFunc_extern Tryz.prog 206 _ (ReflectliteType.abiMethod fun t => do pure (.int .u8 (← Rtype.kind t))) Tryz.func206 (by kernel_rfl) (by kernel_rfl) (by kernel_rfl) (by kernel_rfl)
  have h37 := @run_callFunc_extern Tryz.prog 222 _ (ReflectliteType.method ReflectliteType.elem) Tryz.func222 (by kernel_rfl) (by kernel_rfl) (by kernel_rfl) (by kernel_rfl)
  have h38 := @run_callFunc_extern Tryz.prog 223 _ (ReflectliteType.relation "Implements" ReflectliteType.implements_) Tryz.func223 (by kernel_rfl) (by kernel_rfl) (by kernel_rfl) (by kernel_rfl)
  have h10 := @run_callFunc_extern Tryz.prog 86 _ ReflectliteType.typeOf Tryz.func86 (by kernel_rfl) (by kernel_rfl) (by kernel_rfl) (by kernel_rfl)
  have h35 := @run_callFunc_extern Tryz.prog 220 _ (ReflectliteType.relation "AssignableTo" ReflectliteType.assignableTo) Tryz.func220 (by kernel_rfl) (by kernel_rfl) (by kernel_rfl) (by kernel_rfl)
  have h11 := @run_callFunc_extern Tryz.prog 134 _ (ReflectliteValue.method (ReflectliteValue.valueError "reflectlite.Value.Elem" 0) ReflectliteValue.elem) Tryz.func134 (by kernel_rfl) (by kernel_rfl) (by kernel_rfl) (by kernel_rfl)
  have h12 := @run_callFunc_extern Tryz.prog 135 _ ReflectliteValue.set Tryz.func135 (by kernel_rfl) (by kernel_rfl) (by kernel_rfl) (by kernel_rfl)
  have q5 := as_valueP
  have q6 := as_typeP
  have q7 := as_mKind
  have q8 := as_mElem
  have q9 := as_mImpl
  have q10 := as_kindP
  have q11 := as_kindE
  have q12 := as_elemP
  have q13 := as_implE
  have hgl : 0 < w.heap.size := block_lt_of_cell hg
  have htl : t.block < w.heap.size := block_lt_of_cell ht0
  have n8 := as_isNil ⟨w.heap.size, 0, none⟩ t ((w.alloc (.cells #[.pointer (some t)] 117)).alloc (.cells #[.pointer (some ⟨2, 117, none⟩), .pointer (some ⟨w.heap.size, 0, none⟩), .int .u64 150] 153)) (by simp)
  have hg2 : ((w.alloc (.cells #[.pointer (some t)] 117)).alloc (.cells #[.pointer (some ⟨2, 117, none⟩), .pointer (some ⟨w.heap.size, 0, none⟩), .int .u64 150] 153)).cell? ⟨0, 0, none⟩ = some (.iface 205 (.agg #[.pointer (some ⟨2, 79, none⟩)])) := by
    rw [World.cell?_alloc_lt _ _ ⟨0, 0, none⟩ (by first | (simp; done) | (simp; omega)), World.cell?_alloc_lt _ _ ⟨0, 0, none⟩ hgl]; exact hg
  have kk : Below w.heap.size w ((w.alloc (.cells #[.pointer (some t)] 117)).alloc (.cells #[.pointer (some ⟨2, 117, none⟩), .pointer (some ⟨w.heap.size, 0, none⟩), .int .u64 150] 153)) := ((Below.refl _ w).alloc (Nat.le_refl _) _).alloc (by simp) _
  have hrow : Hid (((w.alloc (.cells #[.pointer (some t)] 117)).alloc (.cells #[.pointer (some ⟨2, 117, none⟩), .pointer (some ⟨w.heap.size, 0, none⟩), .int .u64 150] 153)).heap[w.heap.size + 1]? = some (.cells #[.pointer (some ⟨2, 117, none⟩), .pointer (some ⟨w.heap.size, 0, none⟩), .int .u64 150] 153 (0, 0))) := by
    have := heap_alloc_new (w.alloc (.cells #[.pointer (some t)] 117)) (.cells #[.pointer (some ⟨2, 117, none⟩), .pointer (some ⟨w.heap.size, 0, none⟩), .int .u64 150] 153)
    show _ = _
    simpa using this
  have HA := hide (asIn_any hk v0 t w.heap.size old _ (hv.below kk) (by rw [World.cell?_alloc_lt _ _ ⟨w.heap.size, 0, none⟩ (by simp)]; simp) ((kk.cell (p := t) htl).trans ht0) ((kk.frozen (p := t) htl).trans hf0))
  have HK := hide kk
  clear kk hg ht0 hf0
  rcases hv with (⟨e, _⟩ | ⟨_, rfl⟩ | ⟨hk2, u, rfl⟩ | ⟨hk2, u, rfl⟩) | ⟨g, dg, why, rfl, -, -⟩
  · exact absurd e hk
  all_goals
    go_enter Tryz.func59, Tryz.ntmps59
    go_wp2_with (first
      | (go_at_call 92; refine HA.out.mono ?_; rintro e w3 ⟨rfl, w4, k4, hw3⟩; subst hw3; have HB := hide (HK.out.trans (k4.mono HK.out.size)); clear k4)
      | (refine wpList_load_row rfl 153 _ rfl _ rfl _ _ _ _ hrow.out Tryz.underlying153 rfl infoRV ?_))
    go_ret
    exact ⟨rfl, _, HB.out, by first | rfl | rw [hk2]⟩
end Go.Proofs.YtkbboddibgfjbaaGreatDoor
