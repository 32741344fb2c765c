/- Contract: the number of a reason, which may be within others. -/
import Derived.Test.YtkbboddibgfjbaaGreatDoorDagAs
namespace Go.Proofs.YtkbboddibgfjbaaGreatDoor
open Go.RowKit Go.Sort Go.Nod Go.Extern.Stop Go.Stop Go.Extern
attribute [local go_sem] Oper.semAt_some
/-- A reason, or one with a node's digest around it. -/
def Rf (k : Int) (v : Value) (w : World) : Prop := Er k v ∨ ∃ g dg why, v = .iface 112 (.pointer (some ⟨g, 0, none⟩)) ∧ w.heap[g]? = some (.cells #[.string dg, why] 114 (0, 0)) ∧ Er k why
theorem Rf.below {k : Int} {v : Value} {w w' : World} (h : Rf k v w) (b : Below w.heap.size w w') : Rf k v w' := by
  rcases h with h | ⟨g, dg, why, h1, h2, h3⟩
  · exact .inl h
  · exact .inr ⟨g, dg, why, h1, (b.block _ (Array.getElem?_eq_some_iff.1 h2).1).trans h2, h3⟩
theorem unRefusal_any (g : Nat) (dg : ByteArray) (why : Value) (w : World) (h : w.heap[g]? = some (.cells #[.string dg, why] 114 (0, 0))) :
    Calls Tryz.prog 211 #[.pointer (some ⟨g, 0, none⟩)] w fun e w' => e = .returned why ∧ w' = w := by
  have c1 : w.cell? ⟨g, 1, none⟩ = some why := by rw [cell_of_row _ _ _ _ _ _ h]; rfl
  clear h
  go_enter Tryz.func211, Tryz.ntmps211
  go_wp2
  go_ret
  exact ⟨rfl, rfl⟩
/-- How many wraps are around a number. -/
def deep : Value → Nat
  | .iface t _ => if t = 112 then 2 else if t = 27 then 0 else 1
  | _ => 0
/-- While it is looked for a number: the block of the target's value. -/
structure Al (k : Int) (v : Value) (vb : Nat) (t : Addr) (old : Value) (w0 w : World) : Prop where
  rf : Rf k v w
  row : w.heap[w0.heap.size]? = some (.cells #[.pointer (some ⟨2, 117, none⟩), .pointer (some ⟨vb, 0, none⟩), .int .u64 150] 153 (0, 0))
  below : Below w0.heap.size w0 w
theorem Er.eql {k : Int} {v : Value} (h : Er k v) (hk : k ≠ 0) (w : World) : (binOp .eql 79 v .nilIface).run Tryz.prog w = .ok (.bool false) w := by
  rcases h with ⟨e, _⟩ | ⟨_, rfl⟩ | ⟨_, u, rfl⟩ | ⟨_, u, rfl⟩
  · exact absurd e hk
  · kernel_rfl
  · kernel_rfl
  · kernel_rfl
theorem infoRV : (Tryz.prog.info? 153).map (·.size) = some 3 := by kernel_rfl
set_option maxRecDepth 100000 in
set_option maxHeartbeats 8000000 in
theorem asIn_any {k : Int} (hk : k ≠ 0) (v0 : Value) (t : Addr) (vb : Nat) (old : Value) (w : World) (hv : Rf k v0 w) (hvb : w.cell? ⟨vb, 0, none⟩ = some (.pointer (some t))) (ht0 : w.cell? t = some old) (hf0 : w.frozen? t = false) :
    Calls Tryz.prog 92 #[v0, .iface 117 (.pointer (some t)), .agg #[.pointer (some ⟨2, 117, none⟩), .pointer (some ⟨vb, 0, none⟩), .int .u64 150], .iface 205 (.agg #[.pointer (some ⟨2, 27, none⟩)])] w fun e w' => e = .returned (.bool true) ∧ ∃ w1, Below w.heap.size w w1 ∧ w' = w1.setCell t (.int .i64 k) := by
  have h6 := @run_callFunc_extern Tryz.prog 89 _ (fun args => ReflectliteValue.unpack (args.getD 0 (.tuple #[]))) Tryz.func89 (by kernel_rfl) (by kernel_rfl) (by kernel_rfl) (by kernel_rfl)
  have h7 := @run_callFunc_extern Tryz.prog 90 _ (ReflectliteValue.methodAny (ReflectliteValue.valueError "reflectlite.Value.Type" 0) (fun t _ _ _ => ReflectliteType.toType t)) Tryz.func90 (by kernel_rfl) (by kernel_rfl) (by kernel_rfl) (by kernel_rfl)
  have h8 := @run_callFunc_extern Tryz.prog 91 _ (ReflectliteValue.method (ReflectliteValue.valueError "reflectlite.Value.IsNil" 0) ReflectliteValue.isNil) Tryz.func91 (by kernel_rfl) (by kernel_rfl) (by kernel_rfl) (by kernel_rfl)
  have h27 := @run_callFunc_extern Tryz.prog 206 _ (ReflectliteType.abiMethod fun t => do pure (.int .u8 (← Rtype.kind t))) Tryz.func206 (by kernel_rfl) (by kernel_rfl) (by kernel_rfl) (by kernel_rfl)
  have h37 := @run_callFunc_extern Tryz.prog 222 _ (ReflectliteType.method ReflectliteType.elem) Tryz.func222 (by kernel_rfl) (by kernel_rfl) (by kernel_rfl) (by kernel_rfl)
  have h38 := @run_callFunc_extern Tryz.prog 223 _ (ReflectliteType.relation "Implements" ReflectliteType.implements_) Tryz.func223 (by kernel_rfl) (by kernel_rfl) (by kernel_rfl) (by kernel_rfl)
  have h10 := @run_callFunc_extern Tryz.prog 86 _ ReflectliteType.typeOf Tryz.func86 (by kernel_rfl) (by kernel_rfl) (by kernel_rfl) (by kernel_rfl)
  have h35 := @run_callFunc_extern Tryz.prog 220 _ (ReflectliteType.relation "AssignableTo" ReflectliteType.assignableTo) Tryz.func220 (by kernel_rfl) (by kernel_rfl) (by kernel_rfl) (by kernel_rfl)
  have h11 := @run_callFunc_extern Tryz.prog 134 _ (ReflectliteValue.method (ReflectliteValue.valueError "reflectlite.Value.Elem" 0) ReflectliteValue.elem) Tryz.func134 (by kernel_rfl) (by kernel_rfl) (by kernel_rfl) (by kernel_rfl)
  have h12 := @run_callFunc_extern Tryz.prog 135 _ ReflectliteValue.set Tryz.func135 (by kernel_rfl) (by kernel_rfl) (by kernel_rfl) (by kernel_rfl)
  have q1 := as_typeE
  have q2 := as_mAssn
  have q3 := as_assnE
  have q4 := as_valueE
  have htl : t.block < w.heap.size := block_lt_of_cell ht0
  have hvl : vb < w.heap.size := block_lt_of_cell hvb
  have A0 : Hid (Al k v0 vb t old w (w.alloc (.cells #[.pointer (some ⟨2, 117, none⟩), .pointer (some ⟨vb, 0, none⟩), .int .u64 150] 153))) := ⟨hv.below ((Below.refl _ w).alloc (Nat.le_refl _) _), heap_alloc_new _ _, (Below.refl _ w).alloc (Nat.le_refl _) _⟩
  have HX := hide (And.intro hvb (And.intro ht0 hf0))
  clear hv hvb ht0 hf0 h7 h8 h27 h37 h38
  go_enter Tryz.func92, Tryz.ntmps92
  go_wp2_with fail
  go_loopw [0] (fun v wr => Hid (Al k v vb t old w wr)) (fun v _ => deep v)
  case atStart => exact A0.out
  case round =>
    have A : Hid (Al k _ vb t old w wr) := hrel
    clear hrel A0
    have hc1 : wr.cell? ⟨vb, 0, none⟩ = some (.pointer (some t)) := (A.out.below.cell (p := ⟨vb, 0, none⟩) hvl).trans HX.out.1
    have hc2 : wr.cell? t = some old := (A.out.below.cell (p := t) htl).trans HX.out.2.1
    have hf2 : wr.frozen? t = false := (A.out.below.frozen (p := t) htl).trans HX.out.2.2
    have hwl := A.out.below.size
    have U := A.out.rf
    rcases U with (⟨e, _⟩ | ⟨_, rfl⟩ | ⟨hk2, u, rfl⟩ | ⟨hk2, u, rfl⟩) | ⟨g, dg, why, rfl, hrow, hwhy⟩
    · exact absurd e hk
    · have hbw : Below w.heap.size w (wr.alloc (.cells #[.int .i64 k] 27)) := A.out.below.alloc A.out.below.size _
      have el := as_elemV ⟨vb, 0, none⟩ t wr hc1
      have st := as_set t ⟨wr.heap.size, 0, none⟩ k old (wr.alloc (.cells #[.int .i64 k] 27)) (by rw [World.cell?_alloc_at _ _ _ _ (by simp)]; rfl) ((World.cell?_alloc_lt _ _ t (by omega)).trans hc2) ((World.frozen?_alloc_old _ _ t (by omega)).trans hf2)
      have HB := hide hbw
      clear hbw
      go_wp2_with (refine wpList_load_row rfl 153 _ rfl _ rfl _ _ _ _ A.out.row Tryz.underlying153 rfl infoRV ?_)
      go_ret
      exact ⟨rfl, _, HB.out, rfl⟩
    · have qt := as_typeK 181 (by simp) (u)
      have qa := as_assnK 181 (by simp)
      have nA := noAs 181 (by simp)
      have hU := hasUnwrap 181 (by simp)
      have mU := erUnLate
      subst hk2
      have hNil := Er.eql (k := 122) (v := .iface 27 (.int .i64 122)) (.inr (.inl ⟨by decide, rfl⟩)) (by decide)
      have HN : Hid (Er 122 (.iface 27 (.int .i64 122))) := .inr (.inl ⟨by decide, rfl⟩)
      have HDp : Hid (deep (.iface 27 (.int .i64 122)) < deep (.iface 181 u)) := (by decide : 0 < 1)
      clear q1 q3 q4 h6 h11 h12 hc1 hc2 hf2
      go_wp2_with (go_at_call 218; refine (unLate_any u wr).mono ?_; rintro e w1 ⟨rfl, hw1⟩; subst hw1)
      go_roundw
      case rel => exact ⟨.inl (HN.out), A.out.row, A.out.below⟩
      case measure => exact HDp.out
    · have qt := as_typeK 133 (by simp) (u)
      have qa := as_assnK 133 (by simp)
      have nA := noAs 133 (by simp)
      have hU := hasUnwrap 133 (by simp)
      have mU := erUnLack
      subst hk2
      have hNil := Er.eql (k := 123) (v := .iface 27 (.int .i64 123)) (.inr (.inl ⟨by decide, rfl⟩)) (by decide)
      have HN : Hid (Er 123 (.iface 27 (.int .i64 123))) := .inr (.inl ⟨by decide, rfl⟩)
      have HDp : Hid (deep (.iface 27 (.int .i64 123)) < deep (.iface 133 u)) := (by decide : 0 < 1)
      clear q1 q3 q4 h6 h11 h12 hc1 hc2 hf2
      go_wp2_with (go_at_call 213; refine (unLack_any u wr).mono ?_; rintro e w1 ⟨rfl, hw1⟩; subst hw1)
      go_roundw
      case rel => exact ⟨.inl (HN.out), A.out.row, A.out.below⟩
      case measure => exact HDp.out
    · rcases hwhy with ⟨e, _⟩ | ⟨_, rfl⟩ | ⟨hk2, u, rfl⟩ | ⟨hk2, u, rfl⟩
      · exact absurd e hk
      · have qt := as_typeK 112 (by simp) (.pointer (some ⟨g, 0, none⟩))
        have qa := as_assnK 112 (by simp)
        have nA := noAs 112 (by simp)
        have hU := hasUnwrap 112 (by simp)
        have mU := erUnRefusal
        have HUR := hide (unRefusal_any g dg _ wr hrow)
        have HN : Hid (Er k (.iface 27 (.int .i64 k))) := .inr (.inl ⟨hk, rfl⟩)
        have hNil := Er.eql HN.out hk
        have HDp : Hid (deep (.iface 27 (.int .i64 k)) < deep (.iface 112 (.pointer (some ⟨g, 0, none⟩)))) := (by decide : 0 < 2)
        clear hrow
        clear q1 q3 q4 h6 h11 h12 hc1 hc2 hf2
        go_wp2_with (go_at_call 211; refine (HUR.out).mono ?_; rintro e w1 ⟨rfl, hw1⟩; subst hw1)
        go_roundw
        case rel => exact ⟨.inl HN.out, A.out.row, A.out.below⟩
        case measure => exact HDp.out
      · have qt := as_typeK 112 (by simp) (.pointer (some ⟨g, 0, none⟩))
        have qa := as_assnK 112 (by simp)
        have nA := noAs 112 (by simp)
        have hU := hasUnwrap 112 (by simp)
        have mU := erUnRefusal
        have HUR := hide (unRefusal_any g dg _ wr hrow)
        have HN : Hid (Er k (.iface 181 u)) := .inr (.inr (.inl ⟨hk2, u, rfl⟩))
        have hNil := Er.eql HN.out hk
        have HDp : Hid (deep (.iface 181 u) < deep (.iface 112 (.pointer (some ⟨g, 0, none⟩)))) := (by decide : 1 < 2)
        clear hrow
        clear q1 q3 q4 h6 h11 h12 hc1 hc2 hf2
        go_wp2_with (go_at_call 211; refine (HUR.out).mono ?_; rintro e w1 ⟨rfl, hw1⟩; subst hw1)
        go_roundw
        case rel => exact ⟨.inl HN.out, A.out.row, A.out.below⟩
        case measure => exact HDp.out
      · have qt := as_typeK 112 (by simp) (.pointer (some ⟨g, 0, none⟩))
        have qa := as_assnK 112 (by simp)
        have nA := noAs 112 (by simp)
        have hU := hasUnwrap 112 (by simp)
        have mU := erUnRefusal
        have HUR := hide (unRefusal_any g dg _ wr hrow)
        have HN : Hid (Er k (.iface 133 u)) := .inr (.inr (.inr ⟨hk2, u, rfl⟩))
        have hNil := Er.eql HN.out hk
        have HDp : Hid (deep (.iface 133 u) < deep (.iface 112 (.pointer (some ⟨g, 0, none⟩)))) := (by decide : 1 < 2)
        clear hrow
        clear q1 q3 q4 h6 h11 h12 hc1 hc2 hf2
        go_wp2_with (go_at_call 211; refine (HUR.out).mono ?_; rintro e w1 ⟨rfl, hw1⟩; subst hw1)
        go_roundw
        case rel => exact ⟨.inl HN.out, A.out.row, A.out.below⟩
        case measure => exact HDp.out
end Go.Proofs.YtkbboddibgfjbaaGreatDoor
