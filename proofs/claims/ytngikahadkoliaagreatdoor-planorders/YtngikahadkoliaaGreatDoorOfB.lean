/- Several texts in one: ImageAlike, ImageFind, ImageRef, ImageRFind, OpRefEq, ImageEqFi. -/
import Derived.Test.YtngikahadkoliaaGreatDoorRunAQ
import Derived.Test.YtngikahadkoliaaGreatDoorWireMid
import Derived.Test.YtngikahadkoliaaGreatDoorMoveBecomes
import Derived.Test.YtngikahadkoliaaGreatDoorOpAll
/- Contract: whether two images are the same. -/
namespace Go.Img
open Go.RowKit
/-- The same but for numbers and sizes. -/
def alikeB (a b : Fi) : Bool := (a.path == b.path) && (a.dir == b.dir) && (a.dg.toList == b.dg.toList)
def sameB (l r : List Fi) : Bool := decide (l.length = r.length) && (l.zip r).all fun p => alikeB p.1 p.2
theorem sameB_no {l r : List Fi} {i : Nat} {f g : Fi} (hf : l[i]? = some f) (hg : r[i]? = some g) (h : alikeB f g = false) : sameB l r = false := by
  unfold sameB
  have : ((l.zip r).all fun p => alikeB p.1 p.2) = false := by
    rw [List.all_eq_false]
    exact ⟨(f, g), List.mem_iff_getElem?.2 ⟨i, List.getElem?_zip_eq_some.2 ⟨hf, hg⟩⟩, by rw [h]; decide⟩
  rw [this, Bool.and_false]
theorem sameB_yes {l r : List Fi} (hl : l.length = r.length) (h : ∀ (i : Nat) (f g : Fi), l[i]? = some f → r[i]? = some g → alikeB f g = true) : sameB l r = true := by
  unfold sameB
  rw [decide_eq_true hl, Bool.true_and, List.all_eq_true]
  rintro ⟨f, g⟩ hp
  obtain ⟨i, hi⟩ := List.mem_iff_getElem?.1 hp
  obtain ⟨h1, h2⟩ := List.getElem?_zip_eq_some.1 hi
  exact h i f g h1 h2
end Go.Img
namespace Go.Proofs.YtngikahadkoliaaGreatDoor
open Go.RowKit Go.Img Go.Shelf Go.Rws
attribute [local go_sem] Oper.semAt_some
set_option maxRecDepth 100000 in
theorem infoFi5 : (Tryz.prog.info? 51).map (·.size) = some 5 := by kernel_rfl
set_option maxHeartbeats 4000000 in
set_option maxRecDepth 100000 in
theorem alike_any (a b : Fi) (w : World) : Calls Tryz.prog 42 #[.agg a.cs.toArray, .agg b.cs.toArray] w fun e w' => e = .returned (.bool (alikeB a b)) ∧ Below w.heap.size w w' := by
  obtain ⟨ap, ad, ai, ag, az⟩ := a
  obtain ⟨bp, bd, bi, bg, bz⟩ := b
  unfold alikeB Fi.cs
  dsimp only
  obtain ⟨A, hA⟩ : ∃ A : ByteArray, A = ⟨ap.toArray⟩ := ⟨_, rfl⟩
  obtain ⟨B, hB⟩ : ∃ B : ByteArray, B = ⟨bp.toArray⟩ := ⟨_, rfl⟩
  have hpp : (ap == bp) = (A.toList == B.toList) := by rw [hA, hB, ByteArray.toList_eq, ByteArray.toList_eq]
  rw [← hA, ← hB, hpp]
  clear hA hB hpp
  obtain ⟨p, hp⟩ : ∃ p, (A.toList == B.toList) = p := ⟨_, rfl⟩
  obtain ⟨q, hq⟩ : ∃ q, (ad == bd) = q := ⟨_, rfl⟩
  obtain ⟨r, hr⟩ : ∃ r, (ag.toList == bg.toList) = r := ⟨_, rfl⟩
  have HK := hide (((Below.refl _ w).alloc (Nat.le_refl _) (.cells #[.string A, .bool ad, .int .u64 ai, .string ag, .int .i64 az] 51)).alloc (by simp) (.cells #[.string B, .bool bd, .int .u64 bi, .string bg, .int .i64 bz] 51))
  go_enter Tryz.func42, Tryz.ntmps42
  rw [hp, hq, hr]
  cases p
  · go_wp2
    go_ret
    exact ⟨rfl, HK.out⟩
  · cases q
    · go_wp2
      go_ret
      exact ⟨rfl, HK.out⟩
    · cases r
      · go_wp2
        go_ret
        exact ⟨rfl, HK.out⟩
      · go_wp2
        go_ret
        exact ⟨rfl, HK.out⟩
end Go.Proofs.YtngikahadkoliaaGreatDoor
/- Contract: the file with a path. -/
namespace Go.Img
def seek (l : List Fi) (s : List UInt8) : Option Fi := l.find? fun f => f.path == s
end Go.Img
namespace Go.Proofs.YtngikahadkoliaaGreatDoor
open Go.RowKit Go.Img Go.Shelf Go.Rws
attribute [local go_sem] Oper.semAt_some
end Go.Proofs.YtngikahadkoliaaGreatDoor
/- Contract: a file as the document's. -/
namespace Go.Proofs.YtngikahadkoliaaGreatDoor
open Go.RowKit Go.Img Go.Shelf Go.Rws
attribute [local go_sem] Oper.semAt_some
set_option maxRecDepth 100000 in
theorem infoRF : (Tryz.prog.info? 95).map (·.size) = some 5 := by kernel_rfl
end Go.Proofs.YtngikahadkoliaaGreatDoor
/- Contract: where the file with a path stands, by the document. -/
namespace Go.Img
def spotF (l : List Fi) (s : List UInt8) : Int := match l.findIdx? fun f => f.path == s with | some i => (i : Int) | none => -1
end Go.Img
namespace Go.Proofs.YtngikahadkoliaaGreatDoor
open Go.RowKit Go.Img Go.Shelf Go.Rws
attribute [local go_sem] Oper.semAt_some
set_option maxHeartbeats 4000000 in
set_option maxRecDepth 100000 in
theorem rfind15_any (l : List Fi) (u : Value) (s : ByteArray) (w : World) (hl : RowsAt Fi.cs 5 w u l) (hn : l.length ≤ 100000) :
    Calls Tryz.prog 32 #[u, .string s] w fun e w' => e = .returned (.int .i64 (spotF l s.toList)) ∧ w' = w := by
  obtain ⟨ua, uc, rfl⟩ := hl.form
  obtain ⟨N, hN⟩ : ∃ N, N = l.length := ⟨_, rfl⟩
  rw [← hN] at hl hn
  rw [← hN]
  have HL := hide hl
  have HN := hide hN
  obtain ⟨R, hR⟩ : ∃ R, R = spotF l s.toList := ⟨_, rfl⟩
  have HR := hide hR
  rw [← hR]
  clear hl hN hR
  go_enter Tryz.func32, Tryz.ntmps32
  go_wp2_with fail
  go_loopw [5] (fun v5 wr => ∃ i : Nat, v5 = .int .i64 i ∧ i ≤ N ∧ Hid ((∀ (j : Nat) (f : Fi), j < i → l[j]? = some f → (f.path == s.toList) = false) ∧ wr = w)) (fun v5 _ => N - (intOf v5).toNat)
  case atStart => exact ⟨0, rfl, Nat.zero_le _, fun j f h => absurd h (Nat.not_lt_zero _), rfl⟩
  case round =>
    obtain ⟨i, rfl, hi, HI⟩ := hrel
    have h0 : (0 : Int) ≤ i := by omega
    by_cases hil : i < N
    · obtain ⟨f, hf⟩ : ∃ f, l[i]? = some f := ⟨_, List.getElem?_eq_getElem (by rw [← HN.out]; exact hil)⟩
      have hl2 := HL.out
      rw [← HI.out.2] at hl2
      obtain ⟨g1, o1, e1, q1, cx, l1, r1⟩ := hl2.at (fun e => by rw [e] at hf; cases hf)
      subst e1
      have hc1 : (N : Int) ≤ uc := by rw [q1]; omega
      have hiI : (i : Int) < N := by omega
      have c0 := (cells5f (r1 i f hf)).1
      have HFG := hide hf
      clear hf r1 l1 q1 cx hl2
      obtain ⟨p, hp⟩ : ∃ p, (f.path == s.toList) = p := ⟨_, rfl⟩
      obtain ⟨A, hA⟩ : ∃ A : ByteArray, A = ⟨f.path.toArray⟩ := ⟨_, rfl⟩
      have hpp : (A.toList == s.toList) = p := by rw [← hp, hA, ByteArray.toList_eq]
      rw [← hA] at c0
      have HP := hide hp
      clear hp hA
      cases p with
      | true =>
        have HRs : Hid (R = (i : Int)) := by
          show _ = _
          rw [HR.out]
          unfold spotF
          have hlt := (List.getElem?_eq_some_iff.1 HFG.out).1
          have : l.findIdx? (fun f => f.path == s.toList) = some i := by
            rw [List.findIdx?_eq_some_iff_getElem]
            refine ⟨hlt, ?_, fun j hj => ?_⟩
            · rw [(List.getElem?_eq_some_iff.1 HFG.out).2]; exact HP.out
            · have := HI.out.1 j _ hj (List.getElem?_eq_getElem (by omega))
              simp [this]
          rw [this]
        go_wp2_with fail
        go_ret
        exact ⟨by rw [HRs.out]; rfl, HI.out.2⟩
      | false =>
        go_wp2_with fail
        go_roundw
        case rel =>
          refine ⟨i + 1, by simp, by omega, fun j f' hj h1 => ?_, HI.out.2⟩
          by_cases e : j = i
          · subst e
            rw [HFG.out] at h1
            cases h1
            exact HP.out
          · exact HI.out.1 j f' (by omega) h1
        case measure => simp [intOf]; omega
    · obtain rfl : i = N := by omega
      have hiI : ¬ (i : Int) < i := by omega
      have HRn : Hid (R = -1) := by
        show _ = _
        rw [HR.out]
        unfold spotF
        have : l.findIdx? (fun f => f.path == s.toList) = none := by
          rw [List.findIdx?_eq_none_iff]
          intro x hx
          obtain ⟨j, hj⟩ := List.mem_iff_getElem?.1 hx
          exact HI.out.1 j x (by rw [HN.out]; exact (List.getElem?_eq_some_iff.1 hj).1) hj
        rw [this]
      go_wp2_with fail
      go_ret
      exact ⟨by rw [HRn.out]; rfl, HI.out.2⟩
end Go.Proofs.YtngikahadkoliaaGreatDoor
/- Operations of the document's own are compared. -/
namespace Go.Proofs.YtngikahadkoliaaGreatDoor
open Go.RowKit Go.Wire Go.Stamp Go.Opn
theorem eq_rstamp (a b : Tm) (w : World) : (Op.equalIn 9999 55 (.agg #[.int .u64 a.c, .int .i64 a.k]) (.agg #[.int .u64 b.c, .int .i64 b.k])).run Tryz.prog w = .ok (a.c == b.c && (a.k == b.k && true)) w := by
  rw [run_equalIn_agg w 9998 55 _ _ (by unfold Program.fieldsOf; rw [Tryz.underlying55]) (by kernel_rfl)]
  unfold Program.fieldsOf
  rw [Tryz.underlying55]
  refine eq_step (x := .int .u64 a.c) (y := .int .u64 b.c) (by decide) (by go_simp) (by go_simp) (run_equalIn_int w _ _ _ _ _ _ Tryz.underlying49) ?_
  refine eq_step (x := .int .i64 a.k) (y := .int .i64 b.k) (by decide) (by go_simp) (by go_simp) (run_equalIn_int w _ _ _ _ _ _ Tryz.underlying3) ?_
  rfl
theorem eq_rop (a b : Ob) (w : World) : (Op.equalIn 10000 57 (.agg a.cs) (.agg b.cs)).run Tryz.prog w = .ok (a.eqb b) w := by
  rw [run_equalIn_agg w 9999 57 a.cs b.cs (by unfold Program.fieldsOf; rw [Tryz.underlying57]) (by kernel_rfl)]
  unfold Program.fieldsOf
  rw [Tryz.underlying57]
  refine eq_step (x := .int .i64 a.kind) (y := .int .i64 b.kind) (by decide) (by go_simp) (by go_simp) (run_equalIn_int w _ _ _ _ _ _ Tryz.underlying3) ?_
  refine eq_step (x := .agg #[.int .u64 a.tm.c, .int .i64 a.tm.k]) (y := .agg #[.int .u64 b.tm.c, .int .i64 b.tm.k]) (by decide) (by go_simp) (by go_simp) (eq_rstamp a.tm b.tm w) ?_
  refine eq_step (x := .int .u64 a.thing) (y := .int .u64 b.thing) (by decide) (by go_simp) (by go_simp) (run_equalIn_int w _ _ _ _ _ _ Tryz.underlying49) ?_
  refine eq_step (x := .int .u64 a.par) (y := .int .u64 b.par) (by decide) (by go_simp) (by go_simp) (run_equalIn_int w _ _ _ _ _ _ Tryz.underlying49) ?_
  refine eq_step (x := .string a.name) (y := .string b.name) (by decide) (by go_simp) (by go_simp) (run_equalIn_string w _ _ _ _ Tryz.underlying9) ?_
  refine eq_step (x := .bool a.dir) (y := .bool b.dir) (by decide) (by go_simp) (by go_simp) (run_equalIn_bool' w _ _ _ _ Tryz.underlying4) ?_
  refine eq_step (x := .string a.dg) (y := .string b.dg) (by decide) (by go_simp) (by go_simp) (run_equalIn_string w _ _ _ _ Tryz.underlying9) ?_
  refine eq_step (x := .int .i64 a.size) (y := .int .i64 b.size) (by decide) (by go_simp) (by go_simp) (run_equalIn_int w _ _ _ _ _ _ Tryz.underlying3) ?_
  rfl
theorem guardROp : Tryz.prog.eqGuardType Tryz.prog.depth 57 = false := by kernel_rfl
theorem eql_rop {o : Oper} {a : Act} {x y : Operand} {t : TypeId} (ho : o.op = .binOp .eql 57 x y t) (p q : Ob) (hx : a.eval x = .agg p.cs) (hy : a.eval y = .agg q.cs) (w : World) :
    (execOp a.eval o).run Tryz.prog w = .ok (.value (.bool (p.eqb q))) w := by
  unfold execOp
  rw [ho]
  simp only [hx, hy, Sem.run_bind, run_eqGuard_agg w .eql 57 x y p.cs q.cs guardROp, Result.andThen_ok, run_eql_struct, eq_rop]
  rfl
end Go.Proofs.YtngikahadkoliaaGreatDoor
/- Files are compared, as the program has them and as the document has them. -/
namespace Go.Img
open Go.RowKit
def fiEq (a b : Fi) : Bool := (⟨a.path.toArray⟩ : ByteArray).toList == (⟨b.path.toArray⟩ : ByteArray).toList && (a.dir == b.dir && (a.id == b.id && (a.dg.toList == b.dg.toList && (a.size == b.size && true))))
theorem fiEq_self (a : Fi) : fiEq a a = true := by simp [fiEq]
end Go.Img
namespace Go.Proofs.YtngikahadkoliaaGreatDoor
open Go.RowKit Go.Img Go.Wire Go.Stamp Go.Opn
theorem eq_fi (a b : Fi) (w : World) : (Op.equalIn 10000 51 (.agg a.cs.toArray) (.agg b.cs.toArray)).run Tryz.prog w = .ok (fiEq a b) w := by
  unfold Fi.cs
  rw [run_equalIn_agg w 9999 51 _ _ (by unfold Program.fieldsOf; rw [Tryz.underlying51]) (by kernel_rfl)]
  unfold Program.fieldsOf
  rw [Tryz.underlying51]
  refine eq_step (x := .string ⟨a.path.toArray⟩) (y := .string ⟨b.path.toArray⟩) (by decide) (by go_simp) (by go_simp) (run_equalIn_string w _ _ _ _ Tryz.underlying9) ?_
  refine eq_step (x := .bool a.dir) (y := .bool b.dir) (by decide) (by go_simp) (by go_simp) (run_equalIn_bool' w _ _ _ _ Tryz.underlying4) ?_
  refine eq_step (x := .int .u64 a.id) (y := .int .u64 b.id) (by decide) (by go_simp) (by go_simp) (run_equalIn_int w _ _ _ _ _ _ Tryz.underlying49) ?_
  refine eq_step (x := .string a.dg) (y := .string b.dg) (by decide) (by go_simp) (by go_simp) (run_equalIn_string w _ _ _ _ Tryz.underlying9) ?_
  refine eq_step (x := .int .i64 a.size) (y := .int .i64 b.size) (by decide) (by go_simp) (by go_simp) (run_equalIn_int w _ _ _ _ _ _ Tryz.underlying3) ?_
  rfl
theorem guardFi : Tryz.prog.eqGuardType Tryz.prog.depth 51 = false := by kernel_rfl
theorem neq_fi {o : Oper} {a : Act} {x y : Operand} {t : TypeId} (ho : o.op = .binOp .neq 51 x y t) (p : Fi) (hx : a.eval x = .agg p.cs.toArray) (hy : a.eval y = .agg p.cs.toArray) (w : World) :
    (execOp a.eval o).run Tryz.prog w = .ok (.value (.bool (!true))) w := by
  unfold execOp
  rw [ho]
  simp only [hx, hy, Sem.run_bind, run_eqGuard_agg w .neq 51 x y p.cs.toArray p.cs.toArray guardFi, Result.andThen_ok, run_neq_struct, eq_fi, fiEq_self]
  rfl
theorem eq_rfi (a b : Fi) (w : World) : (Op.equalIn 10000 95 (.agg a.cs.toArray) (.agg b.cs.toArray)).run Tryz.prog w = .ok (fiEq a b) w := by
  unfold Fi.cs
  rw [run_equalIn_agg w 9999 95 _ _ (by unfold Program.fieldsOf; rw [Tryz.underlying95]) (by kernel_rfl)]
  unfold Program.fieldsOf
  rw [Tryz.underlying95]
  refine eq_step (x := .string ⟨a.path.toArray⟩) (y := .string ⟨b.path.toArray⟩) (by decide) (by go_simp) (by go_simp) (run_equalIn_string w _ _ _ _ Tryz.underlying9) ?_
  refine eq_step (x := .bool a.dir) (y := .bool b.dir) (by decide) (by go_simp) (by go_simp) (run_equalIn_bool' w _ _ _ _ Tryz.underlying4) ?_
  refine eq_step (x := .int .u64 a.id) (y := .int .u64 b.id) (by decide) (by go_simp) (by go_simp) (run_equalIn_int w _ _ _ _ _ _ Tryz.underlying49) ?_
  refine eq_step (x := .string a.dg) (y := .string b.dg) (by decide) (by go_simp) (by go_simp) (run_equalIn_string w _ _ _ _ Tryz.underlying9) ?_
  refine eq_step (x := .int .i64 a.size) (y := .int .i64 b.size) (by decide) (by go_simp) (by go_simp) (run_equalIn_int w _ _ _ _ _ _ Tryz.underlying3) ?_
  rfl
theorem guardRFi : Tryz.prog.eqGuardType Tryz.prog.depth 95 = false := by kernel_rfl
theorem neq_rfi {o : Oper} {a : Act} {x y : Operand} {t : TypeId} (ho : o.op = .binOp .neq 95 x y t) (p : Fi) (hx : a.eval x = .agg p.cs.toArray) (hy : a.eval y = .agg p.cs.toArray) (w : World) :
    (execOp a.eval o).run Tryz.prog w = .ok (.value (.bool (!true))) w := by
  unfold execOp
  rw [ho]
  simp only [hx, hy, Sem.run_bind, run_eqGuard_agg w .neq 95 x y p.cs.toArray p.cs.toArray guardRFi, Result.andThen_ok, run_neq_struct, eq_rfi, fiEq_self]
  rfl
end Go.Proofs.YtngikahadkoliaaGreatDoor
