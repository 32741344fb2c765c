/- Several texts in one: ImageAlike, ImageFind, ImageRef, ImageRFind, OpRefEq, ImageEqFi, ImageList. -/
import Derived.Test.YtmnenamdjkjlaaaGreatDoorRunAR
import Derived.Test.YtmnenamdjkjlaaaGreatDoorWireMid
import Derived.Test.YtmnenamdjkjlaaaGreatDoorMoveBecomes
import Derived.Test.YtmnenamdjkjlaaaGreatDoorOpAll
import Derived.Test.YtmnenamdjkjlaaaGreatDoorFindA
/- Contract: whether two images are the same. -/
namespace Go.Img
open Go.RowKit
/-- The same but for numbers and sizes. -/
def alikeB (a b : Fi) : Bool := (a.path == b.path) && (a.dir == b.dir) && (a.dg.toList == b.dg.toList)
def sameB (l r : List Fi) : Bool := decide (l.length = r.length) && (l.zip r).all fun p => alikeB p.1 p.2
theorem sameB_no {l r : List Fi} {i : Nat} {f g : Fi} (hf : l[i]? = some f) (hg : r[i]? = some g) (h : alikeB f g = false) : sameB l r = false := by
  unfold sameB
  have : ((l.zip r).all fun p => alikeB p.1 p.2) = false := by
    rw [List.all_eq_false]
    exact ⟨(f, g), List.mem_iff_getElem?.2 ⟨i, List.getElem?_zip_eq_some.2 ⟨hf, hg⟩⟩, by rw [h]; decide⟩
  rw [this, Bool.and_false]
theorem sameB_yes {l r : List Fi} (hl : l.length = r.length) (h : ∀ (i : Nat) (f g : Fi), l[i]? = some f → r[i]? = some g → alikeB f g = true) : sameB l r = true := by
  unfold sameB
  rw [decide_eq_true hl, Bool.true_and, List.all_eq_true]
  rintro ⟨f, g⟩ hp
  obtain ⟨i, hi⟩ := List.mem_iff_getElem?.1 hp
  obtain ⟨h1, h2⟩ := List.getElem?_zip_eq_some.1 hi
  exact h i f g h1 h2
end Go.Img
namespace Go.Proofs.YtmnenamdjkjlaaaGreatDoor
open Go.RowKit Go.Img Go.Shelf Go.Rws
attribute [local go_sem] Oper.semAt_some
set_option maxRecDepth 100000 in
theorem infoFi5 : (Tryz.prog.info? 36).map (·.size) = some 5 := by kernel_rfl
set_option maxHeartbeats 4000000 in
set_option maxRecDepth 100000 in
theorem alike_any (a b : Fi) (w : World) : Calls Tryz.prog 39 #[.agg a.cs.toArray, .agg b.cs.toArray] w fun e w' => e = .returned (.bool (alikeB a b)) ∧ Below w.heap.size w w' := by
  obtain ⟨ap, ad, ai, ag, az⟩ := a
  obtain ⟨bp, bd, bi, bg, bz⟩ := b
  unfold alikeB Fi.cs
  dsimp only
  obtain ⟨A, hA⟩ : ∃ A : ByteArray, A = ⟨ap.toArray⟩ := ⟨_, rfl⟩
  obtain ⟨B, hB⟩ : ∃ B : ByteArray, B = ⟨bp.toArray⟩ := ⟨_, rfl⟩
  have hpp : (ap == bp) = (A.toList == B.toList) := by rw [hA, hB, ByteArray.toList_eq, ByteArray.toList_eq]
  rw [← hA, ← hB, hpp]
  clear hA hB hpp
  obtain ⟨p, hp⟩ : ∃ p, (A.toList == B.toList) = p := ⟨_, rfl⟩
  obtain ⟨q, hq⟩ : ∃ q, (ad == bd) = q := ⟨_, rfl⟩
  obtain ⟨r, hr⟩ : ∃ r, (ag.toList == bg.toList) = r := ⟨_, rfl⟩
  have HK := hide (((Below.refl _ w).alloc (Nat.le_refl _) (.cells #[.string A, .bool ad, .int .u64 ai, .string ag, .int .i64 az] 36)).alloc (by simp) (.cells #[.string B, .bool bd, .int .u64 bi, .string bg, .int .i64 bz] 36))
  go_enter Tryz.func39, Tryz.ntmps39
  rw [hp, hq, hr]
  cases p
  · go_wp2
    go_ret
    exact ⟨rfl, HK.out⟩
  · cases q
    · go_wp2
      go_ret
      exact ⟨rfl, HK.out⟩
    · cases r
      · go_wp2
        go_ret
        exact ⟨rfl, HK.out⟩
      · go_wp2
        go_ret
        exact ⟨rfl, HK.out⟩
end Go.Proofs.YtmnenamdjkjlaaaGreatDoor
/- Contract: the file with a path. -/
namespace Go.Img
def seek (l : List Fi) (s : List UInt8) : Option Fi := l.find? fun f => f.path == s
end Go.Img
namespace Go.Proofs.YtmnenamdjkjlaaaGreatDoor
open Go.RowKit Go.Img Go.Shelf Go.Rws
attribute [local go_sem] Oper.semAt_some
set_option maxHeartbeats 4000000 in
set_option maxRecDepth 100000 in
theorem find15_any (l : List Fi) (u : Value) (s : ByteArray) (w : World) (hl : RowsAt Fi.cs 5 w u l) (hn : l.length ≤ 100000) :
    Calls Tryz.prog 14 #[u, .string s] w fun e w' => e = .returned (.tuple #[.agg ((seek l s.toList).getD Fi.zero).cs.toArray, .bool (seek l s.toList).isSome]) ∧ Below w.heap.size w w' := by
  obtain ⟨ua, uc, rfl⟩ := hl.form
  obtain ⟨N, hN⟩ : ∃ N, N = l.length := ⟨_, rfl⟩
  rw [← hN] at hl hn
  rw [← hN]
  have HL := hide hl
  have HN := hide hN
  obtain ⟨R, hR⟩ : ∃ R, R = seek l s.toList := ⟨_, rfl⟩
  have HR := hide hR
  rw [← hR]
  clear hl hN hR
  go_enter Tryz.func14, Tryz.ntmps14
  go_wp2_with fail
  go_loopw [10] (fun v10 wr => ∃ i : Nat, v10 = .int .i64 i ∧ i ≤ N ∧ Hid ((∀ (j : Nat) (f : Fi), j < i → l[j]? = some f → (f.path == s.toList) = false) ∧ Below w.heap.size w wr ∧ wr.heap[w.heap.size]? = some (.cells Fi.zero.cs.toArray 36 (0, 0)))) (fun v10 _ => N - (intOf v10).toNat)
  case atStart => exact ⟨0, rfl, Nat.zero_le _, fun j f h => absurd h (Nat.not_lt_zero _), (Below.refl _ _).alloc (Nat.le_refl _) _, heap_alloc_new w _⟩
  case round =>
    obtain ⟨i, rfl, hi, HI⟩ := hrel
    have h0 : (0 : Int) ≤ i := by omega
    by_cases hil : i < N
    · obtain ⟨f, hf⟩ : ∃ f, l[i]? = some f := ⟨_, List.getElem?_eq_getElem (by rw [← HN.out]; exact hil)⟩
      obtain ⟨g1, o1, e1, q1, cx, l1, r1⟩ := (HL.out.below HI.out.2.1).at (fun e => by rw [e] at hf; cases hf)
      subst e1
      have hc1 : (N : Int) ≤ uc := by rw [q1]; omega
      have hiI : (i : Int) < N := by omega
      have HF := hide (And.intro (r1 i f hf) l1)
      have HFG := hide hf
      clear hf r1 l1 q1 cx
      obtain ⟨p, hp⟩ : ∃ p, (f.path == s.toList) = p := ⟨_, rfl⟩
      obtain ⟨A, hA⟩ : ∃ A : ByteArray, A = ⟨f.path.toArray⟩ := ⟨_, rfl⟩
      have hpp : (A.toList == s.toList) = p := by rw [← hp, hA, ByteArray.toList_eq]
      have HP := hide hp
      have hcs : f.cs = [.string A, .bool f.dir, .int .u64 f.id, .string f.dg, .int .i64 f.size] := by unfold Fi.cs; rw [hA]
      have hmid := HF.out.1
      rw [hcs] at hmid
      have HM := hide hmid
      have HCS := hide hcs
      clear hp hA hmid hcs
      cases p with
      | true =>
        have HRs : Hid (R = some f) := by
          show _ = _
          rw [HR.out]
          unfold seek
          rw [List.find?_eq_some_iff_getElem]
          refine ⟨HP.out, i, ?_, ?_, ?_⟩
          · exact (List.getElem?_eq_some_iff.1 HFG.out).1
          · exact (List.getElem?_eq_some_iff.1 HFG.out).2
          · intro j hj
            have := HI.out.1 j _ hj (List.getElem?_eq_getElem (by have := (List.getElem?_eq_some_iff.1 HFG.out).1; omega))
            simp [this]
        have hrow : ((wr.alloc (.cells ([.string A, .bool f.dir, .int .u64 f.id, .string f.dg, .int .i64 f.size] : List Value).toArray 36))).heap[w.heap.size]? = some (.cells Fi.zero.cs.toArray 36 (0, 0)) := (heap_alloc_old _ _ (Array.getElem?_eq_some_iff.1 HI.out.2.2).1).trans HI.out.2.2
        have hbel : Below w.heap.size w (wr.alloc (.cells ([.string A, .bool f.dir, .int .u64 f.id, .string f.dg, .int .i64 f.size] : List Value).toArray 36)) := HI.out.2.1.trans (((Below.refl _ _).alloc (Nat.le_refl _) _).mono HI.out.2.1.size)
        have HROW := hide (And.intro hrow hbel)
        unfold Fi.cs Fi.zero at hrow
        go_wp2_with (first
          | (refine wpList_load_mid rfl 36 _ rfl g1 (o1 + i * 5) rfl [.string A, .bool f.dir, .int .u64 f.id, .string f.dg, .int .i64 f.size] _ HM.out Tryz.underlying36 rfl infoFi5 ?_)
          | (refine wpList_store_row rfl 36 _ _ rfl _ _ rfl rfl 36 _ hrow infoFi5 rfl (by simp [Value.oneCell']) ?_))
        rw [HRs.out]
        simp only [Option.getD_some, HCS.out]
        refine bodyPost_ret (Wire.results_cell2_row Tryz.results14 _ _ _ _ _ (0, 0) _ rfl (setRow_heap _ _ _ _ _ _ hrow) Tryz.underlying36 rfl infoFi5) rfl ?_
        exact ⟨rfl, below_setRow HROW.out.2 (Nat.le_refl _) _⟩
      | false =>
        go_wp2_with (refine wpList_load_mid rfl 36 _ rfl g1 (o1 + i * 5) rfl [.string A, .bool f.dir, .int .u64 f.id, .string f.dg, .int .i64 f.size] _ HM.out Tryz.underlying36 rfl infoFi5 ?_)
        go_roundw
        case rel =>
          refine ⟨i + 1, by simp, by omega, fun j f' hj h1 => ?_, HI.out.2.1.trans (((Below.refl _ _).alloc (Nat.le_refl _) _).mono HI.out.2.1.size), ?_⟩
          · by_cases e : j = i
            · subst e
              rw [HFG.out] at h1
              cases h1
              exact HP.out
            · exact HI.out.1 j f' (by omega) h1
          · exact (heap_alloc_old _ _ (Array.getElem?_eq_some_iff.1 HI.out.2.2).1).trans HI.out.2.2
        case measure => simp [intOf]; omega
    · obtain rfl : i = N := by omega
      have hiI : ¬ (i : Int) < i := by omega
      have HRn : Hid (R = none) := by
        show _ = _
        rw [HR.out]
        unfold seek
        rw [List.find?_eq_none]
        intro x hx
        obtain ⟨j, hj⟩ := List.mem_iff_getElem?.1 hx
        rw [HI.out.1 j x (by rw [HN.out]; exact (List.getElem?_eq_some_iff.1 hj).1) hj]
        decide
      have hrow := HI.out.2.2
      unfold Fi.cs Fi.zero at hrow
      go_wp2_with (refine wpList_store_row rfl 36 _ _ rfl _ _ rfl rfl 36 _ hrow infoFi5 rfl (by simp [Value.oneCell']) ?_)
      rw [HRn.out]
      refine bodyPost_ret (Wire.results_cell2_row Tryz.results14 _ _ _ _ _ (0, 0) _ rfl (setRow_heap _ _ _ _ _ _ hrow) Tryz.underlying36 rfl infoFi5) rfl ?_
      exact ⟨rfl, below_setRow HI.out.2.1 (Nat.le_refl _) _⟩
end Go.Proofs.YtmnenamdjkjlaaaGreatDoor
/- Contract: a file as the document's. -/
namespace Go.Proofs.YtmnenamdjkjlaaaGreatDoor
open Go.RowKit Go.Img Go.Shelf Go.Rws
attribute [local go_sem] Oper.semAt_some
set_option maxRecDepth 100000 in
theorem infoRF : (Tryz.prog.info? 34).map (·.size) = some 5 := by kernel_rfl
set_option maxHeartbeats 4000000 in
set_option maxRecDepth 100000 in
theorem ref15_any (f : Fi) (w : World) : Calls Tryz.prog 10 #[.agg f.cs.toArray] w fun e w' => e = .returned (.agg f.cs.toArray) ∧ Below w.heap.size w w' := by
  obtain ⟨p, d, i, g, z⟩ := f
  unfold Fi.cs
  dsimp only
  have HK := hide ((Below.refl _ w).alloc (Nat.le_refl _) (.cells #[.string ⟨p.toArray⟩, .bool d, .int .u64 i, .string g, .int .i64 z] 36))
  go_enter Tryz.func10, Tryz.ntmps10
  go_wp2_with fail
  refine bodyPost_ret (results_cell_row Tryz.results10 _ _ _ _ _ (0, 0) _ rfl (new_at (by simp) _) Tryz.underlying34 rfl infoRF) rfl ?_
  exact ⟨rfl, HK.out.alloc (by simp) _⟩
end Go.Proofs.YtmnenamdjkjlaaaGreatDoor
/- Contract: where the file with a path stands, by the document. -/
namespace Go.Img
def spotF (l : List Fi) (s : List UInt8) : Int := match l.findIdx? fun f => f.path == s with | some i => (i : Int) | none => -1
end Go.Img
namespace Go.Proofs.YtmnenamdjkjlaaaGreatDoor
open Go.RowKit Go.Img Go.Shelf Go.Rws
attribute [local go_sem] Oper.semAt_some
set_option maxHeartbeats 4000000 in
set_option maxRecDepth 100000 in
theorem rfind15_any (l : List Fi) (u : Value) (s : ByteArray) (w : World) (hl : RowsAt Fi.cs 5 w u l) (hn : l.length ≤ 100000) :
    Calls Tryz.prog 13 #[u, .string s] w fun e w' => e = .returned (.int .i64 (spotF l s.toList)) ∧ w' = w := by
  obtain ⟨ua, uc, rfl⟩ := hl.form
  obtain ⟨N, hN⟩ : ∃ N, N = l.length := ⟨_, rfl⟩
  rw [← hN] at hl hn
  rw [← hN]
  have HL := hide hl
  have HN := hide hN
  obtain ⟨R, hR⟩ : ∃ R, R = spotF l s.toList := ⟨_, rfl⟩
  have HR := hide hR
  rw [← hR]
  clear hl hN hR
  go_enter Tryz.func13, Tryz.ntmps13
  go_wp2_with fail
  go_loopw [5] (fun v5 wr => ∃ i : Nat, v5 = .int .i64 i ∧ i ≤ N ∧ Hid ((∀ (j : Nat) (f : Fi), j < i → l[j]? = some f → (f.path == s.toList) = false) ∧ wr = w)) (fun v5 _ => N - (intOf v5).toNat)
  case atStart => exact ⟨0, rfl, Nat.zero_le _, fun j f h => absurd h (Nat.not_lt_zero _), rfl⟩
  case round =>
    obtain ⟨i, rfl, hi, HI⟩ := hrel
    have h0 : (0 : Int) ≤ i := by omega
    by_cases hil : i < N
    · obtain ⟨f, hf⟩ : ∃ f, l[i]? = some f := ⟨_, List.getElem?_eq_getElem (by rw [← HN.out]; exact hil)⟩
      have hl2 := HL.out
      rw [← HI.out.2] at hl2
      obtain ⟨g1, o1, e1, q1, cx, l1, r1⟩ := hl2.at (fun e => by rw [e] at hf; cases hf)
      subst e1
      have hc1 : (N : Int) ≤ uc := by rw [q1]; omega
      have hiI : (i : Int) < N := by omega
      have c0 := (cells5f (r1 i f hf)).1
      have HFG := hide hf
      clear hf r1 l1 q1 cx hl2
      obtain ⟨p, hp⟩ : ∃ p, (f.path == s.toList) = p := ⟨_, rfl⟩
      obtain ⟨A, hA⟩ : ∃ A : ByteArray, A = ⟨f.path.toArray⟩ := ⟨_, rfl⟩
      have hpp : (A.toList == s.toList) = p := by rw [← hp, hA, ByteArray.toList_eq]
      rw [← hA] at c0
      have HP := hide hp
      clear hp hA
      cases p with
      | true =>
        have HRs : Hid (R = (i : Int)) := by
          show _ = _
          rw [HR.out]
          unfold spotF
          have hlt := (List.getElem?_eq_some_iff.1 HFG.out).1
          have : l.findIdx? (fun f => f.path == s.toList) = some i := by
            rw [List.findIdx?_eq_some_iff_getElem]
            refine ⟨hlt, ?_, fun j hj => ?_⟩
            · rw [(List.getElem?_eq_some_iff.1 HFG.out).2]; exact HP.out
            · have := HI.out.1 j _ hj (List.getElem?_eq_getElem (by omega))
              simp [this]
          rw [this]
        go_wp2_with fail
        go_ret
        exact ⟨by rw [HRs.out]; rfl, HI.out.2⟩
      | false =>
        go_wp2_with fail
        go_roundw
        case rel =>
          refine ⟨i + 1, by simp, by omega, fun j f' hj h1 => ?_, HI.out.2⟩
          by_cases e : j = i
          · subst e
            rw [HFG.out] at h1
            cases h1
            exact HP.out
          · exact HI.out.1 j f' (by omega) h1
        case measure => simp [intOf]; omega
    · obtain rfl : i = N := by omega
      have hiI : ¬ (i : Int) < i := by omega
      have HRn : Hid (R = -1) := by
        show _ = _
        rw [HR.out]
        unfold spotF
        have : l.findIdx? (fun f => f.path == s.toList) = none := by
          rw [List.findIdx?_eq_none_iff]
          intro x hx
          obtain ⟨j, hj⟩ := List.mem_iff_getElem?.1 hx
          exact HI.out.1 j x (by rw [HN.out]; exact (List.getElem?_eq_some_iff.1 hj).1) hj
        rw [this]
      go_wp2_with fail
      go_ret
      exact ⟨by rw [HRn.out]; rfl, HI.out.2⟩
end Go.Proofs.YtmnenamdjkjlaaaGreatDoor
/- Operations of the document's own are compared. -/
namespace Go.Proofs.YtmnenamdjkjlaaaGreatDoor
open Go.RowKit Go.Wire Go.Stamp Go.Opn
theorem eq_rstamp (a b : Tm) (w : World) : (Op.equalIn 9999 56 (.agg #[.int .u64 a.c, .int .i64 a.k]) (.agg #[.int .u64 b.c, .int .i64 b.k])).run Tryz.prog w = .ok (a.c == b.c && (a.k == b.k && true)) w := by
  rw [run_equalIn_agg w 9998 56 _ _ (by unfold Program.fieldsOf; rw [Tryz.underlying56]) (by kernel_rfl)]
  unfold Program.fieldsOf
  rw [Tryz.underlying56]
  refine eq_step (x := .int .u64 a.c) (y := .int .u64 b.c) (by decide) (by go_simp) (by go_simp) (run_equalIn_int w _ _ _ _ _ _ Tryz.underlying31) ?_
  refine eq_step (x := .int .i64 a.k) (y := .int .i64 b.k) (by decide) (by go_simp) (by go_simp) (run_equalIn_int w _ _ _ _ _ _ Tryz.underlying3) ?_
  rfl
theorem eq_rop (a b : Ob) (w : World) : (Op.equalIn 10000 58 (.agg a.cs) (.agg b.cs)).run Tryz.prog w = .ok (a.eqb b) w := by
  rw [run_equalIn_agg w 9999 58 a.cs b.cs (by unfold Program.fieldsOf; rw [Tryz.underlying58]) (by kernel_rfl)]
  unfold Program.fieldsOf
  rw [Tryz.underlying58]
  refine eq_step (x := .int .i64 a.kind) (y := .int .i64 b.kind) (by decide) (by go_simp) (by go_simp) (run_equalIn_int w _ _ _ _ _ _ Tryz.underlying3) ?_
  refine eq_step (x := .agg #[.int .u64 a.tm.c, .int .i64 a.tm.k]) (y := .agg #[.int .u64 b.tm.c, .int .i64 b.tm.k]) (by decide) (by go_simp) (by go_simp) (eq_rstamp a.tm b.tm w) ?_
  refine eq_step (x := .int .u64 a.thing) (y := .int .u64 b.thing) (by decide) (by go_simp) (by go_simp) (run_equalIn_int w _ _ _ _ _ _ Tryz.underlying31) ?_
  refine eq_step (x := .int .u64 a.par) (y := .int .u64 b.par) (by decide) (by go_simp) (by go_simp) (run_equalIn_int w _ _ _ _ _ _ Tryz.underlying31) ?_
  refine eq_step (x := .string a.name) (y := .string b.name) (by decide) (by go_simp) (by go_simp) (run_equalIn_string w _ _ _ _ Tryz.underlying9) ?_
  refine eq_step (x := .bool a.dir) (y := .bool b.dir) (by decide) (by go_simp) (by go_simp) (run_equalIn_bool' w _ _ _ _ Tryz.underlying4) ?_
  refine eq_step (x := .string a.dg) (y := .string b.dg) (by decide) (by go_simp) (by go_simp) (run_equalIn_string w _ _ _ _ Tryz.underlying9) ?_
  refine eq_step (x := .int .i64 a.size) (y := .int .i64 b.size) (by decide) (by go_simp) (by go_simp) (run_equalIn_int w _ _ _ _ _ _ Tryz.underlying3) ?_
  rfl
theorem guardROp : Tryz.prog.eqGuardType Tryz.prog.depth 58 = false := by kernel_rfl
theorem eql_rop {o : Oper} {a : Act} {x y : Operand} {t : TypeId} (ho : o.op = .binOp .eql 58 x y t) (p q : Ob) (hx : a.eval x = .agg p.cs) (hy : a.eval y = .agg q.cs) (w : World) :
    (execOp a.eval o).run Tryz.prog w = .ok (.value (.bool (p.eqb q))) w := by
  unfold execOp
  rw [ho]
  simp only [hx, hy, Sem.run_bind, run_eqGuard_agg w .eql 58 x y p.cs q.cs guardROp, Result.andThen_ok, run_eql_struct, eq_rop]
  rfl
end Go.Proofs.YtmnenamdjkjlaaaGreatDoor
/- Files are compared, as the program has them and as the document has them. -/
namespace Go.Img
open Go.RowKit
def fiEq (a b : Fi) : Bool := (⟨a.path.toArray⟩ : ByteArray).toList == (⟨b.path.toArray⟩ : ByteArray).toList && (a.dir == b.dir && (a.id == b.id && (a.dg.toList == b.dg.toList && (a.size == b.size && true))))
theorem fiEq_self (a : Fi) : fiEq a a = true := by simp [fiEq]
end Go.Img
namespace Go.Proofs.YtmnenamdjkjlaaaGreatDoor
open Go.RowKit Go.Img Go.Wire Go.Stamp Go.Opn
theorem eq_fi (a b : Fi) (w : World) : (Op.equalIn 10000 36 (.agg a.cs.toArray) (.agg b.cs.toArray)).run Tryz.prog w = .ok (fiEq a b) w := by
  unfold Fi.cs
  rw [run_equalIn_agg w 9999 36 _ _ (by unfold Program.fieldsOf; rw [Tryz.underlying36]) (by kernel_rfl)]
  unfold Program.fieldsOf
  rw [Tryz.underlying36]
  refine eq_step (x := .string ⟨a.path.toArray⟩) (y := .string ⟨b.path.toArray⟩) (by decide) (by go_simp) (by go_simp) (run_equalIn_string w _ _ _ _ Tryz.underlying9) ?_
  refine eq_step (x := .bool a.dir) (y := .bool b.dir) (by decide) (by go_simp) (by go_simp) (run_equalIn_bool' w _ _ _ _ Tryz.underlying4) ?_
  refine eq_step (x := .int .u64 a.id) (y := .int .u64 b.id) (by decide) (by go_simp) (by go_simp) (run_equalIn_int w _ _ _ _ _ _ Tryz.underlying31) ?_
  refine eq_step (x := .string a.dg) (y := .string b.dg) (by decide) (by go_simp) (by go_simp) (run_equalIn_string w _ _ _ _ Tryz.underlying9) ?_
  refine eq_step (x := .int .i64 a.size) (y := .int .i64 b.size) (by decide) (by go_simp) (by go_simp) (run_equalIn_int w _ _ _ _ _ _ Tryz.underlying3) ?_
  rfl
theorem guardFi : Tryz.prog.eqGuardType Tryz.prog.depth 36 = false := by kernel_rfl
theorem neq_fi {o : Oper} {a : Act} {x y : Operand} {t : TypeId} (ho : o.op = .binOp .neq 36 x y t) (p : Fi) (hx : a.eval x = .agg p.cs.toArray) (hy : a.eval y = .agg p.cs.toArray) (w : World) :
    (execOp a.eval o).run Tryz.prog w = .ok (.value (.bool (!true))) w := by
  unfold execOp
  rw [ho]
  simp only [hx, hy, Sem.run_bind, run_eqGuard_agg w .neq 36 x y p.cs.toArray p.cs.toArray guardFi, Result.andThen_ok, run_neq_struct, eq_fi, fiEq_self]
  rfl
theorem eq_rfi (a b : Fi) (w : World) : (Op.equalIn 10000 34 (.agg a.cs.toArray) (.agg b.cs.toArray)).run Tryz.prog w = .ok (fiEq a b) w := by
  unfold Fi.cs
  rw [run_equalIn_agg w 9999 34 _ _ (by unfold Program.fieldsOf; rw [Tryz.underlying34]) (by kernel_rfl)]
  unfold Program.fieldsOf
  rw [Tryz.underlying34]
  refine eq_step (x := .string ⟨a.path.toArray⟩) (y := .string ⟨b.path.toArray⟩) (by decide) (by go_simp) (by go_simp) (run_equalIn_string w _ _ _ _ Tryz.underlying9) ?_
  refine eq_step (x := .bool a.dir) (y := .bool b.dir) (by decide) (by go_simp) (by go_simp) (run_equalIn_bool' w _ _ _ _ Tryz.underlying4) ?_
  refine eq_step (x := .int .u64 a.id) (y := .int .u64 b.id) (by decide) (by go_simp) (by go_simp) (run_equalIn_int w _ _ _ _ _ _ Tryz.underlying31) ?_
  refine eq_step (x := .string a.dg) (y := .string b.dg) (by decide) (by go_simp) (by go_simp) (run_equalIn_string w _ _ _ _ Tryz.underlying9) ?_
  refine eq_step (x := .int .i64 a.size) (y := .int .i64 b.size) (by decide) (by go_simp) (by go_simp) (run_equalIn_int w _ _ _ _ _ _ Tryz.underlying3) ?_
  rfl
theorem guardRFi : Tryz.prog.eqGuardType Tryz.prog.depth 34 = false := by kernel_rfl
theorem neq_rfi {o : Oper} {a : Act} {x y : Operand} {t : TypeId} (ho : o.op = .binOp .neq 34 x y t) (p : Fi) (hx : a.eval x = .agg p.cs.toArray) (hy : a.eval y = .agg p.cs.toArray) (w : World) :
    (execOp a.eval o).run Tryz.prog w = .ok (.value (.bool (!true))) w := by
  unfold execOp
  rw [ho]
  simp only [hx, hy, Sem.run_bind, run_eqGuard_agg w .neq 34 x y p.cs.toArray p.cs.toArray guardRFi, Result.andThen_ok, run_neq_struct, eq_rfi, fiEq_self]
  rfl
end Go.Proofs.YtmnenamdjkjlaaaGreatDoor
/- Contract: the names below a folder. -/
namespace Go.Img
def there (l : List Fi) (s : ByteArray) : Bool := decide (s.toList = []) || ((seek l s.toList).getD Fi.zero).dir
def lsF (l : List Fi) (s : ByteArray) : List (List UInt8) := if there l s then (namesIn l s).mergeSort (fun x y => decide (x ≤ y)) else []
theorem namesIn_snoc {l : List Fi} {i : Nat} {f : Fi} (h : l[i]? = some f) (s : ByteArray) : namesIn (l.take (i + 1)) s = namesIn (l.take i) s ++ (if inDir s f then [nmOf f] else []) := by
  unfold namesIn
  rw [List.take_add_one, h, Option.toList_some, List.filter_append, List.map_append]
  cases hd : inDir s f <;> simp [hd]
theorem nm_ba (s : ByteArray) : s = ⟨(s.data.toList).toArray⟩ := by simp
end Go.Img
namespace Go.Proofs.YtmnenamdjkjlaaaGreatDoor
open Go.RowKit Go.Img Go.Shelf Go.Rws
open Go.Names hiding seek
attribute [local go_sem] Oper.semAt_some
set_option maxHeartbeats 4000000 in
set_option maxRecDepth 100000 in
theorem list15_any (l : List Fi) (u : Value) (s : ByteArray) (w : World) (hl : RowsAt Fi.cs 5 w u l) (hn : l.length ≤ 900) (hp : ∀ f ∈ l, f.path.length ≤ 1000) :
    Calls Tryz.prog 15 #[u, .string s] w fun e w' => ∃ v, e = .returned (.tuple #[v, .bool (there l s)]) ∧ Ar w v (lsF l s) w' := by
  have HFI := hide (find15_any l u s w hl (by omega))
  obtain ⟨ua, uc, rfl⟩ := hl.form
  obtain ⟨N, hN⟩ : ∃ N, N = l.length := ⟨_, rfl⟩
  rw [← hN] at hl hn HFI
  rw [← hN]
  have HL := hide hl
  have HN := hide hN
  have HP := hide hp
  obtain ⟨R, hR⟩ : ∃ R, R = there l s := ⟨_, rfl⟩
  have HR := hide hR
  rw [← hR]
  have hR2 : R = (decide (s.toList = []) || ((seek l s.toList).getD Fi.zero).dir) := hR
  generalize (seek l s.toList).getD Fi.zero = F0 at HFI hR2
  generalize (seek l s.toList).isSome = B0 at HFI
  obtain ⟨p0, d0, i0, g0, z0⟩ := F0
  unfold Fi.cs at HFI
  dsimp only at HFI hR2
  clear hl hN hR hp
  go_enter Tryz.func15, Tryz.ntmps15
  go_upto_region 2 with (go_at_call 14; refine HFI.out.mono ?_; rintro r w1 ⟨rfl, k1⟩; have K1 := hide k1; clear k1 HFI)
  have HM : Hid (Below w.heap.size w (w1.alloc (.cells #[.string ⟨p0.toArray⟩, .bool d0, .int .u64 i0, .string g0, .int .i64 z0] 36))) := K1.out.alloc K1.out.size _
  obtain ⟨e, he⟩ : ∃ e, (s.toList == []) = e := ⟨_, rfl⟩
  have hed : decide (s.toList = []) = e := by rw [← he, Bool.eq_iff_iff]; simp
  rw [hed] at hR2
  have hAr0 : Ar w (.slice none 0 0) [] (w1.alloc (.cells #[.string ⟨p0.toArray⟩, .bool d0, .int .u64 i0, .string g0, .int .i64 z0] 36)) := ⟨⟨rfl, .inl ⟨rfl, rfl⟩⟩, HM.out⟩
  have HA0 := hide hAr0
  clear hAr0 hed
  have hLs : lsF l s = if R then (namesIn l s).mergeSort (fun x y => decide (x ≤ y)) else [] := by rw [HR.out]; rfl
  have HLS := hide hLs
  clear hLs
  have hc : (e = false ∧ d0 = false) ∨ (e = false ∧ d0 = true) ∨ e = true := by cases e <;> cases d0 <;> simp
  rcases hc with ⟨rfl, rfl⟩ | ⟨rfl, rfl⟩ | rfl
  · have hr : R = false := hR2
    subst hr
    have hls2 : lsF l s = [] := by rw [HLS.out, if_neg (by decide)]
    have HL2 := hide hls2
    clear hR2 HR HLS hls2
    go_wp2_with fail
    refine bodyPost_ret (results_tmp2 Tryz.results15 _ _ _) rfl ?_
    exact ⟨_, rfl, by rw [HL2.out]; exact HA0.out⟩
  all_goals
    have hr : R = true := by rw [hR2]; rfl
    subst hr
    have hls2 : lsF l s = (namesIn l s).mergeSort fun x y => decide (x ≤ y) := by rw [HLS.out, if_pos rfl]
    have HL2 := hide hls2
    clear hR2 HR HLS hls2
    go_wp2_with fail
    go_loopw [8, 28] (fun v8 v28 wr => ∃ (i n : Nat) (a : Option Addr) (c : Nat), v28 = .int .i64 i ∧ v8 = .slice a n c ∧ n = (namesIn (l.take i) s).length ∧ i ≤ N ∧ Hid (Ar w (.slice a n c) (namesIn (l.take i) s) wr)) (fun _ v28 _ => N - (intOf v28).toNat)
    case atStart => exact ⟨0, 0, none, 0, rfl, rfl, rfl, Nat.zero_le _, HA0.out⟩
    case round =>
      obtain ⟨i, n, a, c, rfl, rfl, hnl, hi, HI⟩ := hrel
      clear HA0
      have h0 : (0 : Int) ≤ i := by omega
      by_cases hil : i < N
      · obtain ⟨f, hf⟩ : ∃ f, l[i]? = some f := ⟨_, List.getElem?_eq_getElem (by rw [← HN.out]; exact hil)⟩
        obtain ⟨g1, o1, e1, q1, cx, l1, r1⟩ := (HL.out.below HI.out.below).at (fun e => by rw [e] at hf; cases hf)
        subst e1
        have hc1 : (N : Int) ≤ uc := by rw [q1]; omega
        have hiI : (i : Int) < N := by omega
        have hfs : (bsOf f).size ≤ 1000 := by rw [bsOf_size]; exact HP.out f (List.mem_of_getElem? hf)
        have HSp := hide (fun v => split_any (bsOf f) v hfs)
        have HNX := hide (namesIn_snoc hf s)
        have hnn : n ≤ 900 := by
          have h1 : (namesIn (l.take i) s).length ≤ (l.take i).length := by
            unfold namesIn
            rw [List.length_map]
            exact List.length_filter_le _ _
          rw [List.length_take] at h1
          omega
        have hcs : f.cs = [.string (bsOf f), .bool f.dir, .int .u64 f.id, .string f.dg, .int .i64 f.size] := rfl
        have hmid := r1 i f hf
        rw [hcs] at hmid
        have HMI := hide hmid
        obtain ⟨q, hq⟩ : ∃ q, q = inDir s f := ⟨_, rfl⟩
        obtain ⟨X, hX⟩ : ∃ X, X = (splitB (bsOf f)).1 := ⟨_, rfl⟩
        obtain ⟨Y, hY⟩ : ∃ Y, Y = (splitB (bsOf f)).2 := ⟨_, rfl⟩
        have hqX : (X.toList == s.toList) = q := by rw [hq, hX]; rfl
        have HYn : Hid (nmOf f = Y.data.toList) := by show _ = _; rw [hY]; rfl
        rw [← hX, ← hY] at HSp
        rw [← hq] at HNX
        have HNL := hide hnl
        generalize bsOf f = A at *
        clear hf r1 l1 q1 cx hmid hcs hq hX hY hfs hnl
        cases q with
        | true =>
          have hnx2 : namesIn (l.take (i + 1)) s = namesIn (l.take i) s ++ [nmOf f] := by rw [HNX.out, if_pos rfl]
          have HN2 := hide hnx2
          clear HNX hnx2
          go_wp2_with (first
            | (refine wpList_load_mid rfl 36 _ rfl g1 (o1 + i * 5) rfl [.string A, .bool f.dir, .int .u64 f.id, .string f.dg, .int .i64 f.size] _ HMI.out Tryz.underlying36 rfl infoFi5 ?_)
            | (go_at_call 34; refine (HSp.out _).mono ?_; rintro r w3 ⟨rfl, k3⟩; have H3 := hide ((HI.out.step ((Below.refl _ wr).alloc (Nat.le_refl _) _)).step k3); clear k3 HSp)
            | (at_builtin; refine H3.out.append Y.data.toList (by rw [← HNL.out]; omega) rfl _ _ rfl rfl rfl (by simp) ?_; intro a1 c1 w4 h4; have H4 := hide h4; clear h4))
          go_roundw
          case rel =>
            refine ⟨i + 1, _, a1, c1, by simp, rfl, ?_, by omega, ?_⟩
            · rw [HN2.out, List.length_append]; rfl
            · rw [HN2.out, HYn.out]
              exact H4.out
          case measure => simp [intOf]; omega
        | false =>
          have hnx2 : namesIn (l.take (i + 1)) s = namesIn (l.take i) s := by rw [HNX.out, if_neg (by decide), List.append_nil]
          have HN2 := hide hnx2
          clear HNX hnx2
          go_wp2_with (first
            | (refine wpList_load_mid rfl 36 _ rfl g1 (o1 + i * 5) rfl [.string A, .bool f.dir, .int .u64 f.id, .string f.dg, .int .i64 f.size] _ HMI.out Tryz.underlying36 rfl infoFi5 ?_)
            | (go_at_call 34; refine (HSp.out _).mono ?_; rintro r w3 ⟨rfl, k3⟩; have H3 := hide ((HI.out.step ((Below.refl _ wr).alloc (Nat.le_refl _) _)).step k3); clear k3 HSp))
          go_roundw
          case rel =>
            refine ⟨i + 1, _, a, c, by simp, rfl, ?_, by omega, ?_⟩
            · rw [HN2.out]; exact HNL.out
            · rw [HN2.out]
              exact H3.out
          case measure => simp [intOf]; omega
      · obtain rfl : i = N := by omega
        have hiI : ¬ (i : Int) < i := by omega
        have e1 : l.take i = l := by rw [HN.out, List.take_length]
        rw [e1] at HI hnl
        have HSo := hide (sortAr_any HI.out (by
          have h1 : (namesIn l s).length ≤ l.length := by
            unfold namesIn
            rw [List.length_map]
            exact List.length_filter_le _ _
          have := HN.out
          omega))
        clear hnl
        go_wp2_with (go_at_call 35; refine HSo.out.mono ?_; rintro r w5 ⟨rfl, h5⟩; have H5 := hide h5; clear h5 HSo)
        refine bodyPost_ret (results_tmp2 Tryz.results15 _ _ _) rfl ?_
        exact ⟨_, rfl, by rw [HL2.out]; exact H5.out⟩
end Go.Proofs.YtmnenamdjkjlaaaGreatDoor
