/- Contract: what an operation makes of its thing: a thing goes to the trash. -/
import Derived.Test.YtknnamanbeckeaaMoveBecomes
namespace Go.Proofs.Ytknnamanbeckeaa
open Go.RowKit Go.Opn Go.Stamp Go.MapInt Go.Mov Go.Shelf
attribute [local go_sem] Oper.semAt_some
set_option maxHeartbeats 4000000 in
set_option maxRecDepth 100000 in
theorem becomes3 {b : Nat} {mb : Option Nat} {t : Ths} (e : En) (w : World) (h : ThsAt Try.prog 30 b mb t w) (hf : Fine t) (he : e.Fits) (hkd : e.op.kind = 3) :
    Calls Try.prog 43 #[.pointer (some ⟨b, 0, none⟩), (Sp.mk e (Mov.look t e.op.thing)).v] w fun r w' =>
      ∃ x : Th, r = .returned (.tuple #[x.v, .bool (now t.length t e.op).isSome]) ∧ (∀ y, now t.length t e.op = some y → x = y) ∧ Below w.heap.size w w' := by
  obtain ⟨⟨kd, ⟨tc, tk⟩, th, pa, nm, dr, dg, sz⟩, eh⟩ := e
  have hth : Num th := he.1.thing
  have hpa : Num pa := he.1.par
  clear he
  generalize hwas : Mov.look t th = was
  obtain ⟨⟨xi, xp, xn, xd, xg, xz⟩, hx⟩ : ∃ x, x = was.getD Th.zero := ⟨_, rfl⟩
  obtain ⟨N, hN⟩ : ∃ N, N = now t.length t (Ob.mk kd ⟨tc, tk⟩ th pa nm dr dg sz) := ⟨_, rfl⟩
  unfold Sp.v Sp.x
  dsimp only at hkd ⊢
  rw [← hx]
  dsimp only
  rw [← hN]
  have HT := hide h
  have HF := hide hf
  have HW := hide hwas
  have HX := hide hx
  have HN := hide hN
  clear h hf hwas hx hN
  subst hkd
  go_enter Try.func43, Try.ntmps43
  go_upto_region 1 with fail
  go_cut [6, 7] (fun v6 v7 wx => ∃ go gx, v6 = .pointer (some ⟨go, 0, none⟩) ∧ v7 = .pointer (some ⟨gx, 0, none⟩) ∧ Hid (Bc w w.heap.size (w.heap.size + 1) go gx #[.int .i64 3, .int .u64 tc, .int .i64 tk, .int .u64 th, .int .u64 pa, .string nm, .bool dr, .string dg, .int .i64 sz, .string eh, .int .u64 xi, .int .u64 xp, .string xn, .bool xd, .string xg, .int .i64 xz, .bool was.isSome] #[.int .u64 0, .int .u64 0, .string ⟨#[]⟩, .bool false, .string ⟨#[]⟩, .int .i64 0] #[.int .i64 3, .int .u64 tc, .int .i64 tk, .int .u64 th, .int .u64 pa, .string nm, .bool dr, .string dg, .int .i64 sz] #[.int .u64 xi, .int .u64 xp, .string xn, .bool xd, .string xg, .int .i64 xz] wx))
  case first =>
    go_region
    all_goals go_wp2
    · go_meet
      exact ⟨_, _, rfl, rfl, Bc.new1 w _ _ _ _⟩
    · go_meet
      exact ⟨_, _, rfl, rfl, Bc.new2 w _ _ _ _⟩
  case rest =>
    obtain ⟨go, gx, rfl, rfl, HB⟩ := hcut
    have o0 : wc.cell? ⟨go, 0, none⟩ = some (.int .i64 3) := HB.out.cO rfl
    have x1 : wc.cell? ⟨gx, 1, none⟩ = some (.int .u64 xp) := HB.out.cX rfl
    have f1 : wc.frozen? ⟨gx, 1, none⟩ = false := frozen_of_row _ _ _ _ _ HB.out.x
    go_upto_region 11 with fail
    replace HB := hide (HB.out.cellX 1 (.int .u64 1))
    simp only [List.setIfInBounds_toArray, List.set_cons_succ, List.set_cons_zero] at HB
    clear o0 x1 f1
    generalize wc.setCell ⟨gx, 1, none⟩ (.int .u64 1) = w5 at *
    have HE : Hid (N = was.map fun _ => ⟨xi, 1, xn, xd, xg, xz⟩) := by
      show _ = _
      rw [HN.out]; unfold now
      cases was with
      | none => simp [HW.out]
      | some y =>
        have HY : y = ⟨xi, xp, xn, xd, xg, xz⟩ := HX.out.symm
        simp [HW.out, HY]
    have ⟨⟨q0, q1, q2, q3, q4, q5⟩, ⟨g0, g1, g2, g3, g4, g5⟩⟩ := HB.out.cR
    have ⟨x0, x1, x2, x3, x4, x5⟩ := HB.out.cX6
    have s16 : w5.cell? ⟨w.heap.size, 16, none⟩ = some (.bool was.isSome) := HB.out.cS rfl
    have hne := HB.out.ne
    go_region
    all_goals go_wp2
    all_goals refine bodyPost_ret (Wire.results_cell2_row Try.results43 _ _ _ _ _ (0, 0) _ rfl (HB.out.set6 _ _ _ _ _ _).1 Try.underlying61 rfl infoTh) rfl ?_
    all_goals exact ⟨⟨xi, 1, xn, xd, xg, xz⟩, (by rw [HE.out]; cases was <;> rfl), (fun y hy => by rw [HE.out] at hy; cases was with | none => cases hy | some z => exact Option.some.inj hy), (HB.out.set6 _ _ _ _ _ _).2⟩
end Go.Proofs.Ytknnamanbeckeaa
