/- Contract: what an operation makes of its thing: nothing. -/
import Derived.Test.YtknnamanbeckeaaMoveBecomes
namespace Go.Proofs.Ytknnamanbeckeaa
open Go.RowKit Go.Opn Go.Stamp Go.MapInt Go.Mov Go.Shelf
attribute [local go_sem] Oper.semAt_some
set_option maxHeartbeats 4000000 in
set_option maxRecDepth 100000 in
theorem becomes0 {b : Nat} {mb : Option Nat} {t : Ths} (e : En) (w : World) (h : ThsAt Try.prog 30 b mb t w) (hf : Fine t) (he : e.Fits) (hkd : ¬ e.op.kind = 1 ∧ ¬ e.op.kind = 2 ∧ ¬ e.op.kind = 3 ∧ ¬ e.op.kind = 4) :
    Calls Try.prog 43 #[.pointer (some ⟨b, 0, none⟩), (Sp.mk e (Mov.look t e.op.thing)).v] w fun r w' =>
      ∃ x : Th, r = .returned (.tuple #[x.v, .bool (now t.length t e.op).isSome]) ∧ (∀ y, now t.length t e.op = some y → x = y) ∧ Below w.heap.size w w' := by
  obtain ⟨⟨kd, ⟨tc, tk⟩, th, pa, nm, dr, dg, sz⟩, eh⟩ := e
  have hth : Num th := he.1.thing
  have hpa : Num pa := he.1.par
  clear he
  generalize hwas : Mov.look t th = was
  obtain ⟨⟨xi, xp, xn, xd, xg, xz⟩, hx⟩ : ∃ x, x = was.getD Th.zero := ⟨_, rfl⟩
  obtain ⟨N, hN⟩ : ∃ N, N = now t.length t (Ob.mk kd ⟨tc, tk⟩ th pa nm dr dg sz) := ⟨_, rfl⟩
  unfold Sp.v Sp.x
  dsimp only at hkd ⊢
  rw [← hx]
  dsimp only
  rw [← hN]
  have HT := hide h
  have HF := hide hf
  have HW := hide hwas
  have HX := hide hx
  have HN := hide hN
  clear h hf hwas hx hN
  obtain ⟨n1, n2, n3, n4⟩ := hkd
  have m1 : (kd == 1) = false := by simpa using n1
  have m2 : (kd == 2) = false := by simpa using n2
  have m3 : (kd == 3) = false := by simpa using n3
  have m4 : (kd == 4) = false := by simpa using n4
  go_enter Try.func43, Try.ntmps43
  go_upto_region 1 with fail
  go_cut [6, 7] (fun v6 v7 wx => ∃ go gx, v6 = .pointer (some ⟨go, 0, none⟩) ∧ v7 = .pointer (some ⟨gx, 0, none⟩) ∧ Hid (Bc w w.heap.size (w.heap.size + 1) go gx #[.int .i64 kd, .int .u64 tc, .int .i64 tk, .int .u64 th, .int .u64 pa, .string nm, .bool dr, .string dg, .int .i64 sz, .string eh, .int .u64 xi, .int .u64 xp, .string xn, .bool xd, .string xg, .int .i64 xz, .bool was.isSome] #[.int .u64 0, .int .u64 0, .string ⟨#[]⟩, .bool false, .string ⟨#[]⟩, .int .i64 0] #[.int .i64 kd, .int .u64 tc, .int .i64 tk, .int .u64 th, .int .u64 pa, .string nm, .bool dr, .string dg, .int .i64 sz] #[.int .u64 xi, .int .u64 xp, .string xn, .bool xd, .string xg, .int .i64 xz] wx))
  case first =>
    go_region
    all_goals go_wp2
    · go_meet
      exact ⟨_, _, rfl, rfl, Bc.new1 w _ _ _ _⟩
    · go_meet
      exact ⟨_, _, rfl, rfl, Bc.new2 w _ _ _ _⟩
  case rest =>
    obtain ⟨go, gx, rfl, rfl, HB⟩ := hcut
    have HE : Hid (N = none) := by show _ = _; rw [HN.out]; unfold now; simp [n1, n2, n3, n4]
    have o0 : wc.cell? ⟨go, 0, none⟩ = some (.int .i64 kd) := HB.out.cO rfl
    go_wp2_with (first | (refine wpList_load_row rfl 61 _ rfl _ rfl _ _ _ _ HB.out.x Try.underlying61 rfl infoTh ?_) | (refine wpList_store_row rfl 61 _ _ rfl _ _ rfl rfl 61 _ HB.out.r infoTh rfl (by simp [Value.oneCell']) ?_))
    refine bodyPost_ret (Wire.results_cell2_row Try.results43 _ _ _ _ _ (0, 0) _ rfl (HB.out.setR _).1 Try.underlying61 rfl infoTh) rfl ?_
    exact ⟨⟨xi, xp, xn, xd, xg, xz⟩, (by rw [HE.out]; rfl), (fun y hy => by rw [HE.out] at hy; cases hy), (HB.out.setR _).2⟩
end Go.Proofs.Ytknnamanbeckeaa
