/- Contract: what an operation makes of its thing: a thing stands elsewhere. -/
import Derived.Test.YtknnamanbeckeaaMoveBecomes
namespace Go.Proofs.Ytknnamanbeckeaa
open Go.RowKit Go.Opn Go.Stamp Go.MapInt Go.Mov Go.Shelf
attribute [local go_sem] Oper.semAt_some
set_option maxHeartbeats 4000000 in
set_option maxRecDepth 100000 in
theorem becomes2 {b : Nat} {mb : Option Nat} {t : Ths} (e : En) (w : World) (h : ThsAt Try.prog 30 b mb t w) (hf : Fine t) (he : e.Fits) (hkd : e.op.kind = 2) :
    Calls Try.prog 43 #[.pointer (some ⟨b, 0, none⟩), (Sp.mk e (Mov.look t e.op.thing)).v] w fun r w' =>
      ∃ x : Th, r = .returned (.tuple #[x.v, .bool (now t.length t e.op).isSome]) ∧ (∀ y, now t.length t e.op = some y → x = y) ∧ Below w.heap.size w w' := by
  obtain ⟨⟨kd, ⟨tc, tk⟩, th, pa, nm, dr, dg, sz⟩, eh⟩ := e
  have hth : Num th := he.1.thing
  have hpa : Num pa := he.1.par
  clear he
  generalize hwas : Mov.look t th = was
  obtain ⟨⟨xi, xp, xn, xd, xg, xz⟩, hx⟩ : ∃ x, x = was.getD Th.zero := ⟨_, rfl⟩
  obtain ⟨N, hN⟩ : ∃ N, N = now t.length t (Ob.mk kd ⟨tc, tk⟩ th pa nm dr dg sz) := ⟨_, rfl⟩
  unfold Sp.v Sp.x
  dsimp only at hkd ⊢
  rw [← hx]
  dsimp only
  rw [← hN]
  have HT := hide h
  have HF := hide hf
  have HW := hide hwas
  have HX := hide hx
  have HN := hide hN
  clear h hf hwas hx hN
  subst hkd
  go_enter Try.func43, Try.ntmps43
  go_upto_region 1 with fail
  go_cut [6, 7] (fun v6 v7 wx => ∃ go gx, v6 = .pointer (some ⟨go, 0, none⟩) ∧ v7 = .pointer (some ⟨gx, 0, none⟩) ∧ Hid (Bc w w.heap.size (w.heap.size + 1) go gx #[.int .i64 2, .int .u64 tc, .int .i64 tk, .int .u64 th, .int .u64 pa, .string nm, .bool dr, .string dg, .int .i64 sz, .string eh, .int .u64 xi, .int .u64 xp, .string xn, .bool xd, .string xg, .int .i64 xz, .bool was.isSome] #[.int .u64 0, .int .u64 0, .string ⟨#[]⟩, .bool false, .string ⟨#[]⟩, .int .i64 0] #[.int .i64 2, .int .u64 tc, .int .i64 tk, .int .u64 th, .int .u64 pa, .string nm, .bool dr, .string dg, .int .i64 sz] #[.int .u64 xi, .int .u64 xp, .string xn, .bool xd, .string xg, .int .i64 xz] wx))
  case first =>
    go_region
    all_goals go_wp2
    · go_meet
      exact ⟨_, _, rfl, rfl, Bc.new1 w _ _ _ _⟩
    · go_meet
      exact ⟨_, _, rfl, rfl, Bc.new2 w _ _ _ _⟩
  case rest =>
    obtain ⟨go, gx, rfl, rfl, HB⟩ := hcut
    have o0 : wc.cell? ⟨go, 0, none⟩ = some (.int .i64 2) := HB.out.cO rfl
    have o4 : wc.cell? ⟨go, 4, none⟩ = some (.int .u64 pa) := HB.out.cO rfl
    have o5 : wc.cell? ⟨go, 5, none⟩ = some (.string nm) := HB.out.cO rfl
    have x1 : wc.cell? ⟨gx, 1, none⟩ = some (.int .u64 xp) := HB.out.cX rfl
    have x2 : wc.cell? ⟨gx, 2, none⟩ = some (.string xn) := HB.out.cX rfl
    have f1 : wc.frozen? ⟨gx, 1, none⟩ = false := frozen_of_row _ _ _ _ _ HB.out.x
    have f2 : wc.frozen? ⟨gx, 2, none⟩ = false := frozen_of_row _ _ _ _ _ HB.out.x
    go_upto_region 7 with fail
    go_cut [] (fun wx => Hid (Bc w w.heap.size (w.heap.size + 1) go gx #[.int .i64 2, .int .u64 tc, .int .i64 tk, .int .u64 th, .int .u64 pa, .string nm, .bool dr, .string dg, .int .i64 sz, .string eh, .int .u64 xi, .int .u64 xp, .string xn, .bool xd, .string xg, .int .i64 xz, .bool was.isSome] #[.int .u64 0, .int .u64 0, .string ⟨#[]⟩, .bool false, .string ⟨#[]⟩, .int .i64 0] #[.int .i64 2, .int .u64 tc, .int .i64 tk, .int .u64 th, .int .u64 pa, .string nm, .bool dr, .string dg, .int .i64 sz] #[.int .u64 xi, .int .u64 pa, .string nm, .bool xd, .string xg, .int .i64 xz] wx))
    case first =>
      go_region
      all_goals go_wp2
      all_goals go_meet
      all_goals first | exact (((HB.out.cellX 1 (.int .u64 pa)).cellX 2 (.string nm)).drew) | exact (((HB.out.cellX 2 (.string nm)).cellX 1 (.int .u64 pa)).drew)
    case rest =>
      clear HB o0 o4 o5 x1 x2 f1 f2
      have HB := hcut
      clear hcut
      generalize wc = w5 at *
      go_upto_region 8 with fail
      cases was with
      | none =>
        have HE : Hid (N = none) := by show _ = _; rw [HN.out]; unfold now; simp [HW.out]
        replace HB := hide (HB.out.drew)
        refine Held.region (fun v => ∃ R, Bc w w.heap.size (w.heap.size + 1) go gx #[.int .i64 2, .int .u64 tc, .int .i64 tk, .int .u64 th, .int .u64 pa, .string nm, .bool dr, .string dg, .int .i64 sz, .string eh, .int .u64 xi, .int .u64 xp, .string xn, .bool xd, .string xg, .int .i64 xz, .bool false] R #[.int .i64 2, .int .u64 tc, .int .i64 tk, .int .u64 th, .int .u64 pa, .string nm, .bool dr, .string dg, .int .i64 sz] #[.int .u64 xi, .int .u64 pa, .string nm, .bool xd, .string xg, .int .i64 xz] v) [true, true, true, true, true, true, true, false, true, true, true, true, true, true, true, false, true, true, false, true] (by kernel_rfl) (by kernel_rfl) rfl (fun d _ _ _ _ h => by cases d <;> exact h) ⟨_, HB.out⟩ ?_
        refine Held.load 61 _ rfl rfl gx rfl 61 _ (0, 0) _ (fun v hv => hv.elim fun R h => h.x) Try.underlying61 rfl infoTh ?_; simp only [Act.put, List.setIfInBounds_toArray, List.set_cons_succ, List.set_cons_zero]
        refine Held.take (.pointer (some ⟨w.heap.size, 16, none⟩)) rfl (fun _ _ => by kernel_rfl) ?_; simp only [Act.put, List.setIfInBounds_toArray, List.set_cons_succ, List.set_cons_zero]
        refine Held.take (.bool false) rfl (fun v hv => by obtain ⟨R, h⟩ := hv; have hc : v.cell? ⟨w.heap.size, 16, none⟩ = some (.bool false) := h.cS rfl; go_simp) ?_; simp only [Act.put, List.setIfInBounds_toArray, List.set_cons_succ, List.set_cons_zero]
        refine Held.take (.bool false) rfl (fun _ _ => by kernel_rfl) ?_; simp only [Act.put, List.setIfInBounds_toArray, List.set_cons_succ, List.set_cons_zero]
        refine Held.skip rfl ?_; simp only [Act.put, List.setIfInBounds_toArray, List.set_cons_succ, List.set_cons_zero]
        refine Held.skip rfl ?_; simp only [Act.put, List.setIfInBounds_toArray, List.set_cons_succ, List.set_cons_zero]
        refine Held.skip rfl ?_; simp only [Act.put, List.setIfInBounds_toArray, List.set_cons_succ, List.set_cons_zero]
        refine Held.skip' rfl ?_; simp only [Act.put, List.setIfInBounds_toArray, List.set_cons_succ, List.set_cons_zero]
        refine Held.take (.bool false) rfl (fun _ _ => by kernel_rfl) ?_; simp only [Act.put, List.setIfInBounds_toArray, List.set_cons_succ, List.set_cons_zero]
        refine Held.take (.bool false) rfl (fun _ _ => by kernel_rfl) ?_; simp only [Act.put, List.setIfInBounds_toArray, List.set_cons_succ, List.set_cons_zero]
        refine Held.skip rfl ?_; simp only [Act.put, List.setIfInBounds_toArray, List.set_cons_succ, List.set_cons_zero]
        refine Held.skip rfl ?_; simp only [Act.put, List.setIfInBounds_toArray, List.set_cons_succ, List.set_cons_zero]
        refine Held.skip rfl ?_; simp only [Act.put, List.setIfInBounds_toArray, List.set_cons_succ, List.set_cons_zero]
        refine Held.skip rfl ?_; simp only [Act.put, List.setIfInBounds_toArray, List.set_cons_succ, List.set_cons_zero]
        refine Held.skip rfl ?_; simp only [Act.put, List.setIfInBounds_toArray, List.set_cons_succ, List.set_cons_zero]
        refine Held.skip' rfl ?_; simp only [Act.put, List.setIfInBounds_toArray, List.set_cons_succ, List.set_cons_zero]
        refine Held.skip rfl ?_; simp only [Act.put, List.setIfInBounds_toArray, List.set_cons_succ, List.set_cons_zero]
        refine Held.take (.bool false) rfl (fun _ _ => by kernel_rfl) ?_; simp only [Act.put, List.setIfInBounds_toArray, List.set_cons_succ, List.set_cons_zero]
        refine Held.store 61 _ _ rfl rfl (w.heap.size + 1) _ rfl rfl 61 _ HB.out.r infoTh rfl (by simp [Value.oneCell']) ⟨⟨_, HB.out.storeR _⟩, ?_⟩; simp only [Act.put]
        refine Held.take _ rfl (fun _ _ => rfl) ?_; simp only [Act.put, List.setIfInBounds_toArray, List.set_cons_succ, List.set_cons_zero]
        show Exit.then _ _ _ _ _
        go_wp2_with fail
        refine bodyPost_ret (Wire.results_cell2_row Try.results43 _ _ _ _ _ (0, 0) _ rfl (HB.out.setR _).1 Try.underlying61 rfl infoTh) rfl ?_
        exact ⟨⟨xi, pa, nm, xd, xg, xz⟩, (by rw [HE.out]; rfl), (fun y hy => by rw [HE.out] at hy; cases hy), (HB.out.setR _).2⟩
      | some y =>
        have HY : Hid (y = ⟨xi, xp, xn, xd, xg, xz⟩) := HX.out.symm
        cases hfo : fold t pa with
        | false =>
          have HE : Hid (N = none) := by show _ = _; rw [HN.out]; unfold now; simp [HW.out, hfo]
          have hfo2 := hide hfo
          clear hfo
          replace HB := hide (HB.out.drew)
          refine Held.region (fun v => ∃ R, Bc w w.heap.size (w.heap.size + 1) go gx #[.int .i64 2, .int .u64 tc, .int .i64 tk, .int .u64 th, .int .u64 pa, .string nm, .bool dr, .string dg, .int .i64 sz, .string eh, .int .u64 xi, .int .u64 xp, .string xn, .bool xd, .string xg, .int .i64 xz, .bool true] R #[.int .i64 2, .int .u64 tc, .int .i64 tk, .int .u64 th, .int .u64 pa, .string nm, .bool dr, .string dg, .int .i64 sz] #[.int .u64 xi, .int .u64 pa, .string nm, .bool xd, .string xg, .int .i64 xz] v) [true, true, true, true, true, true, true, false, true, true, true, true, true, true, true, false, true, true, false, true] (by kernel_rfl) (by kernel_rfl) rfl (fun d _ _ _ _ h => by cases d <;> exact h) ⟨_, HB.out⟩ ?_
          refine Held.load 61 _ rfl rfl gx rfl 61 _ (0, 0) _ (fun v hv => hv.elim fun R h => h.x) Try.underlying61 rfl infoTh ?_; simp only [Act.put, List.setIfInBounds_toArray, List.set_cons_succ, List.set_cons_zero]
          refine Held.take (.pointer (some ⟨w.heap.size, 16, none⟩)) rfl (fun _ _ => by kernel_rfl) ?_; simp only [Act.put, List.setIfInBounds_toArray, List.set_cons_succ, List.set_cons_zero]
          refine Held.take (.bool true) rfl (fun v hv => by obtain ⟨R, h⟩ := hv; have hc : v.cell? ⟨w.heap.size, 16, none⟩ = some (.bool true) := h.cS rfl; go_simp) ?_; simp only [Act.put, List.setIfInBounds_toArray, List.set_cons_succ, List.set_cons_zero]
          refine Held.take (.bool true) rfl (fun _ _ => by kernel_rfl) ?_; simp only [Act.put, List.setIfInBounds_toArray, List.set_cons_succ, List.set_cons_zero]
          refine Held.take (.pointer (some ⟨b, 0, none⟩)) rfl (fun _ _ => by kernel_rfl) ?_; simp only [Act.put, List.setIfInBounds_toArray, List.set_cons_succ, List.set_cons_zero]
          refine Held.take (.pointer (some ⟨go, 4, none⟩)) rfl (fun _ _ => by kernel_rfl) ?_; simp only [Act.put, List.setIfInBounds_toArray, List.set_cons_succ, List.set_cons_zero]
          refine Held.take (.int .u64 pa) rfl (fun v hv => by obtain ⟨R, h⟩ := hv; have hc : v.cell? ⟨go, 4, none⟩ = some (.int .u64 pa) := h.cO rfl; go_simp) ?_; simp only [Act.put, List.setIfInBounds_toArray, List.set_cons_succ, List.set_cons_zero]
          refine Held.call 56 #[.pointer (some ⟨b, 0, none⟩), .int .u64 pa] (.bool false) (fun v => v = w5.drew) rfl (by go_simp) ((folder_any pa _ (HT.out.below HB.out.below) hpa).mono (by rintro e w2 ⟨h1, rfl⟩; exact ⟨by rw [h1, hfo2.out], rfl⟩)) ?_; rintro _ rfl; refine ⟨⟨_, HB.out⟩, ?_⟩; simp only [Act.put, List.setIfInBounds_toArray, List.set_cons_succ, List.set_cons_zero]
          refine Held.take (.bool false) rfl (fun _ _ => by kernel_rfl) ?_; simp only [Act.put, List.setIfInBounds_toArray, List.set_cons_succ, List.set_cons_zero]
          refine Held.take (.bool false) rfl (fun _ _ => by kernel_rfl) ?_; simp only [Act.put, List.setIfInBounds_toArray, List.set_cons_succ, List.set_cons_zero]
          refine Held.skip rfl ?_; simp only [Act.put, List.setIfInBounds_toArray, List.set_cons_succ, List.set_cons_zero]
          refine Held.skip rfl ?_; simp only [Act.put, List.setIfInBounds_toArray, List.set_cons_succ, List.set_cons_zero]
          refine Held.skip rfl ?_; simp only [Act.put, List.setIfInBounds_toArray, List.set_cons_succ, List.set_cons_zero]
          refine Held.skip rfl ?_; simp only [Act.put, List.setIfInBounds_toArray, List.set_cons_succ, List.set_cons_zero]
          refine Held.skip rfl ?_; simp only [Act.put, List.setIfInBounds_toArray, List.set_cons_succ, List.set_cons_zero]
          refine Held.skip' rfl ?_; simp only [Act.put, List.setIfInBounds_toArray, List.set_cons_succ, List.set_cons_zero]
          refine Held.skip rfl ?_; simp only [Act.put, List.setIfInBounds_toArray, List.set_cons_succ, List.set_cons_zero]
          refine Held.take (.bool false) rfl (fun _ _ => by kernel_rfl) ?_; simp only [Act.put, List.setIfInBounds_toArray, List.set_cons_succ, List.set_cons_zero]
          refine Held.store 61 _ _ rfl rfl (w.heap.size + 1) _ rfl rfl 61 _ HB.out.r infoTh rfl (by simp [Value.oneCell']) ⟨⟨_, HB.out.storeR _⟩, ?_⟩; simp only [Act.put]
          refine Held.take _ rfl (fun _ _ => rfl) ?_; simp only [Act.put, List.setIfInBounds_toArray, List.set_cons_succ, List.set_cons_zero]
          show Exit.then _ _ _ _ _
          go_wp2_with fail
          refine bodyPost_ret (Wire.results_cell2_row Try.results43 _ _ _ _ _ (0, 0) _ rfl (HB.out.setR _).1 Try.underlying61 rfl infoTh) rfl ?_
          exact ⟨⟨xi, pa, nm, xd, xg, xz⟩, (by rw [HE.out]; rfl), (fun y hy => by rw [HE.out] at hy; cases hy), (HB.out.setR _).2⟩
        | true =>
          have HE : Hid (N = if below t.length t pa th then none else some ⟨xi, pa, nm, xd, xg, xz⟩) := by show _ = _; rw [HN.out]; unfold now; simp [HW.out, hfo, HY.out]; cases below t.length t pa th <;> rfl
          have hfo2 := hide hfo
          clear hfo
          obtain ⟨be, hbe⟩ : ∃ be, be = below t.length t pa th := ⟨_, rfl⟩
          rw [← hbe] at HE
          have hbe2 := hide hbe
          clear hbe
          replace HB := hide (HB.out.drew)
          refine Held.region (fun v => ∃ R, Bc w w.heap.size (w.heap.size + 1) go gx #[.int .i64 2, .int .u64 tc, .int .i64 tk, .int .u64 th, .int .u64 pa, .string nm, .bool dr, .string dg, .int .i64 sz, .string eh, .int .u64 xi, .int .u64 xp, .string xn, .bool xd, .string xg, .int .i64 xz, .bool true] R #[.int .i64 2, .int .u64 tc, .int .i64 tk, .int .u64 th, .int .u64 pa, .string nm, .bool dr, .string dg, .int .i64 sz] #[.int .u64 xi, .int .u64 pa, .string nm, .bool xd, .string xg, .int .i64 xz] v) [true, true, true, true, true, true, true, false, true, true, true, true, true, true, true, false, true, true, false, true] (by kernel_rfl) (by kernel_rfl) rfl (fun d _ _ _ _ h => by cases d <;> exact h) ⟨_, HB.out⟩ ?_
          refine Held.load 61 _ rfl rfl gx rfl 61 _ (0, 0) _ (fun v hv => hv.elim fun R h => h.x) Try.underlying61 rfl infoTh ?_; simp only [Act.put, List.setIfInBounds_toArray, List.set_cons_succ, List.set_cons_zero]
          refine Held.take (.pointer (some ⟨w.heap.size, 16, none⟩)) rfl (fun _ _ => by kernel_rfl) ?_; simp only [Act.put, List.setIfInBounds_toArray, List.set_cons_succ, List.set_cons_zero]
          refine Held.take (.bool true) rfl (fun v hv => by obtain ⟨R, h⟩ := hv; have hc : v.cell? ⟨w.heap.size, 16, none⟩ = some (.bool true) := h.cS rfl; go_simp) ?_; simp only [Act.put, List.setIfInBounds_toArray, List.set_cons_succ, List.set_cons_zero]
          refine Held.take (.bool true) rfl (fun _ _ => by kernel_rfl) ?_; simp only [Act.put, List.setIfInBounds_toArray, List.set_cons_succ, List.set_cons_zero]
          refine Held.take (.pointer (some ⟨b, 0, none⟩)) rfl (fun _ _ => by kernel_rfl) ?_; simp only [Act.put, List.setIfInBounds_toArray, List.set_cons_succ, List.set_cons_zero]
          refine Held.take (.pointer (some ⟨go, 4, none⟩)) rfl (fun _ _ => by kernel_rfl) ?_; simp only [Act.put, List.setIfInBounds_toArray, List.set_cons_succ, List.set_cons_zero]
          refine Held.take (.int .u64 pa) rfl (fun v hv => by obtain ⟨R, h⟩ := hv; have hc : v.cell? ⟨go, 4, none⟩ = some (.int .u64 pa) := h.cO rfl; go_simp) ?_; simp only [Act.put, List.setIfInBounds_toArray, List.set_cons_succ, List.set_cons_zero]
          refine Held.call 56 #[.pointer (some ⟨b, 0, none⟩), .int .u64 pa] (.bool true) (fun v => v = w5.drew) rfl (by go_simp) ((folder_any pa _ (HT.out.below HB.out.below) hpa).mono (by rintro e w2 ⟨h1, rfl⟩; exact ⟨by rw [h1, hfo2.out], rfl⟩)) ?_; rintro _ rfl; refine ⟨⟨_, HB.out⟩, ?_⟩; simp only [Act.put, List.setIfInBounds_toArray, List.set_cons_succ, List.set_cons_zero]
          refine Held.take (.bool true) rfl (fun _ _ => by kernel_rfl) ?_; simp only [Act.put, List.setIfInBounds_toArray, List.set_cons_succ, List.set_cons_zero]
          refine Held.take (.bool true) rfl (fun _ _ => by kernel_rfl) ?_; simp only [Act.put, List.setIfInBounds_toArray, List.set_cons_succ, List.set_cons_zero]
          refine Held.take (.pointer (some ⟨b, 0, none⟩)) rfl (fun _ _ => by kernel_rfl) ?_; simp only [Act.put, List.setIfInBounds_toArray, List.set_cons_succ, List.set_cons_zero]
          refine Held.take (.pointer (some ⟨go, 4, none⟩)) rfl (fun _ _ => by kernel_rfl) ?_; simp only [Act.put, List.setIfInBounds_toArray, List.set_cons_succ, List.set_cons_zero]
          refine Held.take (.int .u64 pa) rfl (fun v hv => by obtain ⟨R, h⟩ := hv; have hc : v.cell? ⟨go, 4, none⟩ = some (.int .u64 pa) := h.cO rfl; go_simp) ?_; simp only [Act.put, List.setIfInBounds_toArray, List.set_cons_succ, List.set_cons_zero]
          refine Held.take (.pointer (some ⟨go, 3, none⟩)) rfl (fun _ _ => by kernel_rfl) ?_; simp only [Act.put, List.setIfInBounds_toArray, List.set_cons_succ, List.set_cons_zero]
          refine Held.take (.int .u64 th) rfl (fun v hv => by obtain ⟨R, h⟩ := hv; have hc : v.cell? ⟨go, 3, none⟩ = some (.int .u64 th) := h.cO rfl; go_simp) ?_; simp only [Act.put, List.setIfInBounds_toArray, List.set_cons_succ, List.set_cons_zero]
          refine Held.call 57 #[.pointer (some ⟨b, 0, none⟩), .int .u64 pa, .int .u64 th] (.bool be) (fun v => Below w5.drew.heap.size w5.drew v) rfl (by go_simp) ((below_any pa th _ (HT.out.below HB.out.below) HF.out hpa).mono (by rintro e w2 ⟨h1, k⟩; exact ⟨by rw [h1, ← hbe2.out], k⟩)) ?_; intro w2 kb; replace HB := hide (HB.out.step kb); refine ⟨⟨_, HB.out⟩, ?_⟩; simp only [Act.put, List.setIfInBounds_toArray, List.set_cons_succ, List.set_cons_zero]
          refine Held.take (.bool (!be)) rfl (fun _ _ => by kernel_rfl) ?_; simp only [Act.put, List.setIfInBounds_toArray, List.set_cons_succ, List.set_cons_zero]
          refine Held.take (.bool (!be)) rfl (fun _ _ => by kernel_rfl) ?_; simp only [Act.put, List.setIfInBounds_toArray, List.set_cons_succ, List.set_cons_zero]
          refine Held.store 61 _ _ rfl rfl (w.heap.size + 1) _ rfl rfl 61 _ HB.out.r infoTh rfl (by simp [Value.oneCell']) ⟨⟨_, HB.out.storeR _⟩, ?_⟩; simp only [Act.put]
          refine Held.take _ rfl (fun _ _ => rfl) ?_; simp only [Act.put, List.setIfInBounds_toArray, List.set_cons_succ, List.set_cons_zero]
          show Exit.then _ _ _ _ _
          go_wp2_with fail
          refine bodyPost_ret (Wire.results_cell2_row Try.results43 _ _ _ _ _ (0, 0) _ rfl (HB.out.setR _).1 Try.underlying61 rfl infoTh) rfl ?_
          exact ⟨⟨xi, pa, nm, xd, xg, xz⟩, (by rw [HE.out]; cases be <;> rfl), (fun y hy => by rw [HE.out] at hy; cases be with | false => exact Option.some.inj hy | true => cases hy), (HB.out.setR _).2⟩
end Go.Proofs.Ytknnamanbeckeaa
