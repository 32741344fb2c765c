/- Several texts in one: MoveBecome0, MoveBecome1, MoveBecome2, MoveBecome3, MoveBecome4, MoveBecome. -/
import Derived.Test.YtnbhchdaobimmaaGreatDoorMoveBecomes
/- Contract: what an operation makes of its thing: nothing. -/
namespace Go.Proofs.YtnbhchdaobimmaaGreatDoor
open Go.RowKit Go.Opn Go.Stamp Go.MapInt Go.Mov Go.Shelf
attribute [local go_sem] Oper.semAt_some
set_option maxHeartbeats 4000000 in
set_option maxRecDepth 100000 in
theorem becomes0 {b : Nat} {mb : Option Nat} {t : Ths} (e : En) (w : World) (h : ThsAt Tryz.prog 49 b mb t w) (hf : Fine t) (he : e.Fits) (hkd : ¬ e.op.kind = 1 ∧ ¬ e.op.kind = 2 ∧ ¬ e.op.kind = 3 ∧ ¬ e.op.kind = 4) :
  Calls Tryz.prog 78 #[.pointer (some ⟨b, 0, none⟩), (Sp.mk e (Mov.look t e.op.thing)).v] w fun r w' =>
   ∃ x : Th, r = .returned (.tuple #[x.v, .bool (now t.length t e.op).isSome]) ∧ (∀ y, now t.length t e.op = some y → x = y) ∧ Below w.heap.size w w' := by
 obtain ⟨⟨kd, ⟨tc, tk⟩, th, pa, nm, dr, dg, sz⟩, eh⟩ := e
 have hth : Num th := he.1.thing
 have hpa : Num pa := he.1.par
 clear he
 generalize hwas : Mov.look t th = was
 obtain ⟨⟨xi, xp, xn, xd, xg, xz⟩, hx⟩ : ∃ x, x = was.getD Th.zero := ⟨_, rfl⟩
 obtain ⟨N, hN⟩ : ∃ N, N = now t.length t (Ob.mk kd ⟨tc, tk⟩ th pa nm dr dg sz) := ⟨_, rfl⟩
 unfold Sp.v Sp.x
 dsimp only at hkd ⊢
 rw [← hx]
 dsimp only
 rw [← hN]
 have HT := hide h
 have HF := hide hf
 have HW := hide hwas
 have HX := hide hx
 have HN := hide hN
 clear h hf hwas hx hN
 obtain ⟨n1, n2, n3, n4⟩ := hkd
 have m1 : (kd == 1) = false := by simpa using n1
 have m2 : (kd == 2) = false := by simpa using n2
 have m3 : (kd == 3) = false := by simpa using n3
 have m4 : (kd == 4) = false := by simpa using n4
 go_enter Tryz.func78, Tryz.ntmps78
 go_upto_region 1 with fail
 go_cut [6, 7] (fun v6 v7 wx => ∃ go gx, v6 = .pointer (some ⟨go, 0, none⟩) ∧ v7 = .pointer (some ⟨gx, 0, none⟩) ∧ Hid (Bc w w.heap.size (w.heap.size + 1) go gx #[.int .i64 kd, .int .u64 tc, .int .i64 tk, .int .u64 th, .int .u64 pa, .string nm, .bool dr, .string dg, .int .i64 sz, .string eh, .int .u64 xi, .int .u64 xp, .string xn, .bool xd, .string xg, .int .i64 xz, .bool was.isSome] #[.int .u64 0, .int .u64 0, .string ⟨#[]⟩, .bool false, .string ⟨#[]⟩, .int .i64 0] #[.int .i64 kd, .int .u64 tc, .int .i64 tk, .int .u64 th, .int .u64 pa, .string nm, .bool dr, .string dg, .int .i64 sz] #[.int .u64 xi, .int .u64 xp, .string xn, .bool xd, .string xg, .int .i64 xz] wx))
 case first =>
  go_region
  all_goals go_wp2
  ·go_meet
   exact ⟨_, _, rfl, rfl, Bc.new1 w _ _ _ _⟩
  ·go_meet
   exact ⟨_, _, rfl, rfl, Bc.new2 w _ _ _ _⟩
 case rest =>
  obtain ⟨go, gx, rfl, rfl, HB⟩ := hcut
  have HE : Hid (N = none) := by show _ = _; rw [HN.out]; unfold now; simp [n1, n2, n3, n4]
  have o0 : wc.cell? ⟨go, 0, none⟩ = some (.int .i64 kd) := HB.out.cO rfl
  go_wp2_with (first | (refine wpList_load_row rfl 79 _ rfl _ rfl _ _ _ _ HB.out.x Tryz.underlying79 rfl infoTh ?_) | (refine wpList_store_row rfl 79 _ _ rfl _ _ rfl rfl 79 _ HB.out.r infoTh rfl (by simp [Value.oneCell']) ?_))
  refine bodyPost_ret (Wire.results_cell2_row Tryz.results78 _ _ _ _ _ (0, 0) _ rfl (HB.out.setR _).1 Tryz.underlying79 rfl infoTh) rfl ?_
  exact ⟨⟨xi, xp, xn, xd, xg, xz⟩, (by rw [HE.out]; rfl), (fun y hy => by rw [HE.out] at hy; cases hy), (HB.out.setR _).2⟩
end Go.Proofs.YtnbhchdaobimmaaGreatDoor
/- Contract: what an operation makes of its thing: a thing comes. -/
namespace Go.Proofs.YtnbhchdaobimmaaGreatDoor
open Go.RowKit Go.Opn Go.Stamp Go.MapInt Go.Mov Go.Shelf
attribute [local go_sem] Oper.semAt_some
set_option maxHeartbeats 4000000 in
set_option maxRecDepth 100000 in
theorem becomes1 {b : Nat} {mb : Option Nat} {t : Ths} (e : En) (w : World) (h : ThsAt Tryz.prog 49 b mb t w) (hf : Fine t) (he : e.Fits) (hkd : e.op.kind = 1) :
  Calls Tryz.prog 78 #[.pointer (some ⟨b, 0, none⟩), (Sp.mk e (Mov.look t e.op.thing)).v] w fun r w' =>
   ∃ x : Th, r = .returned (.tuple #[x.v, .bool (now t.length t e.op).isSome]) ∧ (∀ y, now t.length t e.op = some y → x = y) ∧ Below w.heap.size w w' := by
 obtain ⟨⟨kd, ⟨tc, tk⟩, th, pa, nm, dr, dg, sz⟩, eh⟩ := e
 have hth : Num th := he.1.thing
 have hpa : Num pa := he.1.par
 clear he
 generalize hwas : Mov.look t th = was
 obtain ⟨⟨xi, xp, xn, xd, xg, xz⟩, hx⟩ : ∃ x, x = was.getD Th.zero := ⟨_, rfl⟩
 obtain ⟨N, hN⟩ : ∃ N, N = now t.length t (Ob.mk kd ⟨tc, tk⟩ th pa nm dr dg sz) := ⟨_, rfl⟩
 unfold Sp.v Sp.x
 dsimp only at hkd ⊢
 rw [← hx]
 dsimp only
 rw [← hN]
 have HT := hide h
 have HF := hide hf
 have HW := hide hwas
 have HX := hide hx
 have HN := hide hN
 clear h hf hwas hx hN
 subst hkd
 go_enter Tryz.func78, Tryz.ntmps78
 go_upto_region 1 with fail
 go_cut [6, 7] (fun v6 v7 wx => ∃ go gx, v6 = .pointer (some ⟨go, 0, none⟩) ∧ v7 = .pointer (some ⟨gx, 0, none⟩) ∧ Hid (Bc w w.heap.size (w.heap.size + 1) go gx #[.int .i64 1, .int .u64 tc, .int .i64 tk, .int .u64 th, .int .u64 pa, .string nm, .bool dr, .string dg, .int .i64 sz, .string eh, .int .u64 xi, .int .u64 xp, .string xn, .bool xd, .string xg, .int .i64 xz, .bool was.isSome] #[.int .u64 0, .int .u64 0, .string ⟨#[]⟩, .bool false, .string ⟨#[]⟩, .int .i64 0] #[.int .i64 1, .int .u64 tc, .int .i64 tk, .int .u64 th, .int .u64 pa, .string nm, .bool dr, .string dg, .int .i64 sz] #[.int .u64 xi, .int .u64 xp, .string xn, .bool xd, .string xg, .int .i64 xz] wx))
 case first =>
  go_region
  all_goals go_wp2
  ·go_meet
   exact ⟨_, _, rfl, rfl, Bc.new1 w _ _ _ _⟩
  ·go_meet
   exact ⟨_, _, rfl, rfl, Bc.new2 w _ _ _ _⟩
 case rest =>
  obtain ⟨go, gx, rfl, rfl, HB⟩ := hcut
  have o0 : wc.cell? ⟨go, 0, none⟩ = some (.int .i64 1) := HB.out.cO rfl
  have o3 : wc.cell? ⟨go, 3, none⟩ = some (.int .u64 th) := HB.out.cO rfl
  have o4 : wc.cell? ⟨go, 4, none⟩ = some (.int .u64 pa) := HB.out.cO rfl
  have o5 : wc.cell? ⟨go, 5, none⟩ = some (.string nm) := HB.out.cO rfl
  have o6 : wc.cell? ⟨go, 6, none⟩ = some (.bool dr) := HB.out.cO rfl
  go_upto_region 5 with (refine wpList_store_row rfl 79 _ _ rfl _ _ rfl rfl 79 _ HB.out.x infoTh rfl (by simp [Value.oneCell']) ?_)
  replace HB := hide (HB.out.setX #[.int .u64 th, .int .u64 pa, .string nm, .bool dr, .string ⟨#[]⟩, .int .i64 0])
  clear o0 o3 o4 o5 o6
  generalize wc.setRow gx #[.int .u64 th, .int .u64 pa, .string nm, .bool dr, .string ⟨#[]⟩, .int .i64 0] = w5 at *
  cases was with
  | some y =>
   have HE : Hid (N = none) := by show _ = _; rw [HN.out]; unfold now; simp [HW.out]
   replace HB := hide (HB.out.drew)
   refine Held.region (fun v => ∃ R, Bc w w.heap.size (w.heap.size + 1) go gx #[.int .i64 1, .int .u64 tc, .int .i64 tk, .int .u64 th, .int .u64 pa, .string nm, .bool dr, .string dg, .int .i64 sz, .string eh, .int .u64 xi, .int .u64 xp, .string xn, .bool xd, .string xg, .int .i64 xz, .bool true] R #[.int .i64 1, .int .u64 tc, .int .i64 tk, .int .u64 th, .int .u64 pa, .string nm, .bool dr, .string dg, .int .i64 sz] #[.int .u64 th, .int .u64 pa, .string nm, .bool dr, .string ⟨#[]⟩, .int .i64 0] v) [true, true, true, true, true, true, true, false, true, true, true, true, true, true, false, true, false, true] (by kernel_rfl) (by kernel_rfl) rfl (fun d _ _ _ _ h => by cases d <;> exact h) ⟨_, HB.out⟩ ?_
   refine Held.load 79 _ rfl rfl gx rfl 79 _ (0, 0) _ (fun v hv => hv.elim fun R h => h.x) Tryz.underlying79 rfl infoTh ?_; simp only [Act.put, List.setIfInBounds_toArray, List.set_cons_succ, List.set_cons_zero]
   refine Held.take (.pointer (some ⟨w.heap.size, 16, none⟩)) rfl (fun _ _ => by kernel_rfl) ?_; simp only [Act.put, List.setIfInBounds_toArray, List.set_cons_succ, List.set_cons_zero]
   refine Held.take (.bool true) rfl (fun v hv => by obtain ⟨R, h⟩ := hv; have hc : v.cell? ⟨w.heap.size, 16, none⟩ = some (.bool true) := h.cS rfl; go_simp) ?_; simp only [Act.put, List.setIfInBounds_toArray, List.set_cons_succ, List.set_cons_zero]
   refine Held.take (.bool false) rfl (fun _ _ => by kernel_rfl) ?_; simp only [Act.put, List.setIfInBounds_toArray, List.set_cons_succ, List.set_cons_zero]
   refine Held.take (.bool false) rfl (fun _ _ => by kernel_rfl) ?_; simp only [Act.put, List.setIfInBounds_toArray, List.set_cons_succ, List.set_cons_zero]
   refine Held.skip rfl ?_; simp only [Act.put, List.setIfInBounds_toArray, List.set_cons_succ, List.set_cons_zero]
   refine Held.skip rfl ?_; simp only [Act.put, List.setIfInBounds_toArray, List.set_cons_succ, List.set_cons_zero]
   refine Held.skip' rfl ?_; simp only [Act.put, List.setIfInBounds_toArray, List.set_cons_succ, List.set_cons_zero]
   refine Held.skip rfl ?_; simp only [Act.put, List.setIfInBounds_toArray, List.set_cons_succ, List.set_cons_zero]
   refine Held.take (.bool false) rfl (fun _ _ => by kernel_rfl) ?_; simp only [Act.put, List.setIfInBounds_toArray, List.set_cons_succ, List.set_cons_zero]
   refine Held.take (.bool false) rfl (fun _ _ => by kernel_rfl) ?_; simp only [Act.put, List.setIfInBounds_toArray, List.set_cons_succ, List.set_cons_zero]
   refine Held.skip rfl ?_; simp only [Act.put, List.setIfInBounds_toArray, List.set_cons_succ, List.set_cons_zero]
   refine Held.skip rfl ?_; simp only [Act.put, List.setIfInBounds_toArray, List.set_cons_succ, List.set_cons_zero]
   refine Held.skip rfl ?_; simp only [Act.put, List.setIfInBounds_toArray, List.set_cons_succ, List.set_cons_zero]
   refine Held.skip' rfl ?_; simp only [Act.put, List.setIfInBounds_toArray, List.set_cons_succ, List.set_cons_zero]
   refine Held.take (.bool false) rfl (fun _ _ => by kernel_rfl) ?_; simp only [Act.put, List.setIfInBounds_toArray, List.set_cons_succ, List.set_cons_zero]
   refine Held.store 79 _ _ rfl rfl (w.heap.size + 1) _ rfl rfl 79 _ HB.out.r infoTh rfl (by simp [Value.oneCell']) ⟨⟨_, HB.out.storeR _⟩, ?_⟩; simp only [Act.put]
   refine Held.take _ rfl (fun _ _ => rfl) ?_; simp only [Act.put, List.setIfInBounds_toArray, List.set_cons_succ, List.set_cons_zero]
   show Exit.then _ _ _ _ _
   go_wp2_with fail
   refine bodyPost_ret (Wire.results_cell2_row Tryz.results78 _ _ _ _ _ (0, 0) _ rfl (HB.out.setR _).1 Tryz.underlying79 rfl infoTh) rfl ?_
   exact ⟨⟨th, pa, nm, dr, ⟨#[]⟩, 0⟩, (by rw [HE.out]; rfl), (fun y hy => by rw [HE.out] at hy; cases hy), (HB.out.setR _).2⟩
  | none =>
   cases htop : top th with
   | true =>
    have HE : Hid (N = none) := by show _ = _; rw [HN.out]; unfold now; simp [HW.out, htop]
    have htop2 := hide htop
    clear htop
    replace HB := hide (HB.out.drew)
    refine Held.region (fun v => ∃ R, Bc w w.heap.size (w.heap.size + 1) go gx #[.int .i64 1, .int .u64 tc, .int .i64 tk, .int .u64 th, .int .u64 pa, .string nm, .bool dr, .string dg, .int .i64 sz, .string eh, .int .u64 xi, .int .u64 xp, .string xn, .bool xd, .string xg, .int .i64 xz, .bool false] R #[.int .i64 1, .int .u64 tc, .int .i64 tk, .int .u64 th, .int .u64 pa, .string nm, .bool dr, .string dg, .int .i64 sz] #[.int .u64 th, .int .u64 pa, .string nm, .bool dr, .string ⟨#[]⟩, .int .i64 0] v) [true, true, true, true, true, true, true, false, true, true, true, true, true, true, false, true, false, true] (by kernel_rfl) (by kernel_rfl) rfl (fun d _ _ _ _ h => by cases d <;> exact h) ⟨_, HB.out⟩ ?_
    refine Held.load 79 _ rfl rfl gx rfl 79 _ (0, 0) _ (fun v hv => hv.elim fun R h => h.x) Tryz.underlying79 rfl infoTh ?_; simp only [Act.put, List.setIfInBounds_toArray, List.set_cons_succ, List.set_cons_zero]
    refine Held.take (.pointer (some ⟨w.heap.size, 16, none⟩)) rfl (fun _ _ => by kernel_rfl) ?_; simp only [Act.put, List.setIfInBounds_toArray, List.set_cons_succ, List.set_cons_zero]
    refine Held.take (.bool false) rfl (fun v hv => by obtain ⟨R, h⟩ := hv; have hc : v.cell? ⟨w.heap.size, 16, none⟩ = some (.bool false) := h.cS rfl; go_simp) ?_; simp only [Act.put, List.setIfInBounds_toArray, List.set_cons_succ, List.set_cons_zero]
    refine Held.take (.bool true) rfl (fun _ _ => by kernel_rfl) ?_; simp only [Act.put, List.setIfInBounds_toArray, List.set_cons_succ, List.set_cons_zero]
    refine Held.take (.bool true) rfl (fun _ _ => by kernel_rfl) ?_; simp only [Act.put, List.setIfInBounds_toArray, List.set_cons_succ, List.set_cons_zero]
    refine Held.take (.pointer (some ⟨go, 3, none⟩)) rfl (fun _ _ => by kernel_rfl) ?_; simp only [Act.put, List.setIfInBounds_toArray, List.set_cons_succ, List.set_cons_zero]
    refine Held.take (.int .u64 th) rfl (fun v hv => by obtain ⟨R, h⟩ := hv; have hc : v.cell? ⟨go, 3, none⟩ = some (.int .u64 th) := h.cO rfl; go_simp) ?_; simp only [Act.put, List.setIfInBounds_toArray, List.set_cons_succ, List.set_cons_zero]
    refine Held.call 109 #[.int .u64 th] (.bool true) (fun v => v = w5.drew) rfl (by go_simp) ((top_any th _).mono (by rintro e w2 ⟨h1, rfl⟩; exact ⟨by rw [h1, htop2.out], rfl⟩)) ?_; rintro _ rfl; refine ⟨⟨_, HB.out⟩, ?_⟩; simp only [Act.put, List.setIfInBounds_toArray, List.set_cons_succ, List.set_cons_zero]
    refine Held.take (.bool false) rfl (fun _ _ => by kernel_rfl) ?_; simp only [Act.put, List.setIfInBounds_toArray, List.set_cons_succ, List.set_cons_zero]
    refine Held.take (.bool false) rfl (fun _ _ => by kernel_rfl) ?_; simp only [Act.put, List.setIfInBounds_toArray, List.set_cons_succ, List.set_cons_zero]
    refine Held.take (.bool false) rfl (fun _ _ => by kernel_rfl) ?_; simp only [Act.put, List.setIfInBounds_toArray, List.set_cons_succ, List.set_cons_zero]
    refine Held.skip rfl ?_; simp only [Act.put, List.setIfInBounds_toArray, List.set_cons_succ, List.set_cons_zero]
    refine Held.skip rfl ?_; simp only [Act.put, List.setIfInBounds_toArray, List.set_cons_succ, List.set_cons_zero]
    refine Held.skip rfl ?_; simp only [Act.put, List.setIfInBounds_toArray, List.set_cons_succ, List.set_cons_zero]
    refine Held.skip' rfl ?_; simp only [Act.put, List.setIfInBounds_toArray, List.set_cons_succ, List.set_cons_zero]
    refine Held.take (.bool false) rfl (fun _ _ => by kernel_rfl) ?_; simp only [Act.put, List.setIfInBounds_toArray, List.set_cons_succ, List.set_cons_zero]
    refine Held.store 79 _ _ rfl rfl (w.heap.size + 1) _ rfl rfl 79 _ HB.out.r infoTh rfl (by simp [Value.oneCell']) ⟨⟨_, HB.out.storeR _⟩, ?_⟩; simp only [Act.put]
    refine Held.take _ rfl (fun _ _ => rfl) ?_; simp only [Act.put, List.setIfInBounds_toArray, List.set_cons_succ, List.set_cons_zero]
    show Exit.then _ _ _ _ _
    go_wp2_with fail
    refine bodyPost_ret (Wire.results_cell2_row Tryz.results78 _ _ _ _ _ (0, 0) _ rfl (HB.out.setR _).1 Tryz.underlying79 rfl infoTh) rfl ?_
    exact ⟨⟨th, pa, nm, dr, ⟨#[]⟩, 0⟩, (by rw [HE.out]; rfl), (fun y hy => by rw [HE.out] at hy; cases hy), (HB.out.setR _).2⟩
   | false =>
    have HE : Hid (N = if fold t pa then some ⟨th, pa, nm, dr, ⟨#[]⟩, 0⟩ else none) := by show _ = _; rw [HN.out]; unfold now; simp [HW.out, htop]
    have htop2 := hide htop
    clear htop
    obtain ⟨fo, hfo⟩ : ∃ fo, fo = fold t pa := ⟨_, rfl⟩
    rw [← hfo] at HE
    have hfo2 := hide hfo
    clear hfo
    replace HB := hide (HB.out.drew)
    refine Held.region (fun v => ∃ R, Bc w w.heap.size (w.heap.size + 1) go gx #[.int .i64 1, .int .u64 tc, .int .i64 tk, .int .u64 th, .int .u64 pa, .string nm, .bool dr, .string dg, .int .i64 sz, .string eh, .int .u64 xi, .int .u64 xp, .string xn, .bool xd, .string xg, .int .i64 xz, .bool false] R #[.int .i64 1, .int .u64 tc, .int .i64 tk, .int .u64 th, .int .u64 pa, .string nm, .bool dr, .string dg, .int .i64 sz] #[.int .u64 th, .int .u64 pa, .string nm, .bool dr, .string ⟨#[]⟩, .int .i64 0] v) [true, true, true, true, true, true, true, false, true, true, true, true, true, true, false, true, false, true] (by kernel_rfl) (by kernel_rfl) rfl (fun d _ _ _ _ h => by cases d <;> exact h) ⟨_, HB.out⟩ ?_
    refine Held.load 79 _ rfl rfl gx rfl 79 _ (0, 0) _ (fun v hv => hv.elim fun R h => h.x) Tryz.underlying79 rfl infoTh ?_; simp only [Act.put, List.setIfInBounds_toArray, List.set_cons_succ, List.set_cons_zero]
    refine Held.take (.pointer (some ⟨w.heap.size, 16, none⟩)) rfl (fun _ _ => by kernel_rfl) ?_; simp only [Act.put, List.setIfInBounds_toArray, List.set_cons_succ, List.set_cons_zero]
    refine Held.take (.bool false) rfl (fun v hv => by obtain ⟨R, h⟩ := hv; have hc : v.cell? ⟨w.heap.size, 16, none⟩ = some (.bool false) := h.cS rfl; go_simp) ?_; simp only [Act.put, List.setIfInBounds_toArray, List.set_cons_succ, List.set_cons_zero]
    refine Held.take (.bool true) rfl (fun _ _ => by kernel_rfl) ?_; simp only [Act.put, List.setIfInBounds_toArray, List.set_cons_succ, List.set_cons_zero]
    refine Held.take (.bool true) rfl (fun _ _ => by kernel_rfl) ?_; simp only [Act.put, List.setIfInBounds_toArray, List.set_cons_succ, List.set_cons_zero]
    refine Held.take (.pointer (some ⟨go, 3, none⟩)) rfl (fun _ _ => by kernel_rfl) ?_; simp only [Act.put, List.setIfInBounds_toArray, List.set_cons_succ, List.set_cons_zero]
    refine Held.take (.int .u64 th) rfl (fun v hv => by obtain ⟨R, h⟩ := hv; have hc : v.cell? ⟨go, 3, none⟩ = some (.int .u64 th) := h.cO rfl; go_simp) ?_; simp only [Act.put, List.setIfInBounds_toArray, List.set_cons_succ, List.set_cons_zero]
    refine Held.call 109 #[.int .u64 th] (.bool false) (fun v => v = w5.drew) rfl (by go_simp) ((top_any th _).mono (by rintro e w2 ⟨h1, rfl⟩; exact ⟨by rw [h1, htop2.out], rfl⟩)) ?_; rintro _ rfl; refine ⟨⟨_, HB.out⟩, ?_⟩; simp only [Act.put, List.setIfInBounds_toArray, List.set_cons_succ, List.set_cons_zero]
    refine Held.take (.bool true) rfl (fun _ _ => by kernel_rfl) ?_; simp only [Act.put, List.setIfInBounds_toArray, List.set_cons_succ, List.set_cons_zero]
    refine Held.take (.bool true) rfl (fun _ _ => by kernel_rfl) ?_; simp only [Act.put, List.setIfInBounds_toArray, List.set_cons_succ, List.set_cons_zero]
    refine Held.take (.bool true) rfl (fun _ _ => by kernel_rfl) ?_; simp only [Act.put, List.setIfInBounds_toArray, List.set_cons_succ, List.set_cons_zero]
    refine Held.take (.pointer (some ⟨b, 0, none⟩)) rfl (fun _ _ => by kernel_rfl) ?_; simp only [Act.put, List.setIfInBounds_toArray, List.set_cons_succ, List.set_cons_zero]
    refine Held.take (.pointer (some ⟨go, 4, none⟩)) rfl (fun _ _ => by kernel_rfl) ?_; simp only [Act.put, List.setIfInBounds_toArray, List.set_cons_succ, List.set_cons_zero]
    refine Held.take (.int .u64 pa) rfl (fun v hv => by obtain ⟨R, h⟩ := hv; have hc : v.cell? ⟨go, 4, none⟩ = some (.int .u64 pa) := h.cO rfl; go_simp) ?_; simp only [Act.put, List.setIfInBounds_toArray, List.set_cons_succ, List.set_cons_zero]
    refine Held.call 110 #[.pointer (some ⟨b, 0, none⟩), .int .u64 pa] (.bool fo) (fun v => v = w5.drew) rfl (by go_simp) ((folder_any pa _ (HT.out.below HB.out.below) hpa).mono (by rintro e w2 ⟨h1, rfl⟩; exact ⟨by rw [h1, ← hfo2.out], rfl⟩)) ?_; rintro _ rfl; refine ⟨⟨_, HB.out⟩, ?_⟩; simp only [Act.put, List.setIfInBounds_toArray, List.set_cons_succ, List.set_cons_zero]
    refine Held.take (.bool fo) rfl (fun _ _ => by kernel_rfl) ?_; simp only [Act.put, List.setIfInBounds_toArray, List.set_cons_succ, List.set_cons_zero]
    refine Held.store 79 _ _ rfl rfl (w.heap.size + 1) _ rfl rfl 79 _ HB.out.r infoTh rfl (by simp [Value.oneCell']) ⟨⟨_, HB.out.storeR _⟩, ?_⟩; simp only [Act.put]
    refine Held.take _ rfl (fun _ _ => rfl) ?_; simp only [Act.put, List.setIfInBounds_toArray, List.set_cons_succ, List.set_cons_zero]
    show Exit.then _ _ _ _ _
    go_wp2_with fail
    refine bodyPost_ret (Wire.results_cell2_row Tryz.results78 _ _ _ _ _ (0, 0) _ rfl (HB.out.setR _).1 Tryz.underlying79 rfl infoTh) rfl ?_
    exact ⟨⟨th, pa, nm, dr, ⟨#[]⟩, 0⟩, (by rw [HE.out]; cases fo <;> rfl), (fun y hy => by rw [HE.out] at hy; cases fo with | true => exact Option.some.inj hy | false => cases hy), (HB.out.setR _).2⟩
end Go.Proofs.YtnbhchdaobimmaaGreatDoor
/- Contract: what an operation makes of its thing: a thing stands elsewhere. -/
namespace Go.Proofs.YtnbhchdaobimmaaGreatDoor
open Go.RowKit Go.Opn Go.Stamp Go.MapInt Go.Mov Go.Shelf
attribute [local go_sem] Oper.semAt_some
set_option maxHeartbeats 4000000 in
set_option maxRecDepth 100000 in
theorem becomes2 {b : Nat} {mb : Option Nat} {t : Ths} (e : En) (w : World) (h : ThsAt Tryz.prog 49 b mb t w) (hf : Fine t) (he : e.Fits) (hkd : e.op.kind = 2) :
  Calls Tryz.prog 78 #[.pointer (some ⟨b, 0, none⟩), (Sp.mk e (Mov.look t e.op.thing)).v] w fun r w' =>
   ∃ x : Th, r = .returned (.tuple #[x.v, .bool (now t.length t e.op).isSome]) ∧ (∀ y, now t.length t e.op = some y → x = y) ∧ Below w.heap.size w w' := by
 obtain ⟨⟨kd, ⟨tc, tk⟩, th, pa, nm, dr, dg, sz⟩, eh⟩ := e
 have hth : Num th := he.1.thing
 have hpa : Num pa := he.1.par
 clear he
 generalize hwas : Mov.look t th = was
 obtain ⟨⟨xi, xp, xn, xd, xg, xz⟩, hx⟩ : ∃ x, x = was.getD Th.zero := ⟨_, rfl⟩
 obtain ⟨N, hN⟩ : ∃ N, N = now t.length t (Ob.mk kd ⟨tc, tk⟩ th pa nm dr dg sz) := ⟨_, rfl⟩
 unfold Sp.v Sp.x
 dsimp only at hkd ⊢
 rw [← hx]
 dsimp only
 rw [← hN]
 have HT := hide h
 have HF := hide hf
 have HW := hide hwas
 have HX := hide hx
 have HN := hide hN
 clear h hf hwas hx hN
 subst hkd
 go_enter Tryz.func78, Tryz.ntmps78
 go_upto_region 1 with fail
 go_cut [6, 7] (fun v6 v7 wx => ∃ go gx, v6 = .pointer (some ⟨go, 0, none⟩) ∧ v7 = .pointer (some ⟨gx, 0, none⟩) ∧ Hid (Bc w w.heap.size (w.heap.size + 1) go gx #[.int .i64 2, .int .u64 tc, .int .i64 tk, .int .u64 th, .int .u64 pa, .string nm, .bool dr, .string dg, .int .i64 sz, .string eh, .int .u64 xi, .int .u64 xp, .string xn, .bool xd, .string xg, .int .i64 xz, .bool was.isSome] #[.int .u64 0, .int .u64 0, .string ⟨#[]⟩, .bool false, .string ⟨#[]⟩, .int .i64 0] #[.int .i64 2, .int .u64 tc, .int .i64 tk, .int .u64 th, .int .u64 pa, .string nm, .bool dr, .string dg, .int .i64 sz] #[.int .u64 xi, .int .u64 xp, .string xn, .bool xd, .string xg, .int .i64 xz] wx))
 case first =>
  go_region
  all_goals go_wp2
  ·go_meet
   exact ⟨_, _, rfl, rfl, Bc.new1 w _ _ _ _⟩
  ·go_meet
   exact ⟨_, _, rfl, rfl, Bc.new2 w _ _ _ _⟩
 case rest =>
  obtain ⟨go, gx, rfl, rfl, HB⟩ := hcut
  have o0 : wc.cell? ⟨go, 0, none⟩ = some (.int .i64 2) := HB.out.cO rfl
  have o4 : wc.cell? ⟨go, 4, none⟩ = some (.int .u64 pa) := HB.out.cO rfl
  have o5 : wc.cell? ⟨go, 5, none⟩ = some (.string nm) := HB.out.cO rfl
  have x1 : wc.cell? ⟨gx, 1, none⟩ = some (.int .u64 xp) := HB.out.cX rfl
  have x2 : wc.cell? ⟨gx, 2, none⟩ = some (.string xn) := HB.out.cX rfl
  have f1 : wc.frozen? ⟨gx, 1, none⟩ = false := frozen_of_row _ _ _ _ _ HB.out.x
  have f2 : wc.frozen? ⟨gx, 2, none⟩ = false := frozen_of_row _ _ _ _ _ HB.out.x
  go_upto_region 7 with fail
  go_cut [] (fun wx => Hid (Bc w w.heap.size (w.heap.size + 1) go gx #[.int .i64 2, .int .u64 tc, .int .i64 tk, .int .u64 th, .int .u64 pa, .string nm, .bool dr, .string dg, .int .i64 sz, .string eh, .int .u64 xi, .int .u64 xp, .string xn, .bool xd, .string xg, .int .i64 xz, .bool was.isSome] #[.int .u64 0, .int .u64 0, .string ⟨#[]⟩, .bool false, .string ⟨#[]⟩, .int .i64 0] #[.int .i64 2, .int .u64 tc, .int .i64 tk, .int .u64 th, .int .u64 pa, .string nm, .bool dr, .string dg, .int .i64 sz] #[.int .u64 xi, .int .u64 pa, .string nm, .bool xd, .string xg, .int .i64 xz] wx))
  case first =>
   go_region
   all_goals go_wp2
   all_goals go_meet
   all_goals first | exact (((HB.out.cellX 1 (.int .u64 pa)).cellX 2 (.string nm)).drew) | exact (((HB.out.cellX 2 (.string nm)).cellX 1 (.int .u64 pa)).drew)
  case rest =>
   clear HB o0 o4 o5 x1 x2 f1 f2
   have HB := hcut
   clear hcut
   generalize wc = w5 at *
   go_upto_region 8 with fail
   cases was with
   | none =>
    have HE : Hid (N = none) := by show _ = _; rw [HN.out]; unfold now; simp [HW.out]
    replace HB := hide (HB.out.drew)
    refine Held.region (fun v => ∃ R, Bc w w.heap.size (w.heap.size + 1) go gx #[.int .i64 2, .int .u64 tc, .int .i64 tk, .int .u64 th, .int .u64 pa, .string nm, .bool dr, .string dg, .int .i64 sz, .string eh, .int .u64 xi, .int .u64 xp, .string xn, .bool xd, .string xg, .int .i64 xz, .bool false] R #[.int .i64 2, .int .u64 tc, .int .i64 tk, .int .u64 th, .int .u64 pa, .string nm, .bool dr, .string dg, .int .i64 sz] #[.int .u64 xi, .int .u64 pa, .string nm, .bool xd, .string xg, .int .i64 xz] v) [true, true, true, true, true, true, true, false, true, true, true, true, true, true, true, false, true, true, false, true] (by kernel_rfl) (by kernel_rfl) rfl (fun d _ _ _ _ h => by cases d <;> exact h) ⟨_, HB.out⟩ ?_
    refine Held.load 79 _ rfl rfl gx rfl 79 _ (0, 0) _ (fun v hv => hv.elim fun R h => h.x) Tryz.underlying79 rfl infoTh ?_; simp only [Act.put, List.setIfInBounds_toArray, List.set_cons_succ, List.set_cons_zero]
    refine Held.take (.pointer (some ⟨w.heap.size, 16, none⟩)) rfl (fun _ _ => by kernel_rfl) ?_; simp only [Act.put, List.setIfInBounds_toArray, List.set_cons_succ, List.set_cons_zero]
    refine Held.take (.bool false) rfl (fun v hv => by obtain ⟨R, h⟩ := hv; have hc : v.cell? ⟨w.heap.size, 16, none⟩ = some (.bool false) := h.cS rfl; go_simp) ?_; simp only [Act.put, List.setIfInBounds_toArray, List.set_cons_succ, List.set_cons_zero]
    refine Held.take (.bool false) rfl (fun _ _ => by kernel_rfl) ?_; simp only [Act.put, List.setIfInBounds_toArray, List.set_cons_succ, List.set_cons_zero]
    refine Held.skip rfl ?_; simp only [Act.put, List.setIfInBounds_toArray, List.set_cons_succ, List.set_cons_zero]
    refine Held.skip rfl ?_; simp only [Act.put, List.setIfInBounds_toArray, List.set_cons_succ, List.set_cons_zero]
    refine Held.skip rfl ?_; simp only [Act.put, List.setIfInBounds_toArray, List.set_cons_succ, List.set_cons_zero]
    refine Held.skip' rfl ?_; simp only [Act.put, List.setIfInBounds_toArray, List.set_cons_succ, List.set_cons_zero]
    refine Held.take (.bool false) rfl (fun _ _ => by kernel_rfl) ?_; simp only [Act.put, List.setIfInBounds_toArray, List.set_cons_succ, List.set_cons_zero]
    refine Held.take (.bool false) rfl (fun _ _ => by kernel_rfl) ?_; simp only [Act.put, List.setIfInBounds_toArray, List.set_cons_succ, List.set_cons_zero]
    refine Held.skip rfl ?_; simp only [Act.put, List.setIfInBounds_toArray, List.set_cons_succ, List.set_cons_zero]
    refine Held.skip rfl ?_; simp only [Act.put, List.setIfInBounds_toArray, List.set_cons_succ, List.set_cons_zero]
    refine Held.skip rfl ?_; simp only [Act.put, List.setIfInBounds_toArray, List.set_cons_succ, List.set_cons_zero]
    refine Held.skip rfl ?_; simp only [Act.put, List.setIfInBounds_toArray, List.set_cons_succ, List.set_cons_zero]
    refine Held.skip rfl ?_; simp only [Act.put, List.setIfInBounds_toArray, List.set_cons_succ, List.set_cons_zero]
    refine Held.skip' rfl ?_; simp only [Act.put, List.setIfInBounds_toArray, List.set_cons_succ, List.set_cons_zero]
    refine Held.skip rfl ?_; simp only [Act.put, List.setIfInBounds_toArray, List.set_cons_succ, List.set_cons_zero]
    refine Held.take (.bool false) rfl (fun _ _ => by kernel_rfl) ?_; simp only [Act.put, List.setIfInBounds_toArray, List.set_cons_succ, List.set_cons_zero]
    refine Held.store 79 _ _ rfl rfl (w.heap.size + 1) _ rfl rfl 79 _ HB.out.r infoTh rfl (by simp [Value.oneCell']) ⟨⟨_, HB.out.storeR _⟩, ?_⟩; simp only [Act.put]
    refine Held.take _ rfl (fun _ _ => rfl) ?_; simp only [Act.put, List.setIfInBounds_toArray, List.set_cons_succ, List.set_cons_zero]
    show Exit.then _ _ _ _ _
    go_wp2_with fail
    refine bodyPost_ret (Wire.results_cell2_row Tryz.results78 _ _ _ _ _ (0, 0) _ rfl (HB.out.setR _).1 Tryz.underlying79 rfl infoTh) rfl ?_
    exact ⟨⟨xi, pa, nm, xd, xg, xz⟩, (by rw [HE.out]; rfl), (fun y hy => by rw [HE.out] at hy; cases hy), (HB.out.setR _).2⟩
   | some y =>
    have HY : Hid (y = ⟨xi, xp, xn, xd, xg, xz⟩) := HX.out.symm
    cases hfo : fold t pa with
    | false =>
     have HE : Hid (N = none) := by show _ = _; rw [HN.out]; unfold now; simp [HW.out, hfo]
     have hfo2 := hide hfo
     clear hfo
     replace HB := hide (HB.out.drew)
     refine Held.region (fun v => ∃ R, Bc w w.heap.size (w.heap.size + 1) go gx #[.int .i64 2, .int .u64 tc, .int .i64 tk, .int .u64 th, .int .u64 pa, .string nm, .bool dr, .string dg, .int .i64 sz, .string eh, .int .u64 xi, .int .u64 xp, .string xn, .bool xd, .string xg, .int .i64 xz, .bool true] R #[.int .i64 2, .int .u64 tc, .int .i64 tk, .int .u64 th, .int .u64 pa, .string nm, .bool dr, .string dg, .int .i64 sz] #[.int .u64 xi, .int .u64 pa, .string nm, .bool xd, .string xg, .int .i64 xz] v) [true, true, true, true, true, true, true, false, true, true, true, true, true, true, true, false, true, true, false, true] (by kernel_rfl) (by kernel_rfl) rfl (fun d _ _ _ _ h => by cases d <;> exact h) ⟨_, HB.out⟩ ?_
     refine Held.load 79 _ rfl rfl gx rfl 79 _ (0, 0) _ (fun v hv => hv.elim fun R h => h.x) Tryz.underlying79 rfl infoTh ?_; simp only [Act.put, List.setIfInBounds_toArray, List.set_cons_succ, List.set_cons_zero]
     refine Held.take (.pointer (some ⟨w.heap.size, 16, none⟩)) rfl (fun _ _ => by kernel_rfl) ?_; simp only [Act.put, List.setIfInBounds_toArray, List.set_cons_succ, List.set_cons_zero]
     refine Held.take (.bool true) rfl (fun v hv => by obtain ⟨R, h⟩ := hv; have hc : v.cell? ⟨w.heap.size, 16, none⟩ = some (.bool true) := h.cS rfl; go_simp) ?_; simp only [Act.put, List.setIfInBounds_toArray, List.set_cons_succ, List.set_cons_zero]
     refine Held.take (.bool true) rfl (fun _ _ => by kernel_rfl) ?_; simp only [Act.put, List.setIfInBounds_toArray, List.set_cons_succ, List.set_cons_zero]
     refine Held.take (.pointer (some ⟨b, 0, none⟩)) rfl (fun _ _ => by kernel_rfl) ?_; simp only [Act.put, List.setIfInBounds_toArray, List.set_cons_succ, List.set_cons_zero]
     refine Held.take (.pointer (some ⟨go, 4, none⟩)) rfl (fun _ _ => by kernel_rfl) ?_; simp only [Act.put, List.setIfInBounds_toArray, List.set_cons_succ, List.set_cons_zero]
     refine Held.take (.int .u64 pa) rfl (fun v hv => by obtain ⟨R, h⟩ := hv; have hc : v.cell? ⟨go, 4, none⟩ = some (.int .u64 pa) := h.cO rfl; go_simp) ?_; simp only [Act.put, List.setIfInBounds_toArray, List.set_cons_succ, List.set_cons_zero]
     refine Held.call 110 #[.pointer (some ⟨b, 0, none⟩), .int .u64 pa] (.bool false) (fun v => v = w5.drew) rfl (by go_simp) ((folder_any pa _ (HT.out.below HB.out.below) hpa).mono (by rintro e w2 ⟨h1, rfl⟩; exact ⟨by rw [h1, hfo2.out], rfl⟩)) ?_; rintro _ rfl; refine ⟨⟨_, HB.out⟩, ?_⟩; simp only [Act.put, List.setIfInBounds_toArray, List.set_cons_succ, List.set_cons_zero]
     refine Held.take (.bool false) rfl (fun _ _ => by kernel_rfl) ?_; simp only [Act.put, List.setIfInBounds_toArray, List.set_cons_succ, List.set_cons_zero]
     refine Held.take (.bool false) rfl (fun _ _ => by kernel_rfl) ?_; simp only [Act.put, List.setIfInBounds_toArray, List.set_cons_succ, List.set_cons_zero]
     refine Held.skip rfl ?_; simp only [Act.put, List.setIfInBounds_toArray, List.set_cons_succ, List.set_cons_zero]
     refine Held.skip rfl ?_; simp only [Act.put, List.setIfInBounds_toArray, List.set_cons_succ, List.set_cons_zero]
     refine Held.skip rfl ?_; simp only [Act.put, List.setIfInBounds_toArray, List.set_cons_succ, List.set_cons_zero]
     refine Held.skip rfl ?_; simp only [Act.put, List.setIfInBounds_toArray, List.set_cons_succ, List.set_cons_zero]
     refine Held.skip rfl ?_; simp only [Act.put, List.setIfInBounds_toArray, List.set_cons_succ, List.set_cons_zero]
     refine Held.skip' rfl ?_; simp only [Act.put, List.setIfInBounds_toArray, List.set_cons_succ, List.set_cons_zero]
     refine Held.skip rfl ?_; simp only [Act.put, List.setIfInBounds_toArray, List.set_cons_succ, List.set_cons_zero]
     refine Held.take (.bool false) rfl (fun _ _ => by kernel_rfl) ?_; simp only [Act.put, List.setIfInBounds_toArray, List.set_cons_succ, List.set_cons_zero]
     refine Held.store 79 _ _ rfl rfl (w.heap.size + 1) _ rfl rfl 79 _ HB.out.r infoTh rfl (by simp [Value.oneCell']) ⟨⟨_, HB.out.storeR _⟩, ?_⟩; simp only [Act.put]
     refine Held.take _ rfl (fun _ _ => rfl) ?_; simp only [Act.put, List.setIfInBounds_toArray, List.set_cons_succ, List.set_cons_zero]
     show Exit.then _ _ _ _ _
     go_wp2_with fail
     refine bodyPost_ret (Wire.results_cell2_row Tryz.results78 _ _ _ _ _ (0, 0) _ rfl (HB.out.setR _).1 Tryz.underlying79 rfl infoTh) rfl ?_
     exact ⟨⟨xi, pa, nm, xd, xg, xz⟩, (by rw [HE.out]; rfl), (fun y hy => by rw [HE.out] at hy; cases hy), (HB.out.setR _).2⟩
    | true =>
     have HE : Hid (N = if below t.length t pa th then none else some ⟨xi, pa, nm, xd, xg, xz⟩) := by show _ = _; rw [HN.out]; unfold now; simp [HW.out, hfo, HY.out]; cases below t.length t pa th <;> rfl
     have hfo2 := hide hfo
     clear hfo
     obtain ⟨be, hbe⟩ : ∃ be, be = below t.length t pa th := ⟨_, rfl⟩
     rw [← hbe] at HE
     have hbe2 := hide hbe
     clear hbe
     replace HB := hide (HB.out.drew)
     refine Held.region (fun v => ∃ R, Bc w w.heap.size (w.heap.size + 1) go gx #[.int .i64 2, .int .u64 tc, .int .i64 tk, .int .u64 th, .int .u64 pa, .string nm, .bool dr, .string dg, .int .i64 sz, .string eh, .int .u64 xi, .int .u64 xp, .string xn, .bool xd, .string xg, .int .i64 xz, .bool true] R #[.int .i64 2, .int .u64 tc, .int .i64 tk, .int .u64 th, .int .u64 pa, .string nm, .bool dr, .string dg, .int .i64 sz] #[.int .u64 xi, .int .u64 pa, .string nm, .bool xd, .string xg, .int .i64 xz] v) [true, true, true, true, true, true, true, false, true, true, true, true, true, true, true, false, true, true, false, true] (by kernel_rfl) (by kernel_rfl) rfl (fun d _ _ _ _ h => by cases d <;> exact h) ⟨_, HB.out⟩ ?_
     refine Held.load 79 _ rfl rfl gx rfl 79 _ (0, 0) _ (fun v hv => hv.elim fun R h => h.x) Tryz.underlying79 rfl infoTh ?_; simp only [Act.put, List.setIfInBounds_toArray, List.set_cons_succ, List.set_cons_zero]
     refine Held.take (.pointer (some ⟨w.heap.size, 16, none⟩)) rfl (fun _ _ => by kernel_rfl) ?_; simp only [Act.put, List.setIfInBounds_toArray, List.set_cons_succ, List.set_cons_zero]
     refine Held.take (.bool true) rfl (fun v hv => by obtain ⟨R, h⟩ := hv; have hc : v.cell? ⟨w.heap.size, 16, none⟩ = some (.bool true) := h.cS rfl; go_simp) ?_; simp only [Act.put, List.setIfInBounds_toArray, List.set_cons_succ, List.set_cons_zero]
     refine Held.take (.bool true) rfl (fun _ _ => by kernel_rfl) ?_; simp only [Act.put, List.setIfInBounds_toArray, List.set_cons_succ, List.set_cons_zero]
     refine Held.take (.pointer (some ⟨b, 0, none⟩)) rfl (fun _ _ => by kernel_rfl) ?_; simp only [Act.put, List.setIfInBounds_toArray, List.set_cons_succ, List.set_cons_zero]
     refine Held.take (.pointer (some ⟨go, 4, none⟩)) rfl (fun _ _ => by kernel_rfl) ?_; simp only [Act.put, List.setIfInBounds_toArray, List.set_cons_succ, List.set_cons_zero]
     refine Held.take (.int .u64 pa) rfl (fun v hv => by obtain ⟨R, h⟩ := hv; have hc : v.cell? ⟨go, 4, none⟩ = some (.int .u64 pa) := h.cO rfl; go_simp) ?_; simp only [Act.put, List.setIfInBounds_toArray, List.set_cons_succ, List.set_cons_zero]
     refine Held.call 110 #[.pointer (some ⟨b, 0, none⟩), .int .u64 pa] (.bool true) (fun v => v = w5.drew) rfl (by go_simp) ((folder_any pa _ (HT.out.below HB.out.below) hpa).mono (by rintro e w2 ⟨h1, rfl⟩; exact ⟨by rw [h1, hfo2.out], rfl⟩)) ?_; rintro _ rfl; refine ⟨⟨_, HB.out⟩, ?_⟩; simp only [Act.put, List.setIfInBounds_toArray, List.set_cons_succ, List.set_cons_zero]
     refine Held.take (.bool true) rfl (fun _ _ => by kernel_rfl) ?_; simp only [Act.put, List.setIfInBounds_toArray, List.set_cons_succ, List.set_cons_zero]
     refine Held.take (.bool true) rfl (fun _ _ => by kernel_rfl) ?_; simp only [Act.put, List.setIfInBounds_toArray, List.set_cons_succ, List.set_cons_zero]
     refine Held.take (.pointer (some ⟨b, 0, none⟩)) rfl (fun _ _ => by kernel_rfl) ?_; simp only [Act.put, List.setIfInBounds_toArray, List.set_cons_succ, List.set_cons_zero]
     refine Held.take (.pointer (some ⟨go, 4, none⟩)) rfl (fun _ _ => by kernel_rfl) ?_; simp only [Act.put, List.setIfInBounds_toArray, List.set_cons_succ, List.set_cons_zero]
     refine Held.take (.int .u64 pa) rfl (fun v hv => by obtain ⟨R, h⟩ := hv; have hc : v.cell? ⟨go, 4, none⟩ = some (.int .u64 pa) := h.cO rfl; go_simp) ?_; simp only [Act.put, List.setIfInBounds_toArray, List.set_cons_succ, List.set_cons_zero]
     refine Held.take (.pointer (some ⟨go, 3, none⟩)) rfl (fun _ _ => by kernel_rfl) ?_; simp only [Act.put, List.setIfInBounds_toArray, List.set_cons_succ, List.set_cons_zero]
     refine Held.take (.int .u64 th) rfl (fun v hv => by obtain ⟨R, h⟩ := hv; have hc : v.cell? ⟨go, 3, none⟩ = some (.int .u64 th) := h.cO rfl; go_simp) ?_; simp only [Act.put, List.setIfInBounds_toArray, List.set_cons_succ, List.set_cons_zero]
     refine Held.call 111 #[.pointer (some ⟨b, 0, none⟩), .int .u64 pa, .int .u64 th] (.bool be) (fun v => Below w5.drew.heap.size w5.drew v) rfl (by go_simp) ((below_any pa th _ (HT.out.below HB.out.below) HF.out hpa).mono (by rintro e w2 ⟨h1, k⟩; exact ⟨by rw [h1, ← hbe2.out], k⟩)) ?_; intro w2 kb; replace HB := hide (HB.out.step kb); refine ⟨⟨_, HB.out⟩, ?_⟩; simp only [Act.put, List.setIfInBounds_toArray, List.set_cons_succ, List.set_cons_zero]
     refine Held.take (.bool (!be)) rfl (fun _ _ => by kernel_rfl) ?_; simp only [Act.put, List.setIfInBounds_toArray, List.set_cons_succ, List.set_cons_zero]
     refine Held.take (.bool (!be)) rfl (fun _ _ => by kernel_rfl) ?_; simp only [Act.put, List.setIfInBounds_toArray, List.set_cons_succ, List.set_cons_zero]
     refine Held.store 79 _ _ rfl rfl (w.heap.size + 1) _ rfl rfl 79 _ HB.out.r infoTh rfl (by simp [Value.oneCell']) ⟨⟨_, HB.out.storeR _⟩, ?_⟩; simp only [Act.put]
     refine Held.take _ rfl (fun _ _ => rfl) ?_; simp only [Act.put, List.setIfInBounds_toArray, List.set_cons_succ, List.set_cons_zero]
     show Exit.then _ _ _ _ _
     go_wp2_with fail
     refine bodyPost_ret (Wire.results_cell2_row Tryz.results78 _ _ _ _ _ (0, 0) _ rfl (HB.out.setR _).1 Tryz.underlying79 rfl infoTh) rfl ?_
     exact ⟨⟨xi, pa, nm, xd, xg, xz⟩, (by rw [HE.out]; cases be <;> rfl), (fun y hy => by rw [HE.out] at hy; cases be with | false => exact Option.some.inj hy | true => cases hy), (HB.out.setR _).2⟩
end Go.Proofs.YtnbhchdaobimmaaGreatDoor
/- Contract: what an operation makes of its thing: a thing goes to the trash. -/
namespace Go.Proofs.YtnbhchdaobimmaaGreatDoor
open Go.RowKit Go.Opn Go.Stamp Go.MapInt Go.Mov Go.Shelf
attribute [local go_sem] Oper.semAt_some
set_option maxHeartbeats 4000000 in
set_option maxRecDepth 100000 in
theorem becomes3 {b : Nat} {mb : Option Nat} {t : Ths} (e : En) (w : World) (h : ThsAt Tryz.prog 49 b mb t w) (hf : Fine t) (he : e.Fits) (hkd : e.op.kind = 3) :
  Calls Tryz.prog 78 #[.pointer (some ⟨b, 0, none⟩), (Sp.mk e (Mov.look t e.op.thing)).v] w fun r w' =>
   ∃ x : Th, r = .returned (.tuple #[x.v, .bool (now t.length t e.op).isSome]) ∧ (∀ y, now t.length t e.op = some y → x = y) ∧ Below w.heap.size w w' := by
 obtain ⟨⟨kd, ⟨tc, tk⟩, th, pa, nm, dr, dg, sz⟩, eh⟩ := e
 have hth : Num th := he.1.thing
 have hpa : Num pa := he.1.par
 clear he
 generalize hwas : Mov.look t th = was
 obtain ⟨⟨xi, xp, xn, xd, xg, xz⟩, hx⟩ : ∃ x, x = was.getD Th.zero := ⟨_, rfl⟩
 obtain ⟨N, hN⟩ : ∃ N, N = now t.length t (Ob.mk kd ⟨tc, tk⟩ th pa nm dr dg sz) := ⟨_, rfl⟩
 unfold Sp.v Sp.x
 dsimp only at hkd ⊢
 rw [← hx]
 dsimp only
 rw [← hN]
 have HT := hide h
 have HF := hide hf
 have HW := hide hwas
 have HX := hide hx
 have HN := hide hN
 clear h hf hwas hx hN
 subst hkd
 go_enter Tryz.func78, Tryz.ntmps78
 go_upto_region 1 with fail
 go_cut [6, 7] (fun v6 v7 wx => ∃ go gx, v6 = .pointer (some ⟨go, 0, none⟩) ∧ v7 = .pointer (some ⟨gx, 0, none⟩) ∧ Hid (Bc w w.heap.size (w.heap.size + 1) go gx #[.int .i64 3, .int .u64 tc, .int .i64 tk, .int .u64 th, .int .u64 pa, .string nm, .bool dr, .string dg, .int .i64 sz, .string eh, .int .u64 xi, .int .u64 xp, .string xn, .bool xd, .string xg, .int .i64 xz, .bool was.isSome] #[.int .u64 0, .int .u64 0, .string ⟨#[]⟩, .bool false, .string ⟨#[]⟩, .int .i64 0] #[.int .i64 3, .int .u64 tc, .int .i64 tk, .int .u64 th, .int .u64 pa, .string nm, .bool dr, .string dg, .int .i64 sz] #[.int .u64 xi, .int .u64 xp, .string xn, .bool xd, .string xg, .int .i64 xz] wx))
 case first =>
  go_region
  all_goals go_wp2
  ·go_meet
   exact ⟨_, _, rfl, rfl, Bc.new1 w _ _ _ _⟩
  ·go_meet
   exact ⟨_, _, rfl, rfl, Bc.new2 w _ _ _ _⟩
 case rest =>
  obtain ⟨go, gx, rfl, rfl, HB⟩ := hcut
  have o0 : wc.cell? ⟨go, 0, none⟩ = some (.int .i64 3) := HB.out.cO rfl
  have x1 : wc.cell? ⟨gx, 1, none⟩ = some (.int .u64 xp) := HB.out.cX rfl
  have f1 : wc.frozen? ⟨gx, 1, none⟩ = false := frozen_of_row _ _ _ _ _ HB.out.x
  go_upto_region 11 with fail
  replace HB := hide (HB.out.cellX 1 (.int .u64 1))
  simp only [List.setIfInBounds_toArray, List.set_cons_succ, List.set_cons_zero] at HB
  clear o0 x1 f1
  generalize wc.setCell ⟨gx, 1, none⟩ (.int .u64 1) = w5 at *
  have HE : Hid (N = was.map fun _ => ⟨xi, 1, xn, xd, xg, xz⟩) := by
   show _ = _
   rw [HN.out]; unfold now
   cases was with
   | none => simp [HW.out]
   | some y =>
    have HY : y = ⟨xi, xp, xn, xd, xg, xz⟩ := HX.out.symm
    simp [HW.out, HY]
  have ⟨⟨q0, q1, q2, q3, q4, q5⟩, ⟨g0, g1, g2, g3, g4, g5⟩⟩ := HB.out.cR
  have ⟨x0, x1, x2, x3, x4, x5⟩ := HB.out.cX6
  have s16 : w5.cell? ⟨w.heap.size, 16, none⟩ = some (.bool was.isSome) := HB.out.cS rfl
  have hne := HB.out.ne
  go_region
  all_goals go_wp2
  all_goals refine bodyPost_ret (Wire.results_cell2_row Tryz.results78 _ _ _ _ _ (0, 0) _ rfl (HB.out.set6 _ _ _ _ _ _).1 Tryz.underlying79 rfl infoTh) rfl ?_
  all_goals exact ⟨⟨xi, 1, xn, xd, xg, xz⟩, (by rw [HE.out]; cases was <;> rfl), (fun y hy => by rw [HE.out] at hy; cases was with | none => cases hy | some z => exact Option.some.inj hy), (HB.out.set6 _ _ _ _ _ _).2⟩
end Go.Proofs.YtnbhchdaobimmaaGreatDoor
/- Contract: what an operation makes of its thing: a file has other bytes. -/
namespace Go.Proofs.YtnbhchdaobimmaaGreatDoor
open Go.RowKit Go.Opn Go.Stamp Go.MapInt Go.Mov Go.Shelf
attribute [local go_sem] Oper.semAt_some
set_option maxHeartbeats 4000000 in
set_option maxRecDepth 100000 in
theorem becomes4 {b : Nat} {mb : Option Nat} {t : Ths} (e : En) (w : World) (h : ThsAt Tryz.prog 49 b mb t w) (hf : Fine t) (he : e.Fits) (hkd : e.op.kind = 4) :
  Calls Tryz.prog 78 #[.pointer (some ⟨b, 0, none⟩), (Sp.mk e (Mov.look t e.op.thing)).v] w fun r w' =>
   ∃ x : Th, r = .returned (.tuple #[x.v, .bool (now t.length t e.op).isSome]) ∧ (∀ y, now t.length t e.op = some y → x = y) ∧ Below w.heap.size w w' := by
 obtain ⟨⟨kd, ⟨tc, tk⟩, th, pa, nm, dr, dg, sz⟩, eh⟩ := e
 have hth : Num th := he.1.thing
 have hpa : Num pa := he.1.par
 clear he
 generalize hwas : Mov.look t th = was
 obtain ⟨⟨xi, xp, xn, xd, xg, xz⟩, hx⟩ : ∃ x, x = was.getD Th.zero := ⟨_, rfl⟩
 obtain ⟨N, hN⟩ : ∃ N, N = now t.length t (Ob.mk kd ⟨tc, tk⟩ th pa nm dr dg sz) := ⟨_, rfl⟩
 unfold Sp.v Sp.x
 dsimp only at hkd ⊢
 rw [← hx]
 dsimp only
 rw [← hN]
 have HT := hide h
 have HF := hide hf
 have HW := hide hwas
 have HX := hide hx
 have HN := hide hN
 clear h hf hwas hx hN
 subst hkd
 go_enter Tryz.func78, Tryz.ntmps78
 go_upto_region 1 with fail
 go_cut [6, 7] (fun v6 v7 wx => ∃ go gx, v6 = .pointer (some ⟨go, 0, none⟩) ∧ v7 = .pointer (some ⟨gx, 0, none⟩) ∧ Hid (Bc w w.heap.size (w.heap.size + 1) go gx #[.int .i64 4, .int .u64 tc, .int .i64 tk, .int .u64 th, .int .u64 pa, .string nm, .bool dr, .string dg, .int .i64 sz, .string eh, .int .u64 xi, .int .u64 xp, .string xn, .bool xd, .string xg, .int .i64 xz, .bool was.isSome] #[.int .u64 0, .int .u64 0, .string ⟨#[]⟩, .bool false, .string ⟨#[]⟩, .int .i64 0] #[.int .i64 4, .int .u64 tc, .int .i64 tk, .int .u64 th, .int .u64 pa, .string nm, .bool dr, .string dg, .int .i64 sz] #[.int .u64 xi, .int .u64 xp, .string xn, .bool xd, .string xg, .int .i64 xz] wx))
 case first =>
  go_region
  all_goals go_wp2
  ·go_meet
   exact ⟨_, _, rfl, rfl, Bc.new1 w _ _ _ _⟩
  ·go_meet
   exact ⟨_, _, rfl, rfl, Bc.new2 w _ _ _ _⟩
 case rest =>
  obtain ⟨go, gx, rfl, rfl, HB⟩ := hcut
  have o0 : wc.cell? ⟨go, 0, none⟩ = some (.int .i64 4) := HB.out.cO rfl
  have o7 : wc.cell? ⟨go, 7, none⟩ = some (.string dg) := HB.out.cO rfl
  have o8 : wc.cell? ⟨go, 8, none⟩ = some (.int .i64 sz) := HB.out.cO rfl
  have x4 : wc.cell? ⟨gx, 4, none⟩ = some (.string xg) := HB.out.cX rfl
  have x5 : wc.cell? ⟨gx, 5, none⟩ = some (.int .i64 xz) := HB.out.cX rfl
  have f4 : wc.frozen? ⟨gx, 4, none⟩ = false := frozen_of_row _ _ _ _ _ HB.out.x
  have f5 : wc.frozen? ⟨gx, 5, none⟩ = false := frozen_of_row _ _ _ _ _ HB.out.x
  go_upto_region 13 with fail
  go_cut [] (fun wx => Hid (Bc w w.heap.size (w.heap.size + 1) go gx #[.int .i64 4, .int .u64 tc, .int .i64 tk, .int .u64 th, .int .u64 pa, .string nm, .bool dr, .string dg, .int .i64 sz, .string eh, .int .u64 xi, .int .u64 xp, .string xn, .bool xd, .string xg, .int .i64 xz, .bool was.isSome] #[.int .u64 0, .int .u64 0, .string ⟨#[]⟩, .bool false, .string ⟨#[]⟩, .int .i64 0] #[.int .i64 4, .int .u64 tc, .int .i64 tk, .int .u64 th, .int .u64 pa, .string nm, .bool dr, .string dg, .int .i64 sz] #[.int .u64 xi, .int .u64 xp, .string xn, .bool xd, .string dg, .int .i64 sz] wx))
  case first =>
   go_region
   all_goals go_wp2
   all_goals go_meet
   all_goals first | exact (((HB.out.cellX 4 (.string dg)).cellX 5 (.int .i64 sz)).drew) | exact (((HB.out.cellX 5 (.int .i64 sz)).cellX 4 (.string dg)).drew)
  case rest =>
   clear HB o0 o7 o8 x4 x5 f4 f5
   have HB := hcut
   clear hcut
   generalize wc = w5 at *
   cases was with
   | none =>
    have HE : Hid (N = none) := by show _ = _; rw [HN.out]; unfold now; simp [HW.out]
    have ⟨⟨q0, q1, q2, q3, q4, q5⟩, ⟨g0, g1, g2, g3, g4, g5⟩⟩ := HB.out.cR
    have ⟨x0, x1, x2, x3, x4, x5⟩ := HB.out.cX6
    have s16 : w5.cell? ⟨w.heap.size, 16, none⟩ = some (.bool false) := HB.out.cS rfl
    have hne := HB.out.ne
    go_upto_region 14 with fail
    go_region
    all_goals go_wp2
    all_goals refine bodyPost_ret (Wire.results_cell2_row Tryz.results78 _ _ _ _ _ (0, 0) _ rfl (HB.out.set6 _ _ _ _ _ _).1 Tryz.underlying79 rfl infoTh) rfl ?_
    all_goals exact ⟨⟨xi, xp, xn, xd, dg, sz⟩, (by rw [HE.out]; rfl), (fun y hy => by rw [HE.out] at hy; cases hy), (HB.out.set6 _ _ _ _ _ _).2⟩
   | some y =>
    have HY : Hid (y = ⟨xi, xp, xn, xd, xg, xz⟩) := HX.out.symm
    have HE : Hid (N = if xd then none else some ⟨xi, xp, xn, xd, dg, sz⟩) := by show _ = _; rw [HN.out]; unfold now; simp [HW.out, HY.out]; cases xd <;> rfl
    have ⟨⟨q0, q1, q2, q3, q4, q5⟩, ⟨g0, g1, g2, g3, g4, g5⟩⟩ := HB.out.cR
    have ⟨x0, x1, x2, x3, x4, x5⟩ := HB.out.cX6
    have s16 : w5.cell? ⟨w.heap.size, 16, none⟩ = some (.bool true) := HB.out.cS rfl
    have hne := HB.out.ne
    go_upto_region 14 with fail
    go_region
    all_goals go_wp2
    all_goals refine bodyPost_ret (Wire.results_cell2_row Tryz.results78 _ _ _ _ _ (0, 0) _ rfl (HB.out.set6 _ _ _ _ _ _).1 Tryz.underlying79 rfl infoTh) rfl ?_
    all_goals exact ⟨⟨xi, xp, xn, xd, dg, sz⟩, (by rw [HE.out]; cases xd <;> rfl), (fun y hy => by rw [HE.out] at hy; cases xd with | false => exact Option.some.inj hy | true => cases hy), (HB.out.set6 _ _ _ _ _ _).2⟩
end Go.Proofs.YtnbhchdaobimmaaGreatDoor
/- Contract: what an operation makes of its thing. -/
namespace Go.Proofs.YtnbhchdaobimmaaGreatDoor
open Go.RowKit Go.Opn Go.Stamp Go.MapInt Go.Mov
set_option maxRecDepth 100000 in
theorem becomes_any {b : Nat} {mb : Option Nat} {t : Ths} (e : En) (w : World) (h : ThsAt Tryz.prog 49 b mb t w) (hf : Fine t) (he : e.Fits) :
  Calls Tryz.prog 78 #[.pointer (some ⟨b, 0, none⟩), (Sp.mk e (Mov.look t e.op.thing)).v] w fun r w' =>
   ∃ x : Th, r = .returned (.tuple #[x.v, .bool (now t.length t e.op).isSome]) ∧ (∀ y, now t.length t e.op = some y → x = y) ∧ Below w.heap.size w w' := by
 by_cases h1 : e.op.kind = 1
 ·exact becomes1 e w h hf he h1
 ·by_cases h2 : e.op.kind = 2
  ·exact becomes2 e w h hf he h2
  ·by_cases h3 : e.op.kind = 3
   ·exact becomes3 e w h hf he h3
   ·by_cases h4 : e.op.kind = 4
    ·exact becomes4 e w h hf he h4
    ·exact becomes0 e w h hf he ⟨h1, h2, h3, h4⟩
end Go.Proofs.YtnbhchdaobimmaaGreatDoor
