/- The walk: operations are ordered by their times, then by their digests. -/
import Derived.Test.YtohdadjknefjcaaMoveBefore
import Derived.Test.YtohdadjknefjcaaMoveAwake
import Derived.Test.YtohdadjknefjcaaMoveOpen
namespace Go.Proofs.Ytohdadjknefjcaa
open Go.RowKit Go.Opn Go.Stamp Go.MapInt Go.Mov Go.Shelf
attribute [local go_sem] Oper.semAt_some
theorem infoLe : (Try.prog.info? 42).map (·.size) = some 10 := by kernel_rfl
set_option maxHeartbeats 4000000 in
set_option maxRecDepth 100000 in
theorem moveOrders_any (a b : Le) (w : World) (_ : a.Fits) (_ : b.Fits) : Calls Try.prog 5 #[a.v, b.v] w fun r w' => r = .returned (.bool true) ∧ Below w.heap.size w w' := by
  have HEa := hide (fun v => entry_any a v)
  have HEb := hide (fun v => entry_any b v)
  have HRa := hide (fun v => refE_any a v)
  have HRb := hide (fun v => refE_any b v)
  have HC := hide (fun v => compareE_any a.en b.en v)
  have HB1 := hide (fun v => rbefore13_any a.en b.en v)
  have HB2 := hide (fun v => rbefore13_any b.en a.en v)
  obtain ⟨c, hc⟩ : ∃ c, c = cmpE a.en b.en := ⟨_, rfl⟩
  obtain ⟨p, hp⟩ : ∃ p, p = bfB a.en b.en := ⟨_, rfl⟩
  obtain ⟨q, hq⟩ : ∃ q, q = bfB b.en a.en := ⟨_, rfl⟩
  have hp2 : decide (c < 0) = p := by rw [hp, hc]; rfl
  have hq2 : decide (0 < c) = q := by rw [hq, hc, bfB_gt]
  rw [← hc] at HC
  rw [← hp] at HB1
  rw [← hq] at HB2
  clear hc hp hq
  obtain ⟨⟨kd, ⟨tc, tk⟩, th, pa, nm, dr, dg, sz⟩, eh⟩ := a
  obtain ⟨⟨kd', ⟨tc', tk'⟩, th', pa', nm', dr', dg', sz'⟩, eh'⟩ := b
  simp only [Le.v, Le.en, En.v] at HEa HEb HRa HRb HC HB1 HB2 ⊢
  have HW : Hid (((w.alloc (.cells #[.int .i64 kd, .int .u64 tc, .int .i64 tk, .int .u64 th, .int .u64 pa, .string nm, .bool dr, .string dg, .int .i64 sz, .int .u8 (eh.toNat : Nat)] 42)).alloc (.cells #[.int .i64 kd', .int .u64 tc', .int .i64 tk', .int .u64 th', .int .u64 pa', .string nm', .bool dr', .string dg', .int .i64 sz', .int .u8 (eh'.toNat : Nat)] 42)).heap[w.heap.size]? = some (.cells #[.int .i64 kd, .int .u64 tc, .int .i64 tk, .int .u64 th, .int .u64 pa, .string nm, .bool dr, .string dg, .int .i64 sz, .int .u8 (eh.toNat : Nat)] 42 (0, 0)) ∧ ((w.alloc (.cells #[.int .i64 kd, .int .u64 tc, .int .i64 tk, .int .u64 th, .int .u64 pa, .string nm, .bool dr, .string dg, .int .i64 sz, .int .u8 (eh.toNat : Nat)] 42)).alloc (.cells #[.int .i64 kd', .int .u64 tc', .int .i64 tk', .int .u64 th', .int .u64 pa', .string nm', .bool dr', .string dg', .int .i64 sz', .int .u8 (eh'.toNat : Nat)] 42)).heap[w.heap.size + 1]? = some (.cells #[.int .i64 kd', .int .u64 tc', .int .i64 tk', .int .u64 th', .int .u64 pa', .string nm', .bool dr', .string dg', .int .i64 sz', .int .u8 (eh'.toNat : Nat)] 42 (0, 0)) ∧ Below w.heap.size w ((w.alloc (.cells #[.int .i64 kd, .int .u64 tc, .int .i64 tk, .int .u64 th, .int .u64 pa, .string nm, .bool dr, .string dg, .int .i64 sz, .int .u8 (eh.toNat : Nat)] 42)).alloc (.cells #[.int .i64 kd', .int .u64 tc', .int .i64 tk', .int .u64 th', .int .u64 pa', .string nm', .bool dr', .string dg', .int .i64 sz', .int .u8 (eh'.toNat : Nat)] 42))) :=
    ⟨(heap_alloc_old _ _ (by simp)).trans (heap_alloc_new _ _), new_at (by simp) _, ((Below.refl _ _).alloc (Nat.le_refl _) _).alloc (by simp) _⟩
  go_enter Try.func5, Try.ntmps5
  go_upto_region 1 with fail
  generalize (w.alloc (.cells #[.int .i64 kd, .int .u64 tc, .int .i64 tk, .int .u64 th, .int .u64 pa, .string nm, .bool dr, .string dg, .int .i64 sz, .int .u8 (eh.toNat : Nat)] 42)).alloc (.cells #[.int .i64 kd', .int .u64 tc', .int .i64 tk', .int .u64 th', .int .u64 pa', .string nm', .bool dr', .string dg', .int .i64 sz', .int .u8 (eh'.toNat : Nat)] 42) = W at *
  refine QuietCalls.region (by kernel_rfl) (by kernel_rfl) ?_
  refine QuietCalls.load rfl 42 _ rfl _ rfl _ _ _ _ HW.out.1 Try.underlying42 rfl infoLe ?_; simp only [Act.put, List.setIfInBounds_toArray, List.set_cons_succ, List.set_cons_zero]
  refine QuietCalls.call rfl 15 #[.agg #[.int .i64 kd, .int .u64 tc, .int .i64 tk, .int .u64 th, .int .u64 pa, .string nm, .bool dr, .string dg, .int .i64 sz, .int .u8 (eh.toNat : Nat)]] (.agg #[.int .i64 kd, .int .u64 tc, .int .i64 tk, .int .u64 th, .int .u64 pa, .string nm, .bool dr, .string dg, .int .i64 sz, .string ⟨#[eh]⟩]) (fun v _ => HEa.out v) (fun v => by go_simp) ?_; simp only [Act.put, List.setIfInBounds_toArray, List.set_cons_succ, List.set_cons_zero]
  refine QuietCalls.load rfl 42 _ rfl _ rfl _ _ _ _ HW.out.2.1 Try.underlying42 rfl infoLe ?_; simp only [Act.put, List.setIfInBounds_toArray, List.set_cons_succ, List.set_cons_zero]
  refine QuietCalls.call rfl 15 #[.agg #[.int .i64 kd', .int .u64 tc', .int .i64 tk', .int .u64 th', .int .u64 pa', .string nm', .bool dr', .string dg', .int .i64 sz', .int .u8 (eh'.toNat : Nat)]] (.agg #[.int .i64 kd', .int .u64 tc', .int .i64 tk', .int .u64 th', .int .u64 pa', .string nm', .bool dr', .string dg', .int .i64 sz', .string ⟨#[eh']⟩]) (fun v _ => HEb.out v) (fun v => by go_simp) ?_; simp only [Act.put, List.setIfInBounds_toArray, List.set_cons_succ, List.set_cons_zero]
  refine QuietCalls.call rfl 23 #[.agg #[.int .i64 kd, .int .u64 tc, .int .i64 tk, .int .u64 th, .int .u64 pa, .string nm, .bool dr, .string dg, .int .i64 sz, .string ⟨#[eh]⟩], .agg #[.int .i64 kd', .int .u64 tc', .int .i64 tk', .int .u64 th', .int .u64 pa', .string nm', .bool dr', .string dg', .int .i64 sz', .string ⟨#[eh']⟩]] (.int .i64 c) (fun v _ => HC.out v) (fun v => by go_simp) ?_; simp only [Act.put, List.setIfInBounds_toArray, List.set_cons_succ, List.set_cons_zero]
  iterate 1 (first | go_big_quiet_step (fail) | quiet_step (fail))
  refine wpQuiet_nil ?_
  intro w2 k2
  have HW2 : Hid (w2.heap[w.heap.size]? = some (.cells #[.int .i64 kd, .int .u64 tc, .int .i64 tk, .int .u64 th, .int .u64 pa, .string nm, .bool dr, .string dg, .int .i64 sz, .int .u8 (eh.toNat : Nat)] 42 (0, 0)) ∧ w2.heap[w.heap.size + 1]? = some (.cells #[.int .i64 kd', .int .u64 tc', .int .i64 tk', .int .u64 th', .int .u64 pa', .string nm', .bool dr', .string dg', .int .i64 sz', .int .u8 (eh'.toNat : Nat)] 42 (0, 0)) ∧ Below w.heap.size w w2) :=
    ⟨(k2.block _ (Array.getElem?_eq_some_iff.1 HW.out.1).1).trans HW.out.1, (k2.block _ (Array.getElem?_eq_some_iff.1 HW.out.2.1).1).trans HW.out.2.1, HW.out.2.2.trans (k2.mono HW.out.2.2.size)⟩
  clear k2 HW HEa HEb HC
  have HW := HW2
  clear HW2
  go_upto_region 2 with fail
  refine QuietCalls.region (by kernel_rfl) (by kernel_rfl) ?_
  refine QuietCalls.call rfl 10 #[] (.bool true) (fun v _ => awake13_any v) (fun v => by go_simp) ?_; simp only [Act.put, List.setIfInBounds_toArray, List.set_cons_succ, List.set_cons_zero]
  iterate 3 (first | go_big_quiet_step (fail) | quiet_step (fail))
  refine QuietCalls.load rfl 42 _ rfl _ rfl _ _ _ _ HW.out.1 Try.underlying42 rfl infoLe ?_; simp only [Act.put, List.setIfInBounds_toArray, List.set_cons_succ, List.set_cons_zero]
  refine QuietCalls.call rfl 13 #[.agg #[.int .i64 kd, .int .u64 tc, .int .i64 tk, .int .u64 th, .int .u64 pa, .string nm, .bool dr, .string dg, .int .i64 sz, .int .u8 (eh.toNat : Nat)]] (.agg #[.int .i64 kd, .int .u64 tc, .int .i64 tk, .int .u64 th, .int .u64 pa, .string nm, .bool dr, .string dg, .int .i64 sz, .string ⟨#[eh]⟩]) (fun v _ => HRa.out v) (fun v => by go_simp) ?_; simp only [Act.put, List.setIfInBounds_toArray, List.set_cons_succ, List.set_cons_zero]
  refine QuietCalls.load rfl 42 _ rfl _ rfl _ _ _ _ HW.out.2.1 Try.underlying42 rfl infoLe ?_; simp only [Act.put, List.setIfInBounds_toArray, List.set_cons_succ, List.set_cons_zero]
  refine QuietCalls.call rfl 13 #[.agg #[.int .i64 kd', .int .u64 tc', .int .i64 tk', .int .u64 th', .int .u64 pa', .string nm', .bool dr', .string dg', .int .i64 sz', .int .u8 (eh'.toNat : Nat)]] (.agg #[.int .i64 kd', .int .u64 tc', .int .i64 tk', .int .u64 th', .int .u64 pa', .string nm', .bool dr', .string dg', .int .i64 sz', .string ⟨#[eh']⟩]) (fun v _ => HRb.out v) (fun v => by go_simp) ?_; simp only [Act.put, List.setIfInBounds_toArray, List.set_cons_succ, List.set_cons_zero]
  refine QuietCalls.call rfl 24 #[.agg #[.int .i64 kd, .int .u64 tc, .int .i64 tk, .int .u64 th, .int .u64 pa, .string nm, .bool dr, .string dg, .int .i64 sz, .string ⟨#[eh]⟩], .agg #[.int .i64 kd', .int .u64 tc', .int .i64 tk', .int .u64 th', .int .u64 pa', .string nm', .bool dr', .string dg', .int .i64 sz', .string ⟨#[eh']⟩]] (.bool p) (fun v _ => HB1.out v) (fun v => by go_simp) ?_; simp only [Act.put, List.setIfInBounds_toArray, List.set_cons_succ, List.set_cons_zero]
  iterate 5 (first | go_big_quiet_step (fail) | quiet_step (fail))
  refine QuietCalls.load rfl 42 _ rfl _ rfl _ _ _ _ HW.out.2.1 Try.underlying42 rfl infoLe ?_; simp only [Act.put, List.setIfInBounds_toArray, List.set_cons_succ, List.set_cons_zero]
  refine QuietCalls.call rfl 13 #[.agg #[.int .i64 kd', .int .u64 tc', .int .i64 tk', .int .u64 th', .int .u64 pa', .string nm', .bool dr', .string dg', .int .i64 sz', .int .u8 (eh'.toNat : Nat)]] (.agg #[.int .i64 kd', .int .u64 tc', .int .i64 tk', .int .u64 th', .int .u64 pa', .string nm', .bool dr', .string dg', .int .i64 sz', .string ⟨#[eh']⟩]) (fun v _ => HRb.out v) (fun v => by go_simp) ?_; simp only [Act.put, List.setIfInBounds_toArray, List.set_cons_succ, List.set_cons_zero]
  refine QuietCalls.load rfl 42 _ rfl _ rfl _ _ _ _ HW.out.1 Try.underlying42 rfl infoLe ?_; simp only [Act.put, List.setIfInBounds_toArray, List.set_cons_succ, List.set_cons_zero]
  refine QuietCalls.call rfl 13 #[.agg #[.int .i64 kd, .int .u64 tc, .int .i64 tk, .int .u64 th, .int .u64 pa, .string nm, .bool dr, .string dg, .int .i64 sz, .int .u8 (eh.toNat : Nat)]] (.agg #[.int .i64 kd, .int .u64 tc, .int .i64 tk, .int .u64 th, .int .u64 pa, .string nm, .bool dr, .string dg, .int .i64 sz, .string ⟨#[eh]⟩]) (fun v _ => HRa.out v) (fun v => by go_simp) ?_; simp only [Act.put, List.setIfInBounds_toArray, List.set_cons_succ, List.set_cons_zero]
  refine QuietCalls.call rfl 24 #[.agg #[.int .i64 kd', .int .u64 tc', .int .i64 tk', .int .u64 th', .int .u64 pa', .string nm', .bool dr', .string dg', .int .i64 sz', .string ⟨#[eh']⟩], .agg #[.int .i64 kd, .int .u64 tc, .int .i64 tk, .int .u64 th, .int .u64 pa, .string nm, .bool dr, .string dg, .int .i64 sz, .string ⟨#[eh]⟩]] (.bool q) (fun v _ => HB2.out v) (fun v => by go_simp) ?_; simp only [Act.put, List.setIfInBounds_toArray, List.set_cons_succ, List.set_cons_zero]
  iterate 3 (first | go_big_quiet_step (fail) | quiet_step (fail))
  refine wpQuiet_nil ?_
  intro w3 k3
  go_wp2
  go_ret
  exact ⟨by simp, HW.out.2.2.trans (k3.mono HW.out.2.2.size)⟩
end Go.Proofs.Ytohdadjknefjcaa
