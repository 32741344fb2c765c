/- Several texts in one: MoveBefore, MoveRAdd, MoveSpot, MoveFind, MoveFold, MoveRMake, MoveRDo, MoveRThings. -/
import Derived.Test.YtnbhchdaobimmaaGreatDoorEntryAll
import Derived.Test.YtnbhchdaobimmaaGreatDoorMoveCompare
import Derived.Test.YtnbhchdaobimmaaGreatDoorRowsAll
import Derived.Test.YtnbhchdaobimmaaGreatDoorQuietAll
import Derived.Test.YtnbhchdaobimmaaGreatDoorMovPure
import Derived.BigQuiet
import Derived.Test.YtnbhchdaobimmaaGreatDoorRunAJ
import Derived.BigRegion
import Derived.Test.YtnbhchdaobimmaaGreatDoorRunAI
import Derived.Test.YtnbhchdaobimmaaGreatDoorMoveTwoAll
/- Contract: the document's order of operations. -/
namespace Go.Mov
open Go.RowKit Go.Opn Go.Stamp
def bfB (a b : En) : Bool := decide (cmpE a b < 0)
theorem bfB_same {a b : En} (h : a.op.tm = b.op.tm) : bfB a b = less a.h b.h := by
 unfold bfB
 rw [Bool.eq_iff_iff, decide_eq_true_iff, cmpE_lt]
 unfold Bf
 constructor
 ·rintro (h1 | h1)
  ·rw [h] at h1; unfold Tm.before at h1; omega
  ·exact h1.2
 ·exact fun h1 => .inr ⟨h, h1⟩
theorem bfB_other {a b : En} (h : a.op.tm ≠ b.op.tm) : bfB a b = decide (a.op.tm.before b.op.tm) := by
 unfold bfB
 rw [Bool.eq_iff_iff, decide_eq_true_iff, decide_eq_true_iff, cmpE_lt]
 unfold Bf
 constructor
 ·rintro (h1 | h1)
  ·exact h1
  ·exact absurd h1.1 h
 ·exact fun h1 => .inl h1
theorem bfB_gt (a b : En) : bfB b a = decide (0 < cmpE a b) := by
 unfold bfB
 rw [Bool.eq_iff_iff, decide_eq_true_iff, decide_eq_true_iff, cmpE_lt, cmpE_gt]
end Go.Mov
namespace Go.Proofs.YtnbhchdaobimmaaGreatDoor
open Go.RowKit Go.Opn Go.Stamp Go.MapInt Go.Mov Go.Shelf
attribute [local go_sem] Oper.semAt_some
set_option maxHeartbeats 1000000 in
set_option maxRecDepth 100000 in
theorem rbefore13_any (a b : En) (w : World) : Calls Tryz.prog 54 #[a.v, b.v] w fun r w' => r = .returned (.bool (bfB a b)) ∧ Below w.heap.size w w' := by
 have k2 : ∀ o1 o2 : Obj, Below w.heap.size w ((w.alloc o1).alloc o2) := fun o1 o2 => ((Below.refl _ w).alloc (Nat.le_refl _) _).alloc (by simp) _
 by_cases h : a.op.tm = b.op.tm
 ·rw [bfB_same h]
  obtain ⟨⟨kd, ⟨tc, tk⟩, th, pa, nm, dr, dg, sz⟩, eh⟩ := a
  obtain ⟨⟨kd', ⟨tc', tk'⟩, th', pa', nm', dr', dg', sz'⟩, eh'⟩ := b
  dsimp only at h
  cases h
  unfold En.v less
  dsimp only
  have K2 := hide k2
  clear k2
  go_enter Tryz.func54, Tryz.ntmps54
  go_wp2_with fail
  go_ret
  exact ⟨rfl, K2.out _ _⟩
 ·rw [bfB_other h]
  have HB := hide (fun v => rbefore_any a.op.tm b.op.tm v)
  obtain ⟨⟨kd, ⟨tc, tk⟩, th, pa, nm, dr, dg, sz⟩, eh⟩ := a
  obtain ⟨⟨kd', ⟨tc', tk'⟩, th', pa', nm', dr', dg', sz'⟩, eh'⟩ := b
  have hne : (tc == tc' && tk == tk') = false := by
   rw [Bool.and_eq_false_iff]
   by_cases e : tc = tc'
   ·right
    have : tk ≠ tk' := fun e2 => h (by dsimp only; rw [e, e2])
    simpa using this
   ·left; simpa using e
  generalize decide (Tm.before (Ob.tm (En.op ⟨⟨kd, ⟨tc, tk⟩, th, pa, nm, dr, dg, sz⟩, eh⟩)) (Ob.tm (En.op ⟨⟨kd', ⟨tc', tk'⟩, th', pa', nm', dr', dg', sz'⟩, eh'⟩))) = B at HB ⊢
  unfold Tm.v at HB
  unfold En.v
  dsimp only at HB ⊢
  have K2 := hide k2
  clear k2
  have hn2 : ¬ (tc = tc' ∧ tk = tk') := by rintro ⟨rfl, rfl⟩; simp at hne
  clear h hne
  go_enter Tryz.func54, Tryz.ntmps54
  by_cases e : tc = tc'
  ·have e2 : ¬ tk = tk' := fun e2 => hn2 ⟨e, e2⟩
   subst e
   clear hn2
   go_wp2_with (go_at_call 79; refine (HB.out _).mono ?_; rintro r w3 ⟨rfl, k3⟩; clear HB)
   go_ret
   exact ⟨rfl, (K2.out _ _).trans (k3.mono (by simp; omega))⟩
  ·clear hn2
   go_wp2_with (go_at_call 79; refine (HB.out _).mono ?_; rintro r w3 ⟨rfl, k3⟩; clear HB)
   go_ret
   exact ⟨rfl, (K2.out _ _).trans (k3.mono (by simp; omega))⟩
end Go.Proofs.YtnbhchdaobimmaaGreatDoor
/- Contract: the document's own adding of an operation. -/
namespace Go.Mov
open Go.RowKit
theorem En.cs_length (e : En) : e.cs.length = 10 := rfl
theorem en_one (e : En) : ∀ u ∈ e.cs, u.oneCell' = true := by
 intro u hu
 unfold En.cs at hu
 simp only [List.mem_cons, List.not_mem_nil, or_false] at hu
 rcases hu with rfl | rfl | rfl | rfl | rfl | rfl | rfl | rfl | rfl | rfl <;> rfl
theorem ens_one (es : List En) : ∀ u ∈ es.flatMap En.cs, u.oneCell' = true := fun u hu => by
 obtain ⟨s, _, h2⟩ := List.mem_flatMap.1 hu
 exact en_one s u h2
theorem place_ahead {l : List En} (h : Ord l) (e : En) {i : Nat} {x : En} (hx : l[i]? = some x) : bfB x e = decide (i < place l e) := by
 obtain ⟨h1, h2⟩ := place_spec (e := e) h
 unfold bfB
 rw [Bool.eq_iff_iff, decide_eq_true_iff, decide_eq_true_iff, cmpE_lt]
 have hil := (List.getElem?_eq_some_iff.1 hx).1
 constructor
 ·intro hb
  rcases Nat.lt_or_ge i (place l e) with h | h
  ·exact h
  ·refine absurd hb (h2 x (List.mem_iff_getElem?.2 ⟨i - place l e, ?_⟩))
   rw [List.getElem?_drop, show place l e + (i - place l e) = i by omega]
   exact hx
 ·intro hi
  exact h1 x (List.mem_iff_getElem?.2 ⟨i, by rw [List.getElem?_take_of_lt hi]; exact hx⟩)
theorem known_at {l : List En} (h : Ord l) (e : En) {x : En} (hx : l[place l e]? = some x) : known l e = !bfB e x := by
 have h1 := place_ahead h e hx
 rw [decide_eq_false (Nat.lt_irrefl _)] at h1
 unfold known
 rw [hx]
 show (cmpE x e == 0) = _
 rw [bfB_gt]
 unfold bfB at h1
 rw [decide_eq_false_iff_not] at h1
 rcases cmpE_spec x e with ⟨h2, _⟩ | ⟨h2, _⟩ | ⟨h2, _⟩ <;> rw [h2] at h1 ⊢ <;> simp at h1 ⊢
theorem known_end {l : List En} {e : En} (h : l.length ≤ place l e) : known l e = false := by
 unfold known
 rw [List.getElem?_eq_none h]
end Go.Mov
namespace Go.Proofs.YtnbhchdaobimmaaGreatDoor
open Go.RowKit Go.Opn Go.Stamp Go.MapInt Go.Mov Go.Shelf Go.Rws
attribute [local go_sem] Oper.semAt_some
set_option maxRecDepth 100000 in
theorem sliceHiN (x : World) : (Instr.sliceAt 53 (.slice none 0 0) none (some (.int .i64 0)) none).run Tryz.prog x = .ok (.slice none 0 0) x := by kernel_rfl
set_option maxRecDepth 100000 in
theorem sliceLoN (x : World) : (Instr.sliceAt 53 (.slice none 0 0) (some (.int .i64 0)) none none).run Tryz.prog x = .ok (.slice none 0 0) x := by kernel_rfl
set_option maxRecDepth 100000 in
theorem sliceHi (g off n c k : Nat) (x : World) (hc : k ≤ c) : (Instr.sliceAt 53 (.slice (some ⟨g, off, none⟩) n c) none (some (.int .i64 (k : Int))) none).run Tryz.prog x = .ok (.slice (some ⟨g, off, none⟩) k c) x := by
 have h1 : (k : Int) ≤ c := by omega
 go_simp
set_option maxRecDepth 100000 in
theorem sliceLo (g off n c k : Nat) (x : World) (hk : k ≤ n) (hc : n ≤ c) : (Instr.sliceAt 53 (.slice (some ⟨g, off, none⟩) n c) (some (.int .i64 (k : Int))) none none).run Tryz.prog x = .ok (restV (some ⟨g, off, none⟩) n c k 10) x := by
 have h1 : (k : Int) ≤ c := by omega
 have h2 : (k : Int) ≤ n := by omega
 have h3 : (n : Int) ≤ c := by omega
 unfold restV
 by_cases e : c = k
 ·subst e
  rw [if_pos rfl]
  go_simp
 ·rw [if_neg e]
  have e2 : ¬ (c : Int) = k := by omega
  go_simp
set_option maxRecDepth 100000 in
theorem sliceHiA {a : Option Addr} {n c k : Nat} (h : Nice (.slice a n c)) (hk : k ≤ n) (x : World) : (Instr.sliceAt 53 (.slice a n c) none (some (.int .i64 (k : Int))) none).run Tryz.prog x = .ok (.slice a k c) x := by
 have hc := h.cap
 rcases h with h | ⟨g, off, n', c', h, _⟩
 ·simp only [Value.slice.injEq] at h
  obtain ⟨rfl, rfl, rfl⟩ := h
  obtain rfl : k = 0 := by omega
  exact sliceHiN x
 ·simp only [Value.slice.injEq] at h
  obtain ⟨rfl, rfl, rfl⟩ := h
  exact sliceHi g off n c k x (by omega)
set_option maxRecDepth 100000 in
theorem sliceLoA {a : Option Addr} {n c k : Nat} (h : Nice (.slice a n c)) (hk : k ≤ n) (x : World) : (Instr.sliceAt 53 (.slice a n c) (some (.int .i64 (k : Int))) none none).run Tryz.prog x = .ok (restV a n c k 10) x := by
 have hc := h.cap
 rcases h with h | ⟨g, off, n', c', h, _⟩
 ·simp only [Value.slice.injEq] at h
  obtain ⟨rfl, rfl, rfl⟩ := h
  obtain rfl : k = 0 := by omega
  exact sliceLoN x
 ·simp only [Value.slice.injEq] at h
  obtain ⟨rfl, rfl, rfl⟩ := h
  exact sliceLo g off n c k x (by omega) hc
set_option maxRecDepth 100000 in
theorem infoREn3 : (Tryz.prog.info? 72).map (fun i => (i.zero, i.size, i.bytes)) = some (some (.agg #[.int .i64 0, .int .u64 0, .int .i64 0, .int .u64 0, .int .u64 0, .string ⟨#[]⟩, .bool false, .string ⟨#[]⟩, .int .i64 0, .string ⟨#[]⟩]), 10, 104) := by kernel_rfl
/-- What the document's Add leaves: the row of the new list. -/
structure Ra (w : World) (v0 v : Value) (l : List En) (w' : World) : Prop where
 row : RowsAt En.cs 10 w' v l
 spot : ∀ g, v.ownBlock = some g → v0.ownBlock = some g ∨ (w.heap.size ≤ g ∧ g < w'.heap.size)
 nice : Nice v
 k : Below w.heap.size w w'
set_option maxHeartbeats 4000000 in
set_option maxRecDepth 100000 in
theorem radd_any (l : List En) (e : En) (v : Value) (w : World) (hR : RowsAt En.cs 10 w v l) (hN : Nice v) (ho : Ord l) (hl : l.length ≤ 100000) :
  Calls Tryz.prog 22 #[v, e.v] w fun r w' => ∃ v', r = .returned (.tuple #[v', .bool (!known l e)]) ∧ Ra w v v' (addE l e) w' := by
 obtain ⟨la, lc, rfl⟩ := hR.form
 obtain ⟨p, hp⟩ : ∃ p, p = place l e := ⟨_, rfl⟩
 have hpl : p ≤ l.length := hp ▸ place_le l e
 have HB := hide (fun (a b : En) v => rbefore13_any a b v)
 have HO := hide ho
 have HP := hide hp
 have HN := hide hN
 have hev : e.v = .agg e.cs.toArray := rfl
 have I0 : Hid (Below w.heap.size w (w.alloc (.cells e.cs.toArray 72)) ∧ (w.alloc (.cells e.cs.toArray 72)).heap[w.heap.size]? = some (.cells e.cs.toArray 72 (0, 0))) := ⟨(Below.refl _ w).alloc (Nat.le_refl _) _, heap_alloc_new w _⟩
 have HR := hide hR
 have hlc := hN.cap
 have hlI : (l.length : Int) ≤ lc := by omega
 clear hR ho hN hp
 go_enter Tryz.func22, Tryz.ntmps22
 go_wp2_with fail
 go_loopw [6] (fun v6 wr => ∃ i : Nat, v6 = .int .i64 i ∧ i ≤ p ∧ Hid (Below w.heap.size w wr ∧ wr.heap[w.heap.size]? = some (.cells e.cs.toArray 72 (0, 0)))) (fun v6 _ => p - (intOf v6).toNat)
 case atStart => exact ⟨0, rfl, Nat.zero_le _, I0.out⟩
 case round =>
  obtain ⟨i, rfl, hi, HI⟩ := hrel
  clear I0
  by_cases hip : i < p
  ·obtain ⟨x, hx⟩ : ∃ x, l[i]? = some x := ⟨_, List.getElem?_eq_getElem (by omega)⟩
   obtain ⟨g, off, hla, _, _, hgl, hrg⟩ := HR.out.at (fun e => by rw [e] at hx; cases hx)
   subst hla
   have HX := hide hx
   have HG := hide (And.intro hgl hrg)
   have hbx := place_ahead HO.out e hx
   rw [← HP.out] at hbx
   have h0 : (0 : Int) ≤ i := by omega
   have hiI : (i : Int) < l.length := by omega
   clear hx hgl hrg
   rw [decide_eq_true hip] at hbx
   go_upto_region 2 with fail
   refine QuietCalls.region (by kernel_rfl) (by kernel_rfl) ?_
   iterate 8 (first | go_big_quiet_step (fail) | quiet_step (fail))
   refine QuietCalls.loadMid rfl 72 _ rfl g (off + i * 10) rfl x.cs _ (fun v k => rangeAt_below (HG.out.2 _ x HX.out) HG.out.1 (HI.out.1.trans (k.mono HI.out.1.size))) Tryz.underlying72 rfl infoREn ?_; simp only [Act.put, List.setIfInBounds_toArray, List.set_cons_succ, List.set_cons_zero]
   refine QuietCalls.load rfl 72 _ rfl _ rfl _ _ _ _ HI.out.2 Tryz.underlying72 rfl infoREn ?_; simp only [Act.put, List.setIfInBounds_toArray, List.set_cons_succ, List.set_cons_zero]
   refine QuietCalls.call rfl 54 #[.agg x.cs.toArray, .agg e.cs.toArray] (.bool (bfB x e)) (fun v _ => HB.out x e v) (fun v => by go_simp) ?_; simp only [Act.put, List.setIfInBounds_toArray, List.set_cons_succ, List.set_cons_zero]
   rw [hbx]
   iterate 1 (first | go_big_quiet_step (fail) | quiet_step (fail))
   refine wpQuiet_nil ?_
   intro w2 k2
   have HI2 : Hid (Below w.heap.size w w2 ∧ w2.heap[w.heap.size]? = some (.cells e.cs.toArray 72 (0, 0))) := ⟨HI.out.1.trans (k2.mono HI.out.1.size), (k2.block _ (Array.getElem?_eq_some_iff.1 HI.out.2).1).trans HI.out.2⟩
   clear k2
   clear HI
   go_wp2_with fail
   go_roundw
   case rel => exact ⟨i + 1, by simp, by omega, HI2.out⟩
   case measure => simp [intOf]; omega
  ·obtain rfl : p = i := by omega
   by_cases hpl2 : p < l.length
   ·obtain ⟨x, hx⟩ : ∃ x, l[p]? = some x := ⟨_, List.getElem?_eq_getElem (by omega)⟩
    obtain ⟨g, off, hla, _, _, hgl, hrg⟩ := HR.out.at (fun e => by rw [e] at hx; cases hx)
    subst hla
    have HX := hide hx
    have HG := hide (And.intro hgl hrg)
    have hbx := place_ahead HO.out e hx
    rw [← HP.out] at hbx
    have h0 : (0 : Int) ≤ p := by omega
    have hiI : (p : Int) < l.length := by omega
    clear hx hgl hrg
    have hbx2 := hbx
    rw [decide_eq_false (Nat.lt_irrefl _)] at hbx2
    have HKN0 : known l e = !bfB e x := known_at HO.out e (by rw [← HP.out]; exact HX.out)
    obtain ⟨q, hq⟩ : ∃ q, q = bfB e x := ⟨_, rfl⟩
    rw [← hq] at HKN0
    have HBq : Hid (∀ v, Calls Tryz.prog 54 #[.agg e.cs.toArray, .agg x.cs.toArray] v fun r w' => r = .returned (.bool q) ∧ Below v.heap.size v w') := fun v => by rw [hq]; exact HB.out e x v
    clear hbx hq
    go_upto_region 2 with fail
    refine QuietCalls.region (by kernel_rfl) (by kernel_rfl) ?_
    iterate 8 (first | go_big_quiet_step (fail) | quiet_step (fail))
    refine QuietCalls.loadMid rfl 72 _ rfl g (off + p * 10) rfl x.cs _ (fun v k => rangeAt_below (HG.out.2 _ x HX.out) HG.out.1 (HI.out.1.trans (k.mono HI.out.1.size))) Tryz.underlying72 rfl infoREn ?_; simp only [Act.put, List.setIfInBounds_toArray, List.set_cons_succ, List.set_cons_zero]
    refine QuietCalls.load rfl 72 _ rfl _ rfl _ _ _ _ HI.out.2 Tryz.underlying72 rfl infoREn ?_; simp only [Act.put, List.setIfInBounds_toArray, List.set_cons_succ, List.set_cons_zero]
    refine QuietCalls.call rfl 54 #[.agg x.cs.toArray, .agg e.cs.toArray] (.bool (bfB x e)) (fun v _ => HB.out x e v) (fun v => by go_simp) ?_; simp only [Act.put, List.setIfInBounds_toArray, List.set_cons_succ, List.set_cons_zero]
    rw [hbx2]
    iterate 1 (first | go_big_quiet_step (fail) | quiet_step (fail))
    refine wpQuiet_nil ?_
    intro w2 k2
    have HI2 : Hid (Below w.heap.size w w2 ∧ w2.heap[w.heap.size]? = some (.cells e.cs.toArray 72 (0, 0))) := ⟨HI.out.1.trans (k2.mono HI.out.1.size), (k2.block _ (Array.getElem?_eq_some_iff.1 HI.out.2).1).trans HI.out.2⟩
    clear k2
    clear HI
    have HI := HI2
    clear HI2
    go_upto_region 4 with fail
    refine QuietCalls.region (by kernel_rfl) (by kernel_rfl) ?_
    iterate 5 (first | go_big_quiet_step (fail) | quiet_step (fail))
    refine QuietCalls.load rfl 72 _ rfl _ rfl _ _ _ _ HI.out.2 Tryz.underlying72 rfl infoREn ?_; simp only [Act.put, List.setIfInBounds_toArray, List.set_cons_succ, List.set_cons_zero]
    iterate 3 (first | go_big_quiet_step (fail) | quiet_step (fail))
    refine QuietCalls.loadMid rfl 72 _ rfl g (off + p * 10) rfl x.cs _ (fun v k => rangeAt_below (HG.out.2 _ x HX.out) HG.out.1 (HI.out.1.trans (k.mono HI.out.1.size))) Tryz.underlying72 rfl infoREn ?_; simp only [Act.put, List.setIfInBounds_toArray, List.set_cons_succ, List.set_cons_zero]
    refine QuietCalls.call rfl 54 #[.agg e.cs.toArray, .agg x.cs.toArray] (.bool q) (fun v _ => HBq.out v) (fun v => by go_simp) ?_; simp only [Act.put, List.setIfInBounds_toArray, List.set_cons_succ, List.set_cons_zero]
    iterate 2 (first | go_big_quiet_step (fail) | quiet_step (fail))
    refine wpQuiet_nil ?_
    intro w2 k2
    have HI2 : Hid (Below w.heap.size w w2 ∧ w2.heap[w.heap.size]? = some (.cells e.cs.toArray 72 (0, 0))) := ⟨HI.out.1.trans (k2.mono HI.out.1.size), (k2.block _ (Array.getElem?_eq_some_iff.1 HI.out.2).1).trans HI.out.2⟩
    clear k2
    clear HI HBq hbx2
    cases q with
    | false =>
     have hkn : known l e = true := HKN0
     have HKN := hide hkn
     clear hkn HKN0
     go_wp2_with fail
     refine bodyPost_ret (results_tmp2 Tryz.results22 _ _ _) rfl ?_
     have e1 : addE l e = l := by unfold addE; rw [HKN.out]; rfl
     rw [HKN.out, e1]
     exact ⟨_, rfl, HR.out.below HI2.out.1, fun g h => .inl h, HN.out, HI2.out.1⟩
    | true =>
     have hkn : known l e = false := HKN0
     have HKN := hide hkn
     clear hkn HKN0
     obtain ⟨lv, hlv⟩ : ∃ lv, lv = Value.slice (some ⟨g, off, none⟩) l.length lc := ⟨_, rfl⟩
     obtain ⟨hv, hhv⟩ : ∃ hv, hv = Value.slice (some ⟨g, off, none⟩) p lc := ⟨_, rfl⟩
     obtain ⟨rv, hrv⟩ : ∃ rv, rv = restV (some ⟨g, off, none⟩) l.length lc p 10 := ⟨_, rfl⟩
     have hHi : Hid (∀ x, (Instr.sliceAt 53 lv none (some (.int .i64 (p : Int))) none).run Tryz.prog x = .ok hv x) := fun x => by rw [hlv, hhv]; exact sliceHiA HN.out hpl x
     have hLo : Hid (∀ x, (Instr.sliceAt 53 lv (some (.int .i64 (p : Int))) none none).run Tryz.prog x = .ok rv x) := fun x => by rw [hlv, hrv]; exact sliceLoA HN.out hpl x
     have HH1 : Hid (∀ x, Below w2.heap.size w2 x → RegionOwn.Holds x hv 10 p ((l.take p).flatMap En.cs) ∧ RegionOwn.Holds x rv 10 (l.length - p) ((l.drop p).flatMap En.cs)) := fun x hx => by
      have hr : RowsAt En.cs 10 x (.slice (some ⟨g, off, none⟩) l.length lc) l := HR.out.below (HI2.out.1.trans (hx.mono HI2.out.1.size))
      rw [hhv, hrv]
      exact ⟨hr.hi En.cs_length (by decide) HN.out hpl, hr.lo En.cs_length (by decide) HN.out hpl⟩
     have HE1 : Hid (∀ x, Below w2.heap.size w2 x → x.heap[w.heap.size]? = some (.cells e.cs.toArray 72 (0, 0))) := fun x hx => (hx.block _ (Array.getElem?_eq_some_iff.1 HI2.out.2).1).trans HI2.out.2
     have HONE : Hid ((∀ es : List En, ∀ u ∈ es.flatMap En.cs, u.oneCell' = true) ∧ ∀ u ∈ En.cs e, u.oneCell' = true) := ⟨ens_one, en_one e⟩
     obtain ⟨tinfo, hti, htz, hts, htb⟩ := info_parts infoREn3
     have HTI := hide (And.intro hti (And.intro htz (And.intro hts htb)))
     clear hti htz hts htb
     go_upto_region 6 with fail
     rw [← hlv]
     clear hlv hhv hrv
     refine RegionOwn.regionK 12 47 72 10 (fun i => match i with
      | 0 => RegionOwn.row 0 [] 4
      | 1 => RegionOwn.val lv
      | 2 => RegionOwn.val (.int .i64 (p : Nat))
      | 3 => RegionOwn.val hv
      | 4 => RegionOwn.row p ((l.take p).flatMap En.cs) 7
      | 5 => RegionOwn.val (.agg #[.int .i64 e.op.kind, .int .u64 e.op.tm.c, .int .i64 e.op.tm.k, .int .u64 e.op.thing, .int .u64 e.op.par, .string e.op.name, .bool e.op.dir, .string e.op.dg, .int .i64 e.op.size, .string e.h])
      | 6 => RegionOwn.row 1 (En.cs e) 7
      | 7 => RegionOwn.row (p + 1) ((l.take p).flatMap En.cs ++ En.cs e) 11
      | 8 => RegionOwn.val lv
      | 9 => RegionOwn.val (.int .i64 (p : Nat))
      | 10 => RegionOwn.val rv
      | 11 => RegionOwn.row (p + 1 + (l.length - p)) ((l.take p).flatMap En.cs ++ En.cs e ++ (l.drop p).flatMap En.cs) 12
      | _ => RegionOwn.val undef) (fun i => match i with | 0 => some 4 | 4 => some 7 | 6 => some 7 | 7 => some 11 | 11 => some 12 | _ => none) ?_ (by kernel_rfl) rfl (by kernel_rfl) ?_ ?_ ?_
     ·intro i hi
      match i, hi with
      | 0, _ | 1, _ | 2, _ | 3, _ | 4, _ | 5, _ | 6, _ | 7, _ | 8, _ | 9, _ | 10, _ | 11, _ => rfl
      | i + 12, h => exact absurd h (by omega)
     ·intro i p hi h
      match i, hi, h with
      | 0, _, h | 1, _, h | 2, _, h | 3, _, h | 4, _, h | 5, _, h | 6, _, h | 7, _, h | 8, _, h | 9, _, h | 10, _, h | 11, _, h => cases h
      | i + 12, h, _ => exact absurd h (by omega)
     ·intro i hi y x hfr hbx hD hO K hK
      have el : RegionOwn.T y 0 = lv := hfr.at (by kernel_rfl) rfl
      have ea : RegionOwn.T y 6 = .int .i64 (p : Nat) := hfr.at (by kernel_rfl) rfl
      have ee : RegionOwn.T y 3 = .pointer (some ⟨w.heap.size, 0, none⟩) := hfr.at (by kernel_rfl) rfl
      have hsz := hbx.size
      match i, hi with
      | 0, _ =>
       refine RegionOwn.made (ob := .cells #[] 72) (v := .slice (some ⟨x.heap.size, 0, none⟩) 0 0) rfl rfl hK (World.ownsRow_made x #[] 0 hsz (Nat.zero_le _) rfl) (fun g h => by simp [Value.ownBlock] at h; omega) ?_
       clear hK hD hfr hO
       go_simp
      | 1, _ =>
       refine RegionOwn.quiet rfl rfl hK rfl rfl ?_
       clear hK hD hfr hO
       unfold RegionOwn.T at el
       go_simp
      | 2, _ =>
       refine RegionOwn.quiet rfl rfl hK rfl rfl ?_
       clear hK hD hfr hO
       unfold RegionOwn.T at ea
       go_simp
      | 3, _ =>
       refine RegionOwn.quiet rfl rfl hK rfl rfl ?_
       have q : RegionOwn.T y 36 = lv := hD 1 36 (by decide) rfl (by kernel_rfl) (.inl rfl)
       have q1 : RegionOwn.T y 37 = .int .i64 (p : Nat) := hD 2 37 (by decide) rfl (by kernel_rfl) (.inl rfl)
       have hr := hHi.out x
       clear hK hD hfr hO
       unfold RegionOwn.T at q q1
       go_simp
      | 4, _ =>
       have q : x.ownsRow w2.heap.size 72 10 (RegionOwn.T y 35) 0 [] := hD 0 35 (by decide) rfl (by kernel_rfl) (.inr rfl)
       have q1 : RegionOwn.T y 38 = hv := hD 3 38 (by decide) rfl (by kernel_rfl) (.inl rfl)
       refine RegionOwn.appended (j := 0) (k := p) (ys := (l.take p).flatMap En.cs) rfl rfl hK rfl tinfo _ 10 104 Tryz.underlying53 HTI.out.1 HTI.out.2.1 HTI.out.2.2.1 HTI.out.2.2.2 rfl (by decide) (by decide) rfl rfl q hsz (by rw [q1]; exact (HH1.out x hbx).1) (HONE.out.1 _) (by simp only [maxLen]; omega) (by omega) fun v z hz => ?_
       rw [Nat.zero_add] at hz
       exact hz
      | 5, _ =>
       refine RegionOwn.quiet rfl rfl hK rfl rfl ?_
       have xr := HE1.out x hbx
       have c0 := cell_of_row _ _ 0 _ _ _ xr
       have c1 := cell_of_row _ _ 1 _ _ _ xr
       have c2 := cell_of_row _ _ 2 _ _ _ xr
       have c3 := cell_of_row _ _ 3 _ _ _ xr
       have c4 := cell_of_row _ _ 4 _ _ _ xr
       have c5 := cell_of_row _ _ 5 _ _ _ xr
       have c6 := cell_of_row _ _ 6 _ _ _ xr
       have c7 := cell_of_row _ _ 7 _ _ _ xr
       have c8 := cell_of_row _ _ 8 _ _ _ xr
       have c9 := cell_of_row _ _ 9 _ _ _ xr
       simp [En.cs] at c0 c1 c2 c3 c4 c5 c6 c7 c8 c9
       clear hK hD hfr hO xr
       unfold RegionOwn.T at ee
       go_simp
      | 6, _ =>
       have q : RegionOwn.T y 40 = .agg #[.int .i64 e.op.kind, .int .u64 e.op.tm.c, .int .i64 e.op.tm.k, .int .u64 e.op.thing, .int .u64 e.op.par, .string e.op.name, .bool e.op.dir, .string e.op.dg, .int .i64 e.op.size, .string e.h] := hD 5 40 (by decide) rfl (by kernel_rfl) (.inl rfl)
       refine RegionOwn.made (ob := .cells (En.cs e).toArray 72) (v := .slice (some ⟨x.heap.size, 0, none⟩) 1 1) rfl rfl hK (RegionOwn.made_one x _ 72 10 (En.cs e).toArray hsz rfl) (fun g h => by simp [Value.ownBlock] at h; omega) ?_
       unfold En.cs
       clear hK hD hfr hO
       unfold RegionOwn.T at q
       have q' := q
       rw [Array.getD_eq_getD_getElem?] at q'
       go_simp
      | 7, _ =>
       have q : x.ownsRow w2.heap.size 72 10 (RegionOwn.T y 39) p ((l.take p).flatMap En.cs) := hD 4 39 (by decide) rfl (by kernel_rfl) (.inr rfl)
       have q1 : x.ownsRow w2.heap.size 72 10 (RegionOwn.T y 41) 1 (En.cs e) := hD 6 41 (by decide) rfl (by kernel_rfl) (.inr rfl)
       exact RegionOwn.appended (j := 4) (k := 1) (ys := En.cs e) rfl rfl hK rfl tinfo _ 10 104 Tryz.underlying53 HTI.out.1 HTI.out.2.1 HTI.out.2.2.1 HTI.out.2.2.2 rfl (by decide) (by decide) rfl rfl q hsz (.of_own q1) HONE.out.2 (by simp only [maxLen]; omega) (by omega) fun v z hz => hz
      | 8, _ =>
       refine RegionOwn.quiet rfl rfl hK rfl rfl ?_
       clear hK hD hfr hO
       unfold RegionOwn.T at el
       go_simp
      | 9, _ =>
       refine RegionOwn.quiet rfl rfl hK rfl rfl ?_
       clear hK hD hfr hO
       unfold RegionOwn.T at ea
       go_simp
      | 10, _ =>
       refine RegionOwn.quiet rfl rfl hK rfl rfl ?_
       have q : RegionOwn.T y 43 = lv := hD 8 43 (by decide) rfl (by kernel_rfl) (.inl rfl)
       have q1 : RegionOwn.T y 44 = .int .i64 (p : Nat) := hD 9 44 (by decide) rfl (by kernel_rfl) (.inl rfl)
       have hr := hLo.out x
       clear hK hD hfr hO
       unfold RegionOwn.T at q q1
       go_simp
      | 11, _ =>
       have q : x.ownsRow w2.heap.size 72 10 (RegionOwn.T y 42) (p + 1) ((l.take p).flatMap En.cs ++ En.cs e) := hD 7 42 (by decide) rfl (by kernel_rfl) (.inr rfl)
       have q1 : RegionOwn.T y 45 = rv := hD 10 45 (by decide) rfl (by kernel_rfl) (.inl rfl)
       exact RegionOwn.appended (j := 7) (k := l.length - p) (ys := (l.drop p).flatMap En.cs) rfl rfl hK rfl tinfo _ 10 104 Tryz.underlying53 HTI.out.1 HTI.out.2.1 HTI.out.2.2.1 HTI.out.2.2.2 rfl (by decide) (by decide) rfl rfl q hsz (by rw [q1]; exact (HH1.out x hbx).2) (HONE.out.1 _) (by simp only [maxLen]; omega) (by omega) fun v z hz => hz
      | i + 12, h => exact absurd h (by omega)
     ·intro y x hfr hbx hD
      have q : x.ownsRow w2.heap.size 72 10 (RegionOwn.T y 46) (p + 1 + (l.length - p)) ((l.take p).flatMap En.cs ++ En.cs e ++ (l.drop p).flatMap En.cs) := hD 11 46 (by decide) rfl (fun i hi e => by cases e; omega)
      obtain ⟨va, vc, hv'⟩ := RegionOwn.own_form q
      have hl47 : List.range 47 = [0, 1, 2, 3, 4, 5, 6, 7, 8, 9, 10, 11, 12, 13, 14, 15, 16, 17, 18, 19, 20, 21, 22, 23, 24, 25, 26, 27, 28, 29, 30, 31, 32, 33, 34, 35, 36, 37, 38, 39, 40, 41, 42, 43, 44, 45, 46] := by decide
      have hdf : y.defers = [] := hfr.defers
      have hrow : RowsAt En.cs 10 x (RegionOwn.T y 46) (addE l e) := by
       have e1 : addE l e = l.take p ++ e :: l.drop p := by
        unfold addE
        rw [HKN.out, HP.out]; rfl
       have e2 : (addE l e).length = p + 1 + (l.length - p) := by rw [e1, List.length_append, List.length_cons, List.length_take, List.length_drop]; omega
       refine RowsAt.of_own (base := w2.heap.size) (e := 72) En.cs_length ?_
       rw [e2, e1, List.flatMap_append, List.flatMap_cons, ← List.append_assoc]
       exact q
      have HG46 : Hid (∀ g, (RegionOwn.T y 46).ownBlock = some g → w.heap.size ≤ g ∧ g < x.heap.size) := fun g hg => ⟨Nat.le_trans HI2.out.1.size (q.lt g hg).1, (q.lt g hg).2⟩
      have HF := hide (And.intro hrow (And.intro (Nice.of_own q) (HI2.out.1.trans (hbx.mono HI2.out.1.size))))
      rw [hv'] at HF HG46
      rw [RegionOwn.act_lit y 47 (hfr.size.trans rfl), hl47, hdf]
      simp only [List.map_cons, List.map_nil, List.drop_succ_cons, List.drop_zero, hv']
      clear hD hfr q hrow hl47 hdf hv'
      go_wp2
      refine bodyPost_ret (results_tmp2 Tryz.results22 _ _ _) rfl ?_
      rw [HKN.out]
      exact ⟨_, rfl, HF.out.1, fun g h => .inr (HG46.out g h), HF.out.2.1, HF.out.2.2⟩
   ·have hie : p = l.length := by omega
    have hkn : known l e = false := known_end (by rw [← HP.out]; omega)
    have HKN := hide hkn
    clear hkn hie
    have hnl : ¬ (p : Int) < l.length := by omega
    go_upto_region 2 with fail
    refine QuietCalls.region (by kernel_rfl) (by kernel_rfl) ?_
    iterate 12 (first | go_big_quiet_step (fail) | quiet_step (fail))
    refine wpQuiet_nil ?_
    intro w2 k2
    have HI2 : Hid (Below w.heap.size w w2 ∧ w2.heap[w.heap.size]? = some (.cells e.cs.toArray 72 (0, 0))) := ⟨HI.out.1.trans (k2.mono HI.out.1.size), (k2.block _ (Array.getElem?_eq_some_iff.1 HI.out.2).1).trans HI.out.2⟩
    clear k2
    clear HI
    have HI := HI2
    clear HI2
    go_upto_region 4 with fail
    refine QuietCalls.region (by kernel_rfl) (by kernel_rfl) ?_
    iterate 13 (first | go_big_quiet_step (fail) | quiet_step (fail))
    refine wpQuiet_nil ?_
    intro w2 k2
    have HI2 : Hid (Below w.heap.size w w2 ∧ w2.heap[w.heap.size]? = some (.cells e.cs.toArray 72 (0, 0))) := ⟨HI.out.1.trans (k2.mono HI.out.1.size), (k2.block _ (Array.getElem?_eq_some_iff.1 HI.out.2).1).trans HI.out.2⟩
    clear k2
    clear HI
    obtain ⟨lv, hlv⟩ : ∃ lv, lv = Value.slice la l.length lc := ⟨_, rfl⟩
    obtain ⟨hv, hhv⟩ : ∃ hv, hv = Value.slice la p lc := ⟨_, rfl⟩
    obtain ⟨rv, hrv⟩ : ∃ rv, rv = restV la l.length lc p 10 := ⟨_, rfl⟩
    have hHi : Hid (∀ x, (Instr.sliceAt 53 lv none (some (.int .i64 (p : Int))) none).run Tryz.prog x = .ok hv x) := fun x => by rw [hlv, hhv]; exact sliceHiA HN.out hpl x
    have hLo : Hid (∀ x, (Instr.sliceAt 53 lv (some (.int .i64 (p : Int))) none none).run Tryz.prog x = .ok rv x) := fun x => by rw [hlv, hrv]; exact sliceLoA HN.out hpl x
    have HH1 : Hid (∀ x, Below w2.heap.size w2 x → RegionOwn.Holds x hv 10 p ((l.take p).flatMap En.cs) ∧ RegionOwn.Holds x rv 10 (l.length - p) ((l.drop p).flatMap En.cs)) := fun x hx => by
     have hr : RowsAt En.cs 10 x (.slice la l.length lc) l := HR.out.below (HI2.out.1.trans (hx.mono HI2.out.1.size))
     rw [hhv, hrv]
     exact ⟨hr.hi En.cs_length (by decide) HN.out hpl, hr.lo En.cs_length (by decide) HN.out hpl⟩
    have HE1 : Hid (∀ x, Below w2.heap.size w2 x → x.heap[w.heap.size]? = some (.cells e.cs.toArray 72 (0, 0))) := fun x hx => (hx.block _ (Array.getElem?_eq_some_iff.1 HI2.out.2).1).trans HI2.out.2
    have HONE : Hid ((∀ es : List En, ∀ u ∈ es.flatMap En.cs, u.oneCell' = true) ∧ ∀ u ∈ En.cs e, u.oneCell' = true) := ⟨ens_one, en_one e⟩
    obtain ⟨tinfo, hti, htz, hts, htb⟩ := info_parts infoREn3
    have HTI := hide (And.intro hti (And.intro htz (And.intro hts htb)))
    clear hti htz hts htb
    go_upto_region 6 with fail
    rw [← hlv]
    clear hlv hhv hrv
    refine RegionOwn.regionK 12 47 72 10 (fun i => match i with
     | 0 => RegionOwn.row 0 [] 4
     | 1 => RegionOwn.val lv
     | 2 => RegionOwn.val (.int .i64 (p : Nat))
     | 3 => RegionOwn.val hv
     | 4 => RegionOwn.row p ((l.take p).flatMap En.cs) 7
     | 5 => RegionOwn.val (.agg #[.int .i64 e.op.kind, .int .u64 e.op.tm.c, .int .i64 e.op.tm.k, .int .u64 e.op.thing, .int .u64 e.op.par, .string e.op.name, .bool e.op.dir, .string e.op.dg, .int .i64 e.op.size, .string e.h])
     | 6 => RegionOwn.row 1 (En.cs e) 7
     | 7 => RegionOwn.row (p + 1) ((l.take p).flatMap En.cs ++ En.cs e) 11
     | 8 => RegionOwn.val lv
     | 9 => RegionOwn.val (.int .i64 (p : Nat))
     | 10 => RegionOwn.val rv
     | 11 => RegionOwn.row (p + 1 + (l.length - p)) ((l.take p).flatMap En.cs ++ En.cs e ++ (l.drop p).flatMap En.cs) 12
     | _ => RegionOwn.val undef) (fun i => match i with | 0 => some 4 | 4 => some 7 | 6 => some 7 | 7 => some 11 | 11 => some 12 | _ => none) ?_ (by kernel_rfl) rfl (by kernel_rfl) ?_ ?_ ?_
    ·intro i hi
     match i, hi with
     | 0, _ | 1, _ | 2, _ | 3, _ | 4, _ | 5, _ | 6, _ | 7, _ | 8, _ | 9, _ | 10, _ | 11, _ => rfl
     | i + 12, h => exact absurd h (by omega)
    ·intro i p hi h
     match i, hi, h with
     | 0, _, h | 1, _, h | 2, _, h | 3, _, h | 4, _, h | 5, _, h | 6, _, h | 7, _, h | 8, _, h | 9, _, h | 10, _, h | 11, _, h => cases h
     | i + 12, h, _ => exact absurd h (by omega)
    ·intro i hi y x hfr hbx hD hO K hK
     have el : RegionOwn.T y 0 = lv := hfr.at (by kernel_rfl) rfl
     have ea : RegionOwn.T y 6 = .int .i64 (p : Nat) := hfr.at (by kernel_rfl) rfl
     have ee : RegionOwn.T y 3 = .pointer (some ⟨w.heap.size, 0, none⟩) := hfr.at (by kernel_rfl) rfl
     have hsz := hbx.size
     match i, hi with
     | 0, _ =>
      refine RegionOwn.made (ob := .cells #[] 72) (v := .slice (some ⟨x.heap.size, 0, none⟩) 0 0) rfl rfl hK (World.ownsRow_made x #[] 0 hsz (Nat.zero_le _) rfl) (fun g h => by simp [Value.ownBlock] at h; omega) ?_
      clear hK hD hfr hO
      go_simp
     | 1, _ =>
      refine RegionOwn.quiet rfl rfl hK rfl rfl ?_
      clear hK hD hfr hO
      unfold RegionOwn.T at el
      go_simp
     | 2, _ =>
      refine RegionOwn.quiet rfl rfl hK rfl rfl ?_
      clear hK hD hfr hO
      unfold RegionOwn.T at ea
      go_simp
     | 3, _ =>
      refine RegionOwn.quiet rfl rfl hK rfl rfl ?_
      have q : RegionOwn.T y 36 = lv := hD 1 36 (by decide) rfl (by kernel_rfl) (.inl rfl)
      have q1 : RegionOwn.T y 37 = .int .i64 (p : Nat) := hD 2 37 (by decide) rfl (by kernel_rfl) (.inl rfl)
      have hr := hHi.out x
      clear hK hD hfr hO
      unfold RegionOwn.T at q q1
      go_simp
     | 4, _ =>
      have q : x.ownsRow w2.heap.size 72 10 (RegionOwn.T y 35) 0 [] := hD 0 35 (by decide) rfl (by kernel_rfl) (.inr rfl)
      have q1 : RegionOwn.T y 38 = hv := hD 3 38 (by decide) rfl (by kernel_rfl) (.inl rfl)
      refine RegionOwn.appended (j := 0) (k := p) (ys := (l.take p).flatMap En.cs) rfl rfl hK rfl tinfo _ 10 104 Tryz.underlying53 HTI.out.1 HTI.out.2.1 HTI.out.2.2.1 HTI.out.2.2.2 rfl (by decide) (by decide) rfl rfl q hsz (by rw [q1]; exact (HH1.out x hbx).1) (HONE.out.1 _) (by simp only [maxLen]; omega) (by omega) fun v z hz => ?_
      rw [Nat.zero_add] at hz
      exact hz
     | 5, _ =>
      refine RegionOwn.quiet rfl rfl hK rfl rfl ?_
      have xr := HE1.out x hbx
      have c0 := cell_of_row _ _ 0 _ _ _ xr
      have c1 := cell_of_row _ _ 1 _ _ _ xr
      have c2 := cell_of_row _ _ 2 _ _ _ xr
      have c3 := cell_of_row _ _ 3 _ _ _ xr
      have c4 := cell_of_row _ _ 4 _ _ _ xr
      have c5 := cell_of_row _ _ 5 _ _ _ xr
      have c6 := cell_of_row _ _ 6 _ _ _ xr
      have c7 := cell_of_row _ _ 7 _ _ _ xr
      have c8 := cell_of_row _ _ 8 _ _ _ xr
      have c9 := cell_of_row _ _ 9 _ _ _ xr
      simp [En.cs] at c0 c1 c2 c3 c4 c5 c6 c7 c8 c9
      clear hK hD hfr hO xr
      unfold RegionOwn.T at ee
      go_simp
     | 6, _ =>
      have q : RegionOwn.T y 40 = .agg #[.int .i64 e.op.kind, .int .u64 e.op.tm.c, .int .i64 e.op.tm.k, .int .u64 e.op.thing, .int .u64 e.op.par, .string e.op.name, .bool e.op.dir, .string e.op.dg, .int .i64 e.op.size, .string e.h] := hD 5 40 (by decide) rfl (by kernel_rfl) (.inl rfl)
      refine RegionOwn.made (ob := .cells (En.cs e).toArray 72) (v := .slice (some ⟨x.heap.size, 0, none⟩) 1 1) rfl rfl hK (RegionOwn.made_one x _ 72 10 (En.cs e).toArray hsz rfl) (fun g h => by simp [Value.ownBlock] at h; omega) ?_
      unfold En.cs
      clear hK hD hfr hO
      unfold RegionOwn.T at q
      have q' := q
      rw [Array.getD_eq_getD_getElem?] at q'
      go_simp
     | 7, _ =>
      have q : x.ownsRow w2.heap.size 72 10 (RegionOwn.T y 39) p ((l.take p).flatMap En.cs) := hD 4 39 (by decide) rfl (by kernel_rfl) (.inr rfl)
      have q1 : x.ownsRow w2.heap.size 72 10 (RegionOwn.T y 41) 1 (En.cs e) := hD 6 41 (by decide) rfl (by kernel_rfl) (.inr rfl)
      exact RegionOwn.appended (j := 4) (k := 1) (ys := En.cs e) rfl rfl hK rfl tinfo _ 10 104 Tryz.underlying53 HTI.out.1 HTI.out.2.1 HTI.out.2.2.1 HTI.out.2.2.2 rfl (by decide) (by decide) rfl rfl q hsz (.of_own q1) HONE.out.2 (by simp only [maxLen]; omega) (by omega) fun v z hz => hz
     | 8, _ =>
      refine RegionOwn.quiet rfl rfl hK rfl rfl ?_
      clear hK hD hfr hO
      unfold RegionOwn.T at el
      go_simp
     | 9, _ =>
      refine RegionOwn.quiet rfl rfl hK rfl rfl ?_
      clear hK hD hfr hO
      unfold RegionOwn.T at ea
      go_simp
     | 10, _ =>
      refine RegionOwn.quiet rfl rfl hK rfl rfl ?_
      have q : RegionOwn.T y 43 = lv := hD 8 43 (by decide) rfl (by kernel_rfl) (.inl rfl)
      have q1 : RegionOwn.T y 44 = .int .i64 (p : Nat) := hD 9 44 (by decide) rfl (by kernel_rfl) (.inl rfl)
      have hr := hLo.out x
      clear hK hD hfr hO
      unfold RegionOwn.T at q q1
      go_simp
     | 11, _ =>
      have q : x.ownsRow w2.heap.size 72 10 (RegionOwn.T y 42) (p + 1) ((l.take p).flatMap En.cs ++ En.cs e) := hD 7 42 (by decide) rfl (by kernel_rfl) (.inr rfl)
      have q1 : RegionOwn.T y 45 = rv := hD 10 45 (by decide) rfl (by kernel_rfl) (.inl rfl)
      exact RegionOwn.appended (j := 7) (k := l.length - p) (ys := (l.drop p).flatMap En.cs) rfl rfl hK rfl tinfo _ 10 104 Tryz.underlying53 HTI.out.1 HTI.out.2.1 HTI.out.2.2.1 HTI.out.2.2.2 rfl (by decide) (by decide) rfl rfl q hsz (by rw [q1]; exact (HH1.out x hbx).2) (HONE.out.1 _) (by simp only [maxLen]; omega) (by omega) fun v z hz => hz
     | i + 12, h => exact absurd h (by omega)
    ·intro y x hfr hbx hD
     have q : x.ownsRow w2.heap.size 72 10 (RegionOwn.T y 46) (p + 1 + (l.length - p)) ((l.take p).flatMap En.cs ++ En.cs e ++ (l.drop p).flatMap En.cs) := hD 11 46 (by decide) rfl (fun i hi e => by cases e; omega)
     obtain ⟨va, vc, hv'⟩ := RegionOwn.own_form q
     have hl47 : List.range 47 = [0, 1, 2, 3, 4, 5, 6, 7, 8, 9, 10, 11, 12, 13, 14, 15, 16, 17, 18, 19, 20, 21, 22, 23, 24, 25, 26, 27, 28, 29, 30, 31, 32, 33, 34, 35, 36, 37, 38, 39, 40, 41, 42, 43, 44, 45, 46] := by decide
     have hdf : y.defers = [] := hfr.defers
     have hrow : RowsAt En.cs 10 x (RegionOwn.T y 46) (addE l e) := by
      have e1 : addE l e = l.take p ++ e :: l.drop p := by
       unfold addE
       rw [HKN.out, HP.out]; rfl
      have e2 : (addE l e).length = p + 1 + (l.length - p) := by rw [e1, List.length_append, List.length_cons, List.length_take, List.length_drop]; omega
      refine RowsAt.of_own (base := w2.heap.size) (e := 72) En.cs_length ?_
      rw [e2, e1, List.flatMap_append, List.flatMap_cons, ← List.append_assoc]
      exact q
     have HG46 : Hid (∀ g, (RegionOwn.T y 46).ownBlock = some g → w.heap.size ≤ g ∧ g < x.heap.size) := fun g hg => ⟨Nat.le_trans HI2.out.1.size (q.lt g hg).1, (q.lt g hg).2⟩
     have HF := hide (And.intro hrow (And.intro (Nice.of_own q) (HI2.out.1.trans (hbx.mono HI2.out.1.size))))
     rw [hv'] at HF HG46
     rw [RegionOwn.act_lit y 47 (hfr.size.trans rfl), hl47, hdf]
     simp only [List.map_cons, List.map_nil, List.drop_succ_cons, List.drop_zero, hv']
     clear hD hfr q hrow hl47 hdf hv'
     go_wp2
     refine bodyPost_ret (results_tmp2 Tryz.results22 _ _ _) rfl ?_
     rw [HKN.out]
     exact ⟨_, rfl, HF.out.1, fun g h => .inr (HG46.out g h), HF.out.2.1, HF.out.2.2⟩
end Go.Proofs.YtnbhchdaobimmaaGreatDoor
/- Things by their places, as the document finds them; plain. -/
namespace Go.Mov
open Go.RowKit Go.Opn Go.Stamp Go.MapInt
/-- The place of a number, or where it would stand. -/
def spot : Ths → Int → Nat
 | [], _ => 0
 | x :: r, k => if x.id < k then spot r k + 1 else 0
def here (l : Ths) (k : Int) : Bool := match l[spot l k]? with | some x => x.id == k | none => false
theorem spot_le (k : Int) : ∀ l : Ths, spot l k ≤ l.length
 | [] => Nat.le_refl _
 | x :: r => by
  unfold spot
  split
  ·have := spot_le k r; simp; exact this
  ·exact Nat.zero_le _
theorem spot_at {l : Ths} {k : Int} {x : Th} (h : l[spot l k]? = some x) : ¬ x.id < k := by
 induction l with
 | nil => cases h
 | cons y r ih =>
  unfold spot at h
  split at h
  ·exact ih (by simpa using h)
  ·rename_i hn
   simp at h
   rw [← h]; exact hn
theorem spot_ahead {l : Ths} {k : Int} : ∀ {i : Nat} {x : Th}, i < spot l k → l[i]? = some x → x.id < k := by
 induction l with
 | nil => intro i x h; exact absurd h (Nat.not_lt_zero _)
 | cons y r ih =>
  intro i x h hx
  unfold spot at h
  split at h
  ·rename_i hy
   cases i with
   | zero => simp at hx; rw [← hx]; exact hy
   | succ i => exact ih (i := i) (Nat.lt_of_succ_lt_succ h) (by simpa using hx)
  ·exact absurd h (Nat.not_lt_zero _)
theorem look_here {l : Ths} (hr : Rises l) {k : Int} {x : Th} (h : look l k = some x) : l[spot l k]? = some x := by
 induction l with
 | nil => cases h
 | cons y r ih =>
  have hn := List.pairwise_cons.1 hr
  unfold look at h
  unfold spot
  split at h
  ·rename_i e
   cases h
   rw [if_neg (by omega)]; rfl
  ·rename_i e
   have := look_mem h
   have h2 := hn.1 x this.1
   rw [if_pos (by omega)]
   simpa using ih hn.2 h
theorem here_look {l : Ths} (hr : Rises l) (k : Int) : here l k = (look l k).isSome := by
 unfold here
 cases h : look l k with
 | some x =>
  rw [look_here hr h]
  simp [(look_mem h).2]
 | none =>
  cases h2 : l[spot l k]? with
  | none => rfl
  | some x =>
   have := look_none.1 h x (List.mem_iff_getElem?.2 ⟨_, h2⟩)
   simpa using this
theorem put_new {l : Ths} {x : Th} (h : look l x.id = none) : put l x = l.take (spot l x.id) ++ x :: l.drop (spot l x.id) := by
 induction l with
 | nil => rfl
 | cons y r ih =>
  unfold look at h
  split at h
  ·cases h
  ·rename_i e
   unfold put spot
   by_cases h1 : x.id < y.id
   ·rw [if_pos h1, if_neg (by omega)]; rfl
   ·rw [if_neg h1, if_neg e, if_pos (by omega), ih h]; rfl
theorem put_old {l : Ths} (hr : Rises l) {x y : Th} (h : look l x.id = some y) : put l x = l.set (spot l x.id) x := by
 induction l with
 | nil => cases h
 | cons z r ih =>
  have hn := List.pairwise_cons.1 hr
  unfold look at h
  unfold put spot
  split at h
  ·rename_i e
   rw [if_neg (by omega), if_pos e, if_neg (by omega)]; rfl
  ·rename_i e
   have h3 := hn.1 y (look_mem h).1
   have h4 := (look_mem h).2
   rw [if_neg (by omega), if_neg e, if_pos (by omega), ih hn.2 h]; rfl
/-- The document's way up: no further than the root, or the trash. -/
def climbs : Nat → Ths → Int → Int → Bool
 | 0, _, _, _ => false
 | n + 1, l, k, o => if k ≤ 1 then false else if k = o then true else match look l k with | some x => climbs n l x.par o | none => false
theorem climbs_below {l : Ths} (hf : Fine l) {o : Int} (ho : 1 < o) : ∀ (n : Nat) (k : Int), UpEnds n l k → climbs (n + 1) l k o = below n l k o
 | 0, k, h => by
  have hl : look l k = none := h
  unfold climbs below wayUp
  rw [hl]
  by_cases h1 : k ≤ 1
  ·rw [if_pos h1]
   have : o ≠ k := by omega
   simp [this]
  ·rw [if_neg h1]
   by_cases h2 : k = o
   ·rw [if_pos h2]; simp [h2]
   ·rw [if_neg h2]
    have : o ≠ k := fun e => h2 e.symm
    simp [this]
 | n + 1, k, h => by
  unfold climbs below wayUp
  by_cases h1 : k ≤ 1
  ·have e : o ≠ k := by omega
   rw [if_pos h1, hf.look_top h1]
   simp [e]
  ·rw [if_neg h1]
   by_cases h2 : k = o
   ·rw [if_pos h2]
    cases hl : look l k <;> simp [h2]
   ·have e : o ≠ k := fun e => h2 e.symm
    rw [if_neg h2]
    cases hl : look l k with
    | none => simp [e]
    | some x =>
     obtain ⟨m, e1, h3⟩ := h.step hl
     cases e1
     have := climbs_below hf ho n x.par h3
     unfold below at this
     show climbs (n + 1) l x.par o = (k :: wayUp n l x.par).contains o
     rw [this, List.contains_cons]
     simp [e]
/-- What is found at a number's place is a folder. -/
def dirAt (l : Ths) (k : Int) : Bool := match l[spot l k]? with | some x => x.dir | none => false
theorem dirAt_of {l : Ths} {k : Int} {x : Th} (h : l[spot l k]? = some x) : dirAt l k = x.dir := by unfold dirAt; rw [h]
theorem fold_here {l : Ths} (hr : Rises l) (k : Int) : fold l k = (k == 0 || (here l k && dirAt l k)) := by
 unfold fold dirAt
 rw [here_look hr]
 cases h : look l k with
 | none => rfl
 | some x => rw [look_here hr h]; rfl
end Go.Mov
/- Contracts: where the document finds a thing. -/
namespace Go.Mov
open Go.RowKit
theorem th_cells (x : Th) : ∀ u ∈ x.cs, u.oneCell' = true := by
 intro u hu
 unfold Th.cs at hu
 simp only [List.mem_cons, List.not_mem_nil, or_false] at hu
 rcases hu with rfl | rfl | rfl | rfl | rfl | rfl <;> rfl
theorem ths_cells (es : List Th) : ∀ u ∈ es.flatMap Th.cs, u.oneCell' = true := fun u hu => by
 obtain ⟨s, _, h2⟩ := List.mem_flatMap.1 hu
 exact th_cells s u h2
end Go.Mov
namespace Go.Proofs.YtnbhchdaobimmaaGreatDoor
open Go.RowKit Go.Opn Go.Stamp Go.MapInt Go.Mov Go.Shelf Go.Rws
attribute [local go_sem] Oper.semAt_some
set_option maxHeartbeats 2000000 in
set_option maxRecDepth 100000 in
theorem find_any (l : Ths) (k : Int) (v : Value) (w : World) (hR : RowsAt Th.cs 6 w v l) (hl : l.length ≤ 100000) :
  Calls Tryz.prog 80 #[v, .int .u64 k] w fun r w' => r = .returned (.tuple #[.int .i64 (spot l k : Nat), .bool (here l k)]) ∧ Below w.heap.size w w' := by
 obtain ⟨la, lc, rfl⟩ := hR.form
 obtain ⟨p, hp⟩ : ∃ p, p = spot l k := ⟨_, rfl⟩
 have hpl : p ≤ l.length := hp ▸ spot_le k l
 have HP := hide hp
 have HR := hide hR
 rw [← hp]
 clear hR hp
 go_enter Tryz.func80, Tryz.ntmps80
 go_wp2_with fail
 go_loopw [6] (fun v6 wr => wr = w ∧ ∃ i : Nat, v6 = .int .i64 i ∧ i ≤ p) (fun v6 _ => p - (intOf v6).toNat)
 case atStart => exact ⟨rfl, 0, rfl, Nat.zero_le _⟩
 case round =>
  obtain ⟨rfl, i, rfl, hi⟩ := hrel
  have h0 : (0 : Int) ≤ i := by omega
  by_cases hil : i < l.length
  ·obtain ⟨x, hx⟩ : ∃ x, l[i]? = some x := ⟨_, List.getElem?_eq_getElem (by omega)⟩
   obtain ⟨g, off, hla, _, _, hgl, hrg⟩ := HR.out.at (fun e => by rw [e] at hx; cases hx)
   subst hla
   have hiI : (i : Int) < l.length := by omega
   have hd : decide ((i : Int) < l.length) = true := decide_eq_true hiI
   have c0 := hrg i x hx 0 _ rfl
   rw [Nat.add_zero] at c0
   by_cases hip : i < p
   ·have hx1 : decide (x.id < k) = true := decide_eq_true (spot_ahead (HP.out ▸ hip) hx)
    clear hx hrg
    go_wp2_with fail
    go_roundw
    case rel => exact ⟨trivial, i + 1, by simp, by omega⟩
    case measure => simp [intOf]; omega
   ·obtain rfl : p = i := by omega
    have hx1 : decide (x.id < k) = false := decide_eq_false (spot_at (HP.out ▸ hx))
    have hh : here l k = (x.id == k) := by unfold here; rw [← HP.out, hx]
    clear hx hrg
    go_wp2_with fail
    go_quiet (fail)
    go_wp2_with fail
    refine bodyPost_ret (results_tmp2 Tryz.results80 _ _ _) rfl ?_
    rw [hh]
    exact ⟨rfl, rfl, rfl, rfl, Nat.le_refl _, fun _ _ => rfl⟩
  ·have hpi : p = i := by omega
   have hd : decide ((i : Int) < l.length) = false := decide_eq_false (by omega)
   have hh : here l k = false := by unfold here; rw [← HP.out, List.getElem?_eq_none (by omega)]
   go_wp2_with fail
   go_quiet (fail)
   go_wp2_with fail
   refine bodyPost_ret (results_tmp2 Tryz.results80 _ _ _) rfl ?_
   rw [hh, hpi]
   exact ⟨rfl, rfl, rfl, rfl, Nat.le_refl _, fun _ _ => rfl⟩
end Go.Proofs.YtnbhchdaobimmaaGreatDoor
/- Contracts: is something a folder, and does a thing stand below another one, by the document. -/
namespace Go.Proofs.YtnbhchdaobimmaaGreatDoor
open Go.RowKit Go.Opn Go.Stamp Go.MapInt Go.Mov Go.Shelf Go.Rws
attribute [local go_sem] Oper.semAt_some
set_option maxHeartbeats 2000000 in
set_option maxRecDepth 100000 in
theorem rfoldTh_any (l : Ths) (k : Int) (v : Value) (w : World) (hr : Rises l) (hR : RowsAt Th.cs 6 w v l) (hl : l.length ≤ 100000) :
  Calls Tryz.prog 81 #[v, .int .u64 k] w fun r w' => r = .returned (.bool (fold l k)) ∧ Below w.heap.size w w' := by
 obtain ⟨la, lc, rfl⟩ := hR.form
 have H := hide (find_any l k _ w hR hl)
 have HR := hide hR
 rw [fold_here hr]
 obtain ⟨p, hp⟩ : ∃ p, p = spot l k := ⟨_, rfl⟩
 obtain ⟨q, hq⟩ : ∃ q, q = here l k := ⟨_, rfl⟩
 have HP := hide hp
 have HQ := hide hq
 rw [← hp, ← hq] at H
 rw [← hq]
 obtain ⟨dd, hdd⟩ : ∃ dd, dd = dirAt l k := ⟨_, rfl⟩
 rw [← hdd]
 clear hR hp hq
 go_enter Tryz.func81, Tryz.ntmps81
 go_upto_region 2 with (go_at_call 80; refine H.out.mono ?_; rintro e w1 ⟨rfl, hb⟩; have HB := hide hb; clear H hb)
 by_cases hk : k = 0
 ·have hd : decide (k = 0) = true := decide_eq_true hk
  go_wp2_with fail
  refine bodyPost_ret (results_tmp Tryz.results81 _ _ _) rfl ?_
  rw [hk]
  exact ⟨rfl, HB.out⟩
 ·have hd : decide (k = 0) = false := decide_eq_false hk
  have hk2 : (k == 0) = false := by simpa using hk
  cases q with
  | false =>
   go_wp2_with fail
   refine bodyPost_ret (results_tmp Tryz.results81 _ _ _) rfl ?_
   rw [hk2]
   exact ⟨rfl, HB.out⟩
  | true =>
   obtain ⟨x, hx⟩ : ∃ x, l[p]? = some x := by
    have := HQ.out
    unfold here at this
    rw [← HP.out] at this
    cases h : l[p]? with
    | none => rw [h] at this; cases this
    | some x => exact ⟨x, rfl⟩
   obtain ⟨g, off, hla, _, _, hgl, hrg⟩ := (HR.out.below HB.out).at (fun e => by rw [e] at hx; cases hx)
   subst hla
   have hpl := (List.getElem?_eq_some_iff.1 hx).1
   have hiI : (p : Int) < l.length := by omega
   have h0 : (0 : Int) ≤ p := by omega
   have c3 := hrg p x hx 3 _ rfl
   rw [dirAt_of (HP.out ▸ hx)] at hdd
   subst hdd
   clear hrg hx
   go_wp2_with fail
   refine bodyPost_ret (results_tmp Tryz.results81 _ _ _) rfl ?_
   exact ⟨rfl, HB.out⟩
set_option maxHeartbeats 2000000 in
set_option maxRecDepth 100000 in
theorem rbelow_any (l : Ths) (k o : Int) (v : Value) (w : World) (hf : Fine l) (ho : 1 < o) (hR : RowsAt Th.cs 6 w v l) (hl : l.length ≤ 100000) :
  Calls Tryz.prog 82 #[v, .int .u64 k, .int .u64 o] w fun r w' => r = .returned (.bool (below l.length l k o)) ∧ Below w.heap.size w w' := by
 obtain ⟨la, lc, rfl⟩ := hR.form
 have HC := hide (climbs_below hf ho l.length k (hf.ends_len k))
 have HF := hide (fun (k : Int) (w' : World) (hb : Below w.heap.size w w') => find_any l k _ w' (hR.below hb) hl)
 have HR := hide hR
 have HFI := hide hf
 rw [← HC.out]
 clear hR HC hf ho
 go_enter Tryz.func82, Tryz.ntmps82
 go_wp2_with fail
 go_loopw [1, 7] (fun v1 v7 wr => ∃ (i : Nat) (j : Int), v7 = .int .i64 i ∧ v1 = .int .u64 j ∧ i ≤ l.length + 1 ∧ climbs (l.length + 1) l k o = climbs (l.length + 1 - i) l j o ∧ Hid (Below w.heap.size w wr)) (fun v1 v7 _ => l.length + 1 - (intOf v7).toNat)
 case atStart => exact ⟨0, k, rfl, rfl, Nat.zero_le _, rfl, Below.refl _ w⟩
 case round =>
  obtain ⟨i, j, rfl, rfl, hi, HC, HB⟩ := hrel
  have h0 : (0 : Int) ≤ i := by omega
  by_cases hil : i ≤ l.length
  ·have hd : decide ((i : Int) ≤ l.length) = true := decide_eq_true (by omega)
   obtain ⟨m, hm⟩ : ∃ m, l.length + 1 - i = m + 1 := ⟨l.length - i, by omega⟩
   by_cases hj : 1 < j
   ·have hd2 : decide (1 < j) = true := decide_eq_true hj
    by_cases hjo : j = o
    ·have hd3 : decide (j = o) = true := decide_eq_true hjo
     have HJ := hide hjo
     subst hjo
     go_wp2_with fail
     refine bodyPost_ret (results_tmp Tryz.results82 _ _ _) rfl ?_
     first | rw [HC, hm] | skip
     unfold climbs
     rw [if_neg (by omega), if_pos rfl]
     exact ⟨rfl, HB.out⟩
    ·have hd3 : decide (j = o) = false := decide_eq_false hjo
     have H1 := hide (HF.out j wr HB.out)
     obtain ⟨p, hp⟩ : ∃ p, p = spot l j := ⟨_, rfl⟩
     have HP := hide hp
     rw [← hp, here_look HFI.out.rises] at H1
     clear hp
     cases hlk : Mov.look l j with
     | none =>
      rw [hlk] at H1
      dsimp only [Option.isSome] at H1
      go_wp2_with (go_at_call 80; refine H1.out.mono ?_; rintro e w1 ⟨rfl, hb⟩; have HB2 := hide (HB.out.trans (hb.mono HB.out.size)); clear H1 hb)
      refine bodyPost_ret (results_tmp Tryz.results82 _ _ _) rfl ?_
      first | rw [HC, hm] | rw [hm] | skip
      unfold climbs
      rw [if_neg (by omega), if_neg hjo, hlk]
      exact ⟨rfl, HB2.out⟩
     | some x =>
      rw [hlk] at H1
      dsimp only [Option.isSome] at H1
      have hx := look_here HFI.out.rises hlk
      rw [← HP.out] at hx
      obtain ⟨g, off, hla, _, _, hgl, hrg⟩ := HR.out.at (fun e => by rw [e] at hx; cases hx)
      subst hla
      have hpl := (List.getElem?_eq_some_iff.1 hx).1
      have hiI : (p : Int) < l.length := by omega
      have h0p : (0 : Int) ≤ p := by omega
      have HG : Hid (∀ w1, Below w.heap.size w w1 → w1.cell? ⟨g, off + p * 6 + 1, none⟩ = some (.int .u64 x.par)) := fun w1 hb => (rangeAt_below (hrg p x hx) hgl hb) 1 _ rfl
      have HX := hide hlk
      clear hrg hx hlk
      go_wp2_with (go_at_call 80; refine H1.out.mono ?_; rintro e w1 ⟨rfl, hb⟩; have HB2 := hide (HB.out.trans (hb.mono HB.out.size)); clear H1 hb; have c1 := HG.out w1 HB2.out)
      go_roundw
      case rel =>
       refine ⟨i + 1, x.par, by simp, rfl, by omega, ?_, HB2.out⟩
       rw [HC, hm, show l.length + 1 - (i + 1) = m by omega]
       conv => lhs; unfold climbs
       rw [if_neg (by omega), if_neg hjo, HX.out]
      case measure => simp [intOf]; omega
   ·have hd2 : decide (1 < j) = false := decide_eq_false hj
    go_wp2_with fail
    refine bodyPost_ret (results_tmp Tryz.results82 _ _ _) rfl ?_
    first | rw [HC, hm] | rw [hm] | skip
    unfold climbs
    rw [if_pos (by omega)]
    exact ⟨rfl, HB.out⟩
  ·have hd : decide ((i : Int) ≤ l.length) = false := decide_eq_false (by omega)
   go_wp2_with fail
   refine bodyPost_ret (results_tmp Tryz.results82 _ _ _) rfl ?_
   first | rw [HC, show l.length + 1 - i = 0 by omega] | rw [show l.length + 1 - i = 0 by omega]
   exact ⟨rfl, HB.out⟩
end Go.Proofs.YtnbhchdaobimmaaGreatDoor
/- Contract: what a create makes, by the document. -/
namespace Go.Mov
open Go.RowKit Go.Rws
/-- What the document's Do leaves: the row of the things behind it. -/
structure Rt (w : World) (v : Value) (l : Ths) (w' : World) : Prop where
 row : RowsAt Th.cs 6 w' v l
 nice : Nice v
 k : Below w.heap.size w w'
end Go.Mov
namespace Go.Proofs.YtnbhchdaobimmaaGreatDoor
open Go.RowKit Go.Opn Go.Stamp Go.MapInt Go.Mov Go.Shelf Go.Rws
attribute [local go_sem] Oper.semAt_some
set_option maxRecDepth 100000 in
theorem sliceHiTN (x : World) : (Instr.sliceAt 24 (.slice none 0 0) none (some (.int .i64 0)) none).run Tryz.prog x = .ok (.slice none 0 0) x := by kernel_rfl
set_option maxRecDepth 100000 in
theorem sliceLoTN (x : World) : (Instr.sliceAt 24 (.slice none 0 0) (some (.int .i64 0)) none none).run Tryz.prog x = .ok (.slice none 0 0) x := by kernel_rfl
set_option maxRecDepth 100000 in
theorem sliceHiT (g off n c k : Nat) (x : World) (hc : k ≤ c) : (Instr.sliceAt 24 (.slice (some ⟨g, off, none⟩) n c) none (some (.int .i64 (k : Int))) none).run Tryz.prog x = .ok (.slice (some ⟨g, off, none⟩) k c) x := by
 have h1 : (k : Int) ≤ c := by omega
 go_simp
set_option maxRecDepth 100000 in
theorem sliceLoT (g off n c k : Nat) (x : World) (hk : k ≤ n) (hc : n ≤ c) : (Instr.sliceAt 24 (.slice (some ⟨g, off, none⟩) n c) (some (.int .i64 (k : Int))) none none).run Tryz.prog x = .ok (restV (some ⟨g, off, none⟩) n c k 6) x := by
 have h1 : (k : Int) ≤ c := by omega
 have h2 : (k : Int) ≤ n := by omega
 have h3 : (n : Int) ≤ c := by omega
 unfold restV
 by_cases e : c = k
 ·subst e
  rw [if_pos rfl]
  go_simp
 ·rw [if_neg e]
  have e2 : ¬ (c : Int) = k := by omega
  go_simp
set_option maxRecDepth 100000 in
theorem sliceHiTA {a : Option Addr} {n c k : Nat} (h : Nice (.slice a n c)) (hk : k ≤ n) (x : World) : (Instr.sliceAt 24 (.slice a n c) none (some (.int .i64 (k : Int))) none).run Tryz.prog x = .ok (.slice a k c) x := by
 have hc := h.cap
 rcases h with h | ⟨g, off, n', c', h, _⟩
 ·simp only [Value.slice.injEq] at h
  obtain ⟨rfl, rfl, rfl⟩ := h
  obtain rfl : k = 0 := by omega
  exact sliceHiTN x
 ·simp only [Value.slice.injEq] at h
  obtain ⟨rfl, rfl, rfl⟩ := h
  exact sliceHiT g off n c k x (by omega)
set_option maxRecDepth 100000 in
theorem sliceLoTA {a : Option Addr} {n c k : Nat} (h : Nice (.slice a n c)) (hk : k ≤ n) (x : World) : (Instr.sliceAt 24 (.slice a n c) (some (.int .i64 (k : Int))) none none).run Tryz.prog x = .ok (restV a n c k 6) x := by
 have hc := h.cap
 rcases h with h | ⟨g, off, n', c', h, _⟩
 ·simp only [Value.slice.injEq] at h
  obtain ⟨rfl, rfl, rfl⟩ := h
  obtain rfl : k = 0 := by omega
  exact sliceLoTN x
 ·simp only [Value.slice.injEq] at h
  obtain ⟨rfl, rfl, rfl⟩ := h
  exact sliceLoT g off n c k x (by omega) hc
set_option maxRecDepth 100000 in
theorem infoRTh3 : (Tryz.prog.info? 160).map (fun i => (i.zero, i.size, i.bytes)) = some (some (.agg #[.int .u64 0, .int .u64 0, .string ⟨#[]⟩, .bool false, .string ⟨#[]⟩, .int .i64 0]), 6, 64) := by kernel_rfl
set_option maxHeartbeats 4000000 in
set_option maxRecDepth 100000 in
theorem rmake_any (l : Ths) (tc tk : Int) (th pa : Int) (nm : ByteArray) (dr : Bool) (dg : ByteArray) (sz : Int) (v : Value) (w : World) (hf : Fine l) (hR : RowsAt Th.cs 6 w v l) (hN : Nice v) (hl : l.length ≤ 100000) (hth : 1 < th) :
  Calls Tryz.prog 55 #[v, .agg #[.int .i64 1, .int .u64 tc, .int .i64 tk, .int .u64 th, .int .u64 pa, .string nm, .bool dr, .string dg, .int .i64 sz]] w fun r w' => ∃ v', r = .returned v' ∧ Rt w v' (made l ⟨1, ⟨tc, tk⟩, th, pa, nm, dr, dg, sz⟩) w' := by
 obtain ⟨la, lc, rfl⟩ := hR.form
 have hmade : made l ⟨1, ⟨tc, tk⟩, th, pa, nm, dr, dg, sz⟩ = if (Mov.look l th).isNone && fold l pa then Mov.put l ⟨th, pa, nm, dr, ⟨#[]⟩, 0⟩ else l := by
  unfold Mov.made Mov.now
  have ht : Mov.top th = false := by unfold Mov.top; simp; omega
  simp only [if_true, ht, Bool.not_false, Bool.and_true]
  split <;> simp_all
 have HF := hide (fun (w' : World) (hb : Below w.heap.size w w') => find_any l th _ w' (hR.below hb) hl)
 have HO := hide (fun (w' : World) (hb : Below w.heap.size w w') => rfoldTh_any l pa _ w' hf.rises (hR.below hb) hl)
 rw [here_look hf.rises] at HF
 obtain ⟨p, hp⟩ : ∃ p, p = spot l th := ⟨_, rfl⟩
 rw [← hp] at HF
 have hpl : p ≤ l.length := hp ▸ spot_le th l
 have HP := hide hp
 have HR := hide hR
 have HN := hide hN
 have I0 : Hid (Below w.heap.size w (w.alloc (.cells #[.int .i64 1, .int .u64 tc, .int .i64 tk, .int .u64 th, .int .u64 pa, .string nm, .bool dr, .string dg, .int .i64 sz] 57)) ∧ (w.alloc (.cells #[.int .i64 1, .int .u64 tc, .int .i64 tk, .int .u64 th, .int .u64 pa, .string nm, .bool dr, .string dg, .int .i64 sz] 57)).heap[w.heap.size]? = some (.cells #[.int .i64 1, .int .u64 tc, .int .i64 tk, .int .u64 th, .int .u64 pa, .string nm, .bool dr, .string dg, .int .i64 sz] 57 (0, 0))) := ⟨(Below.refl _ w).alloc (Nat.le_refl _) _, heap_alloc_new w _⟩
 clear hR hN hp
 go_enter Tryz.func55, Tryz.ntmps55
 go_upto_region 1 with fail
 generalize (w.alloc (.cells #[.int .i64 1, .int .u64 tc, .int .i64 tk, .int .u64 th, .int .u64 pa, .string nm, .bool dr, .string dg, .int .i64 sz] 57)) = W0 at *
 obtain ⟨rq, hrq⟩ : ∃ rq, rq = (Mov.look l th).isSome := ⟨_, rfl⟩
 have HRQ := hide hrq
 rw [← hrq] at HF
 clear hrq
 have HMD := hide hmade
 clear hmade
 have c3 := cell_of_row _ _ 3 _ _ _ I0.out.2
 simp at c3
 go_upto_region 3 with (go_at_call 80; refine (HF.out _ I0.out.1).mono ?_; rintro e w1 ⟨rfl, hb⟩; have HI1 := hide (And.intro (I0.out.1.trans (hb.mono I0.out.1.size)) ((hb.block _ (Array.getElem?_eq_some_iff.1 I0.out.2).1).trans I0.out.2)); clear HF hb c3; have c0 := cell_of_row _ _ 0 _ _ _ HI1.out.2; simp at c0)
 have c4 := cell_of_row _ _ 4 _ _ _ HI1.out.2
 simp at c4
 clear c0 I0
 cases rq with
 | true =>
  have HMADE : Hid (Mov.made l ⟨1, ⟨tc, tk⟩, th, pa, nm, dr, dg, sz⟩ = l) := by
   show _ = _
   rw [HMD.out]
   have := HRQ.out
   cases h : Mov.look l th with
   | none => rw [h] at this; cases this
   | some x => rfl
  go_wp2_with fail
  refine bodyPost_ret (results_tmp Tryz.results55 _ _ _) rfl ?_
  rw [HMADE.out]
  exact ⟨_, rfl, HR.out.below HI1.out.1, HN.out, HI1.out.1⟩
 | false =>
  have hnone : Mov.look l th = none := by
   have := HRQ.out
   cases h : Mov.look l th with
   | none => rfl
   | some x => rw [h] at this; cases this
  have HNONE := hide hnone
  clear hnone
  obtain ⟨fo, hfo⟩ : ∃ fo, fo = fold l pa := ⟨_, rfl⟩
  have HFO := hide hfo
  rw [← hfo] at HO
  clear hfo
  cases fo with
  | false =>
   have HMADE : Hid (Mov.made l ⟨1, ⟨tc, tk⟩, th, pa, nm, dr, dg, sz⟩ = l) := by
    show _ = _
    rw [HMD.out, ← HFO.out]
    simp
   go_wp2_with (go_at_call 81; refine (HO.out _ HI1.out.1).mono ?_; rintro e w2 ⟨rfl, hb⟩; have HI2 := hide (And.intro (HI1.out.1.trans (hb.mono HI1.out.1.size)) ((hb.block _ (Array.getElem?_eq_some_iff.1 HI1.out.2).1).trans HI1.out.2)); clear HO hb c4)
   refine bodyPost_ret (results_tmp Tryz.results55 _ _ _) rfl ?_
   rw [HMADE.out]
   exact ⟨_, rfl, HR.out.below HI2.out.1, HN.out, HI2.out.1⟩
  | true =>
   obtain ⟨X, hX⟩ : ∃ X : Th, X = ⟨th, pa, nm, dr, ⟨#[]⟩, 0⟩ := ⟨_, rfl⟩
   have HXC : Hid ((Th.cs X).toArray = #[.int .u64 th, .int .u64 pa, .string nm, .bool dr, .string ⟨#[]⟩, .int .i64 0]) := by rw [hX]; rfl
   have HMADE : Hid (Mov.made l ⟨1, ⟨tc, tk⟩, th, pa, nm, dr, dg, sz⟩ = Mov.put l X) := by
    show _ = _
    rw [HMD.out, ← HFO.out, HNONE.out, hX]
    simp
   have HPUT : Hid (Mov.put l X = l.take p ++ X :: l.drop p) := by
    show _ = _
    have e1 : X.id = th := by rw [hX]
    have := put_new (l := l) (x := X) (by rw [e1]; exact HNONE.out)
    rw [e1, ← HP.out] at this
    exact this
   clear hX HMD
   go_upto_region 5 with (go_at_call 81; refine (HO.out _ HI1.out.1).mono ?_; rintro e w2 ⟨rfl, hb⟩; have HI2 := hide (And.intro (HI1.out.1.trans (hb.mono HI1.out.1.size)) ((hb.block _ (Array.getElem?_eq_some_iff.1 HI1.out.2).1).trans HI1.out.2)); clear HO hb c4)
   obtain ⟨lv, hlv⟩ : ∃ lv, lv = Value.slice la l.length lc := ⟨_, rfl⟩
   obtain ⟨hv, hhv⟩ : ∃ hv, hv = Value.slice la p lc := ⟨_, rfl⟩
   obtain ⟨rv, hrv⟩ : ∃ rv, rv = restV la l.length lc p 6 := ⟨_, rfl⟩
   have hHi : Hid (∀ x, (Instr.sliceAt 24 lv none (some (.int .i64 (p : Int))) none).run Tryz.prog x = .ok hv x) := fun x => by rw [hlv, hhv]; exact sliceHiTA HN.out hpl x
   have hLo : Hid (∀ x, (Instr.sliceAt 24 lv (some (.int .i64 (p : Int))) none none).run Tryz.prog x = .ok rv x) := fun x => by rw [hlv, hrv]; exact sliceLoTA HN.out hpl x
   have HH1 : Hid (∀ x, Below w2.heap.size w2 x → RegionOwn.Holds x hv 6 p ((l.take p).flatMap Th.cs) ∧ RegionOwn.Holds x rv 6 (l.length - p) ((l.drop p).flatMap Th.cs)) := fun x hx => by
    have hr : RowsAt Th.cs 6 x (.slice la l.length lc) l := HR.out.below (HI2.out.1.trans (hx.mono HI2.out.1.size))
    rw [hhv, hrv]
    exact ⟨hr.hi Th.cs_length (by decide) HN.out hpl, hr.lo Th.cs_length (by decide) HN.out hpl⟩
   have HE1 : Hid (∀ x, Below w2.heap.size w2 x → x.heap[w.heap.size]? = some (.cells #[.int .i64 1, .int .u64 tc, .int .i64 tk, .int .u64 th, .int .u64 pa, .string nm, .bool dr, .string dg, .int .i64 sz] 57 (0, 0))) := fun x hx => (hx.block _ (Array.getElem?_eq_some_iff.1 HI2.out.2).1).trans HI2.out.2
   have HONE : Hid ((∀ es : List Th, ∀ u ∈ es.flatMap Th.cs, u.oneCell' = true) ∧ ∀ u ∈ Th.cs X, u.oneCell' = true) := ⟨ths_cells, th_cells X⟩
   obtain ⟨tinfo, hti, htz, hts, htb⟩ := info_parts infoRTh3
   have HTI := hide (And.intro hti (And.intro htz (And.intro hts htb)))
   clear hti htz hts htb
   rw [← hlv]
   clear hlv hhv hrv
--BEGIN
   refine RegionOwn.regionK 20 117 160 6 (fun i => match i with
    | 0 => RegionOwn.row 0 [] 4
    | 1 => RegionOwn.val lv
    | 2 => RegionOwn.val (.int .i64 (p : Nat))
    | 3 => RegionOwn.val hv
    | 4 => RegionOwn.row p ((l.take p).flatMap Th.cs) 15
    | 5 => RegionOwn.val (.pointer (some ⟨w.heap.size, 3, none⟩))
    | 6 => RegionOwn.val (.int .u64 th)
    | 7 => RegionOwn.val (.pointer (some ⟨w.heap.size, 4, none⟩))
    | 8 => RegionOwn.val (.int .u64 pa)
    | 9 => RegionOwn.val (.pointer (some ⟨w.heap.size, 5, none⟩))
    | 10 => RegionOwn.val (.string nm)
    | 11 => RegionOwn.val (.pointer (some ⟨w.heap.size, 6, none⟩))
    | 12 => RegionOwn.val (.bool dr)
    | 13 => RegionOwn.val (.agg #[.int .u64 th, .int .u64 pa, .string nm, .bool dr, .string ⟨#[]⟩, .int .i64 0])
    | 14 => RegionOwn.row 1 (Th.cs X) 15
    | 15 => RegionOwn.row (p + 1) ((l.take p).flatMap Th.cs ++ Th.cs X) 19
    | 16 => RegionOwn.val lv
    | 17 => RegionOwn.val (.int .i64 (p : Nat))
    | 18 => RegionOwn.val rv
    | 19 => RegionOwn.row (p + 1 + (l.length - p)) ((l.take p).flatMap Th.cs ++ Th.cs X ++ (l.drop p).flatMap Th.cs) 20
    | _ => RegionOwn.val undef) (fun i => match i with | 0 => some 4 | 4 => some 15 | 14 => some 15 | 15 => some 19 | 19 => some 20 | _ => none) ?_ (by kernel_rfl) rfl (by kernel_rfl) ?_ ?_ ?_
   ·intro i hi
    match i, hi with
    | 0, _ | 1, _ | 2, _ | 3, _ | 4, _ | 5, _ | 6, _ | 7, _ | 8, _ | 9, _ | 10, _ | 11, _ | 12, _ | 13, _ | 14, _ | 15, _ | 16, _ | 17, _ | 18, _ | 19, _ => rfl
    | i + 20, h => exact absurd h (by omega)
   ·intro i p hi h
    match i, hi, h with
    | 0, _, h | 1, _, h | 2, _, h | 3, _, h | 4, _, h | 5, _, h | 6, _, h | 7, _, h | 8, _, h | 9, _, h | 10, _, h | 11, _, h | 12, _, h | 13, _, h | 14, _, h | 15, _, h | 16, _, h | 17, _, h | 18, _, h | 19, _, h => cases h
    | i + 20, h, _ => exact absurd h (by omega)
   ·intro i hi y x hfr hbx hD hO K hK
    have el : RegionOwn.T y 0 = lv := hfr.at (by kernel_rfl) rfl
    have ea : RegionOwn.T y 5 = .int .i64 (p : Nat) := hfr.at (by kernel_rfl) rfl
    have ee : RegionOwn.T y 3 = .pointer (some ⟨w.heap.size, 0, none⟩) := hfr.at (by kernel_rfl) rfl
    have hsz := hbx.size
    match i, hi with
    | 0, _ =>
     refine RegionOwn.made (ob := .cells #[] 160) (v := .slice (some ⟨x.heap.size, 0, none⟩) 0 0) rfl rfl hK (World.ownsRow_made x #[] 0 hsz (Nat.zero_le _) rfl) (fun g h => by simp [Value.ownBlock] at h; omega) ?_
     clear hK hD hfr hO
     go_simp
    | 1, _ =>
     refine RegionOwn.quiet rfl rfl hK rfl rfl ?_
     clear hK hD hfr hO
     unfold RegionOwn.T at el
     go_simp
    | 2, _ =>
     refine RegionOwn.quiet rfl rfl hK rfl rfl ?_
     clear hK hD hfr hO
     unfold RegionOwn.T at ea
     go_simp
    | 3, _ =>
     refine RegionOwn.quiet rfl rfl hK rfl rfl ?_
     have q : RegionOwn.T y 28 = lv := hD 1 28 (by decide) rfl (by kernel_rfl) (.inl rfl)
     have q1 : RegionOwn.T y 29 = .int .i64 (p : Nat) := hD 2 29 (by decide) rfl (by kernel_rfl) (.inl rfl)
     have hr := hHi.out x
     clear hK hD hfr hO
     unfold RegionOwn.T at q q1
     go_simp
    | 4, _ =>
     have q : x.ownsRow w2.heap.size 160 6 (RegionOwn.T y 27) 0 [] := hD 0 27 (by decide) rfl (by kernel_rfl) (.inr rfl)
     have q1 : RegionOwn.T y 30 = hv := hD 3 30 (by decide) rfl (by kernel_rfl) (.inl rfl)
     refine RegionOwn.appended (j := 0) (k := p) (ys := (l.take p).flatMap Th.cs) rfl rfl hK rfl tinfo _ 6 64 Tryz.underlying24 HTI.out.1 HTI.out.2.1 HTI.out.2.2.1 HTI.out.2.2.2 rfl (by decide) (by decide) rfl rfl q hsz (by rw [q1]; exact (HH1.out x hbx).1) (HONE.out.1 _) (by simp only [maxLen]; omega) (by omega) fun v z hz => ?_
     rw [Nat.zero_add] at hz
     exact hz
    | 5, _ =>
     refine RegionOwn.quiet rfl rfl hK rfl rfl ?_
     clear hK hD hfr hO
     unfold RegionOwn.T at ee
     go_simp
    | 6, _ =>
     refine RegionOwn.quiet rfl rfl hK rfl rfl ?_
     have q : RegionOwn.T y 32 = .pointer (some ⟨w.heap.size, 3, none⟩) := hD 5 32 (by decide) rfl (by kernel_rfl) (.inl rfl)
     have c := cell_of_row _ _ 3 _ _ _ (HE1.out x hbx)
     simp at c
     clear hK hD hfr hO
     unfold RegionOwn.T at q
     go_simp
    | 7, _ =>
     refine RegionOwn.quiet rfl rfl hK rfl rfl ?_
     clear hK hD hfr hO
     unfold RegionOwn.T at ee
     go_simp
    | 8, _ =>
     refine RegionOwn.quiet rfl rfl hK rfl rfl ?_
     have q : RegionOwn.T y 34 = .pointer (some ⟨w.heap.size, 4, none⟩) := hD 7 34 (by decide) rfl (by kernel_rfl) (.inl rfl)
     have c := cell_of_row _ _ 4 _ _ _ (HE1.out x hbx)
     simp at c
     clear hK hD hfr hO
     unfold RegionOwn.T at q
     go_simp
    | 9, _ =>
     refine RegionOwn.quiet rfl rfl hK rfl rfl ?_
     clear hK hD hfr hO
     unfold RegionOwn.T at ee
     go_simp
    | 10, _ =>
     refine RegionOwn.quiet rfl rfl hK rfl rfl ?_
     have q : RegionOwn.T y 36 = .pointer (some ⟨w.heap.size, 5, none⟩) := hD 9 36 (by decide) rfl (by kernel_rfl) (.inl rfl)
     have c := cell_of_row _ _ 5 _ _ _ (HE1.out x hbx)
     simp at c
     clear hK hD hfr hO
     unfold RegionOwn.T at q
     go_simp
    | 11, _ =>
     refine RegionOwn.quiet rfl rfl hK rfl rfl ?_
     clear hK hD hfr hO
     unfold RegionOwn.T at ee
     go_simp
    | 12, _ =>
     refine RegionOwn.quiet rfl rfl hK rfl rfl ?_
     have q : RegionOwn.T y 38 = .pointer (some ⟨w.heap.size, 6, none⟩) := hD 11 38 (by decide) rfl (by kernel_rfl) (.inl rfl)
     have c := cell_of_row _ _ 6 _ _ _ (HE1.out x hbx)
     simp at c
     clear hK hD hfr hO
     unfold RegionOwn.T at q
     go_simp
    | 13, _ =>
     refine RegionOwn.quiet rfl rfl hK rfl rfl ?_
     have q0 : RegionOwn.T y 33 = .int .u64 th := hD 6 33 (by decide) rfl (by kernel_rfl) (.inl rfl)
     have q1 : RegionOwn.T y 35 = .int .u64 pa := hD 8 35 (by decide) rfl (by kernel_rfl) (.inl rfl)
     have q2 : RegionOwn.T y 37 = .string nm := hD 10 37 (by decide) rfl (by kernel_rfl) (.inl rfl)
     have q3 : RegionOwn.T y 39 = .bool dr := hD 12 39 (by decide) rfl (by kernel_rfl) (.inl rfl)
     clear hK hD hfr hO
     unfold RegionOwn.T at q0 q1 q2 q3
     rw [Array.getD_eq_getD_getElem?] at q0 q1 q2 q3
     go_simp
    | 14, _ =>
     have q : RegionOwn.T y 40 = .agg #[.int .u64 th, .int .u64 pa, .string nm, .bool dr, .string ⟨#[]⟩, .int .i64 0] := hD 13 40 (by decide) rfl (by kernel_rfl) (.inl rfl)
     refine RegionOwn.made (ob := .cells (Th.cs X).toArray 160) (v := .slice (some ⟨x.heap.size, 0, none⟩) 1 1) rfl rfl hK (RegionOwn.made_one x _ 160 6 (Th.cs X).toArray hsz rfl) (fun g h => by simp [Value.ownBlock] at h; omega) ?_
     rw [HXC.out]
     clear hK hD hfr hO
     unfold RegionOwn.T at q
     have q' := q
     rw [Array.getD_eq_getD_getElem?] at q'
     go_simp
    | 15, _ =>
     have q : x.ownsRow w2.heap.size 160 6 (RegionOwn.T y 31) p ((l.take p).flatMap Th.cs) := hD 4 31 (by decide) rfl (by kernel_rfl) (.inr rfl)
     have q1 : x.ownsRow w2.heap.size 160 6 (RegionOwn.T y 41) 1 (Th.cs X) := hD 14 41 (by decide) rfl (by kernel_rfl) (.inr rfl)
     exact RegionOwn.appended (j := 4) (k := 1) (ys := Th.cs X) rfl rfl hK rfl tinfo _ 6 64 Tryz.underlying24 HTI.out.1 HTI.out.2.1 HTI.out.2.2.1 HTI.out.2.2.2 rfl (by decide) (by decide) rfl rfl q hsz (.of_own q1) HONE.out.2 (by simp only [maxLen]; omega) (by omega) fun v z hz => hz
    | 16, _ =>
     refine RegionOwn.quiet rfl rfl hK rfl rfl ?_
     clear hK hD hfr hO
     unfold RegionOwn.T at el
     go_simp
    | 17, _ =>
     refine RegionOwn.quiet rfl rfl hK rfl rfl ?_
     clear hK hD hfr hO
     unfold RegionOwn.T at ea
     go_simp
    | 18, _ =>
     refine RegionOwn.quiet rfl rfl hK rfl rfl ?_
     have q : RegionOwn.T y 43 = lv := hD 16 43 (by decide) rfl (by kernel_rfl) (.inl rfl)
     have q1 : RegionOwn.T y 44 = .int .i64 (p : Nat) := hD 17 44 (by decide) rfl (by kernel_rfl) (.inl rfl)
     have hr := hLo.out x
     clear hK hD hfr hO
     unfold RegionOwn.T at q q1
     go_simp
    | 19, _ =>
     have q : x.ownsRow w2.heap.size 160 6 (RegionOwn.T y 42) (p + 1) ((l.take p).flatMap Th.cs ++ Th.cs X) := hD 15 42 (by decide) rfl (by kernel_rfl) (.inr rfl)
     have q1 : RegionOwn.T y 45 = rv := hD 18 45 (by decide) rfl (by kernel_rfl) (.inl rfl)
     exact RegionOwn.appended (j := 15) (k := l.length - p) (ys := (l.drop p).flatMap Th.cs) rfl rfl hK rfl tinfo _ 6 64 Tryz.underlying24 HTI.out.1 HTI.out.2.1 HTI.out.2.2.1 HTI.out.2.2.2 rfl (by decide) (by decide) rfl rfl q hsz (by rw [q1]; exact (HH1.out x hbx).2) (HONE.out.1 _) (by simp only [maxLen]; omega) (by omega) fun v z hz => hz
    | i + 20, h => exact absurd h (by omega)
   ·intro y x hfr hbx hD
    have q : x.ownsRow w2.heap.size 160 6 (RegionOwn.T y 46) (p + 1 + (l.length - p)) ((l.take p).flatMap Th.cs ++ Th.cs X ++ (l.drop p).flatMap Th.cs) := hD 19 46 (by decide) rfl (fun i hi e => by cases e; omega)
    obtain ⟨va, vc, hv'⟩ := RegionOwn.own_form q
    have hl47 : List.range 117 = [0, 1, 2, 3, 4, 5, 6, 7, 8, 9, 10, 11, 12, 13, 14, 15, 16, 17, 18, 19, 20, 21, 22, 23, 24, 25, 26, 27, 28, 29, 30, 31, 32, 33, 34, 35, 36, 37, 38, 39, 40, 41, 42, 43, 44, 45, 46, 47, 48, 49, 50, 51, 52, 53, 54, 55, 56, 57, 58, 59, 60, 61, 62, 63, 64, 65, 66, 67, 68, 69, 70, 71, 72, 73, 74, 75, 76, 77, 78, 79, 80, 81, 82, 83, 84, 85, 86, 87, 88, 89, 90, 91, 92, 93, 94, 95, 96, 97, 98, 99, 100, 101, 102, 103, 104, 105, 106, 107, 108, 109, 110, 111, 112, 113, 114, 115, 116] := by decide
    have hdf : y.defers = [] := hfr.defers
    have hrow : RowsAt Th.cs 6 x (RegionOwn.T y 46) (Mov.put l X) := by
     have e1 : Mov.put l X = l.take p ++ X :: l.drop p := HPUT.out
     have e2 : (Mov.put l X).length = p + 1 + (l.length - p) := by rw [e1, List.length_append, List.length_cons, List.length_take, List.length_drop]; omega
     refine RowsAt.of_own (base := w2.heap.size) (e := 160) Th.cs_length ?_
     rw [e2, e1, List.flatMap_append, List.flatMap_cons, ← List.append_assoc]
     exact q
    have HF := hide (And.intro hrow (And.intro (Nice.of_own q) (HI2.out.1.trans (hbx.mono HI2.out.1.size))))
    rw [hv'] at HF
    rw [RegionOwn.act_lit y 117 (hfr.size.trans rfl), hl47, hdf]
    simp only [List.map_cons, List.map_nil, List.drop_succ_cons, List.drop_zero, hv']
    clear hD hfr q hrow hl47 hdf hv'
    go_wp2
    refine bodyPost_ret (results_tmp Tryz.results55 _ _ _) rfl ?_
    rw [HMADE.out]
    exact ⟨_, rfl, HF.out.1, HF.out.2.1, HF.out.2.2⟩
--END
end Go.Proofs.YtnbhchdaobimmaaGreatDoor
/- Contract: what an operation makes of the things, by the document. -/
namespace Go.Mov
open Go.RowKit Go.Rws
theorem set_back {l : Ths} {p : Nat} {x : Th} (h : l[p]? = some x) : l.set p x = l := by
 apply List.ext_getElem?
 intro i
 by_cases e : p = i
 ·subst e
  rw [List.getElem?_set_self (List.getElem?_eq_some_iff.1 h).1, h]
 ·rw [List.getElem?_set_ne e]
end Go.Mov
namespace Go.Proofs.YtnbhchdaobimmaaGreatDoor
open Go.RowKit Go.Opn Go.Stamp Go.MapInt Go.Mov Go.Shelf Go.Rws
attribute [local go_sem] Oper.semAt_some
set_option maxRecDepth 100000 in
theorem undRTs : Tryz.prog.underlying 24 = some (.slice 160) := by kernel_rfl
set_option maxHeartbeats 8000000 in
set_option maxRecDepth 100000 in
theorem rchange_any (l : Ths) (kd tc tk : Int) (th pa : Int) (nm : ByteArray) (dr : Bool) (dg : ByteArray) (sz : Int) (v : Value) (w : World) (hk : kd = 2 ∨ kd = 3 ∨ kd = 4) (hf : Fine l) (hR : RowsAt Th.cs 6 w v l) (hN : Nice v) (hl : l.length ≤ 100000) (hth : 1 < th) :
  Calls Tryz.prog 55 #[v, .agg #[.int .i64 kd, .int .u64 tc, .int .i64 tk, .int .u64 th, .int .u64 pa, .string nm, .bool dr, .string dg, .int .i64 sz]] w fun r w' => ∃ v', r = .returned v' ∧ Rt w v' (made l ⟨kd, ⟨tc, tk⟩, th, pa, nm, dr, dg, sz⟩) w' := by
 obtain ⟨la, lc, rfl⟩ := hR.form
 have HF := hide (fun (w' : World) (hb : Below w.heap.size w w') => find_any l th _ w' (hR.below hb) hl)
 have HO := hide (fun (w' : World) (hb : Below w.heap.size w w') => rfoldTh_any l pa _ w' hf.rises (hR.below hb) hl)
 have HBL := hide (fun (w' : World) (hb : Below w.heap.size w w') => rbelow_any l pa th _ w' hf hth (hR.below hb) hl)
 rw [here_look hf.rises] at HF
 obtain ⟨p, hp⟩ : ∃ p, p = spot l th := ⟨_, rfl⟩
 rw [← hp] at HF
 have hpl : p ≤ l.length := hp ▸ spot_le th l
 have HP := hide hp
 have HR := hide hR
 have HN := hide hN
 have HFI := hide hf
 have HK := hide hk
 have hk1 : decide (kd = 1) = false := decide_eq_false (by omega)
 have hk1b : (kd == 1) = false := by simpa using hk1
 have I0 : Hid (Below w.heap.size w (w.alloc (.cells #[.int .i64 kd, .int .u64 tc, .int .i64 tk, .int .u64 th, .int .u64 pa, .string nm, .bool dr, .string dg, .int .i64 sz] 57)) ∧ (w.alloc (.cells #[.int .i64 kd, .int .u64 tc, .int .i64 tk, .int .u64 th, .int .u64 pa, .string nm, .bool dr, .string dg, .int .i64 sz] 57)).heap[w.heap.size]? = some (.cells #[.int .i64 kd, .int .u64 tc, .int .i64 tk, .int .u64 th, .int .u64 pa, .string nm, .bool dr, .string dg, .int .i64 sz] 57 (0, 0))) := ⟨(Below.refl _ w).alloc (Nat.le_refl _) _, heap_alloc_new w _⟩
 clear hR hN hp hk hf
 go_enter Tryz.func55, Tryz.ntmps55
 go_upto_region 1 with fail
 generalize (w.alloc (.cells #[.int .i64 kd, .int .u64 tc, .int .i64 tk, .int .u64 th, .int .u64 pa, .string nm, .bool dr, .string dg, .int .i64 sz] 57)) = W0 at *
 obtain ⟨rq, hrq⟩ : ∃ rq, rq = (Mov.look l th).isSome := ⟨_, rfl⟩
 have HRQ := hide hrq
 rw [← hrq] at HF
 clear hrq
 have c3 := cell_of_row _ _ 3 _ _ _ I0.out.2
 simp at c3
 go_upto_region 6 with (go_at_call 80; refine (HF.out _ I0.out.1).mono ?_; rintro e w1 ⟨rfl, hb⟩; have HI1 := hide (And.intro (I0.out.1.trans (hb.mono I0.out.1.size)) ((hb.block _ (Array.getElem?_eq_some_iff.1 I0.out.2).1).trans I0.out.2)); clear HF hb c3; have c0 := cell_of_row _ _ 0 _ _ _ HI1.out.2; simp at c0)
 clear c0 I0
 cases rq with
 | false =>
  have HMADE : Hid (Mov.made l ⟨kd, ⟨tc, tk⟩, th, pa, nm, dr, dg, sz⟩ = l) := by
   show _ = _
   have hn : Mov.look l th = none := by
    have := HRQ.out
    cases h : Mov.look l th with
    | none => rfl
    | some x => rw [h] at this; cases this
   unfold Mov.made Mov.now
   dsimp only
   rw [hn, if_neg (of_decide_eq_false hk1)]
   rcases HK.out with rfl | rfl | rfl <;> rfl
  go_wp2_with fail
  refine bodyPost_ret (results_tmp Tryz.results55 _ _ _) rfl ?_
  rw [HMADE.out]
  exact ⟨_, rfl, HR.out.below HI1.out.1, HN.out, HI1.out.1⟩
 | true =>
  obtain ⟨x, hx⟩ : ∃ x, Mov.look l th = some x := by
   have := HRQ.out
   cases h : Mov.look l th with
   | none => rw [h] at this; cases this
   | some x => exact ⟨x, rfl⟩
  have hxp : l[p]? = some x := HP.out ▸ look_here HFI.out.rises hx
  have HX := hide (And.intro hx (And.intro hxp (look_mem hx).2))
  obtain ⟨g, off, hla, _, _, hgl, hrg⟩ := HR.out.at (fun e => by rw [e] at hxp; cases hxp)
  subst hla
  have HRG := hide (And.intro hgl hrg)
  have hpL := (List.getElem?_eq_some_iff.1 hxp).1
  have hpI : (p : Int) < l.length := by omega
  have h0p : (0 : Int) ≤ p := by omega
  clear hx hxp hgl hrg
  have HM0 := hide (OwnR.made (cs := Th.cs) (z := 6) (T := 160) (Below.refl w1.heap.size w1))
  have HRA := hide ((HR.out.below HI1.out.1).below ((Below.refl w1.heap.size w1).alloc (Nat.le_refl _) (.cells #[] 160)))
  go_upto_region 9 with (at_builtin; refine OwnR.appendAll HM0.out l Th.cs_length (ths_cells l) (by decide) infoRTh3 rfl (by simp; omega) (by decide) rfl _ _ 24 undRTs rfl rfl rfl HRA.out ?_; intro a1 c1 w3 hO; have HO3 := hide hO; clear hO HM0 HRA)
  rw [List.nil_append] at HO3
  obtain ⟨g2, rfl⟩ : ∃ g2, a1 = some ⟨g2, 0, none⟩ := by
   rcases HO3.out.own.2 with ⟨_, h0⟩ | ⟨j, cap, cur, h1, _⟩
   ·omega
   ·simp only [Value.slice.injEq] at h1
    exact ⟨j, h1.1⟩
  have HI3 := hide (And.intro (HI1.out.1.trans (HO3.out.below.mono HI1.out.1.size)) ((HO3.out.below.block _ (Array.getElem?_eq_some_iff.1 HI1.out.2).1).trans HI1.out.2))
  have HB1 := hide HI1.out.1
  have HW1 := (Array.getElem?_eq_some_iff.1 HI1.out.2).1
  clear HI1
  have HLAST : Hid (∀ (y : Th) (w4 : World), OwnR Th.cs 6 160 w1 (.slice (some ⟨g2, 0, none⟩) l.length c1) (l.set p y) w4 → Mov.made l ⟨kd, ⟨tc, tk⟩, th, pa, nm, dr, dg, sz⟩ = l.set p y → Rt w (.slice (some ⟨g2, 0, none⟩) l.length c1) (Mov.made l ⟨kd, ⟨tc, tk⟩, th, pa, nm, dr, dg, sz⟩) w4) := fun y w4 h e => by
   rw [e]
   exact ⟨h.rows Th.cs_length, h.nice, HB1.out.trans (h.below.mono HB1.out.size)⟩
  have HPO : Hid (∀ y : Th, y.id = th → Mov.put l y = l.set p y) := fun y hy => by
   have := put_old HFI.out.rises (x := y) (by rw [hy]; exact HX.out.1)
   rw [hy, ← HP.out] at this
   exact this
  have HSB : Hid (l.set p x = l) := set_back HX.out.2.1
  have k3 := cell_of_row _ _ 3 _ _ _ HI3.out.2
  have k4 := cell_of_row _ _ 4 _ _ _ HI3.out.2
  have k0 := cell_of_row _ _ 0 _ _ _ HI3.out.2
  simp at k0 k3 k4
  clear HN hk1 hk1b
  rcases HK.out with rfl | rfl | rfl
  ·obtain ⟨fo, hfo⟩ : ∃ fo, fo = fold l pa := ⟨_, rfl⟩
   obtain ⟨be, hbe⟩ : ∃ be, be = below l.length l pa th := ⟨_, rfl⟩
   have HFB := hide (And.intro hfo hbe)
   rw [← hfo] at HO
   rw [← hbe] at HBL
   clear hfo hbe
   have HMADE : Hid (Mov.made l ⟨2, ⟨tc, tk⟩, th, pa, nm, dr, dg, sz⟩ = if fo && !be then l.set p ⟨x.id, pa, nm, x.dir, x.dg, x.size⟩ else l) := by
    show _ = _
    unfold Mov.made Mov.now
    dsimp only
    rw [if_neg (by decide), if_pos rfl, HX.out.1]
    dsimp only
    rw [← HFB.out.1, ← HFB.out.2]
    by_cases e : (fo && !be) = true
    ·rw [if_pos e, if_pos e]
     exact HPO.out _ HX.out.2.2
    ·rw [if_neg e, if_neg e]
   cases fo with
   | false =>
    go_wp2_with (go_at_call 81; refine (HO.out _ HI3.out.1).mono ?_; rintro e w4 ⟨rfl, hb⟩; have HO4 := hide (HO3.out.step hb); have HI4 := hide (And.intro (HI3.out.1.trans (hb.mono HI3.out.1.size)) ((hb.block _ (Array.getElem?_eq_some_iff.1 HI3.out.2).1).trans HI3.out.2)); clear HO HO3 HI3 hb k0 k3 k4; have k0 := cell_of_row _ _ 0 _ _ _ HI4.out.2; simp at k0)
    have H4 := hide (HLAST.out x _ (by rw [HSB.out]; exact HO4.out) (by rw [HMADE.out, HSB.out]; rfl))
    refine bodyPost_ret (results_tmp Tryz.results55 _ _ _) rfl ?_
    exact ⟨_, rfl, H4.out⟩
   | true =>
    cases be with
    | true =>
     go_wp2_with (first
      | (go_at_call 81; refine (HO.out _ HI3.out.1).mono ?_; rintro e w4 ⟨rfl, hb⟩; have HO4 := hide (HO3.out.step hb); have HI4 := hide (And.intro (HI3.out.1.trans (hb.mono HI3.out.1.size)) ((hb.block _ (Array.getElem?_eq_some_iff.1 HI3.out.2).1).trans HI3.out.2)); clear HO HO3 HI3 hb k0 k3 k4; have k3 := cell_of_row _ _ 3 _ _ _ HI4.out.2; have k4 := cell_of_row _ _ 4 _ _ _ HI4.out.2; simp at k3 k4)
      | (go_at_call 82; refine (HBL.out _ HI4.out.1).mono ?_; rintro e w5 ⟨rfl, hb⟩; have HO5 := hide (HO4.out.step hb); have HI5 := hide (And.intro (HI4.out.1.trans (hb.mono HI4.out.1.size)) ((hb.block _ (Array.getElem?_eq_some_iff.1 HI4.out.2).1).trans HI4.out.2)); clear HBL HO4 HI4 hb k3 k4; have k0 := cell_of_row _ _ 0 _ _ _ HI5.out.2; simp at k0))
     have H4 := hide (HLAST.out x _ (by rw [HSB.out]; exact HO5.out) (by rw [HMADE.out, HSB.out]; rfl))
     refine bodyPost_ret (results_tmp Tryz.results55 _ _ _) rfl ?_
     exact ⟨_, rfl, H4.out⟩
    | false =>
     go_upto_region 10 with (first
      | (go_at_call 81; refine (HO.out _ HI3.out.1).mono ?_; rintro e w4 ⟨rfl, hb⟩; have HO4 := hide (HO3.out.step hb); have HI4 := hide (And.intro (HI3.out.1.trans (hb.mono HI3.out.1.size)) ((hb.block _ (Array.getElem?_eq_some_iff.1 HI3.out.2).1).trans HI3.out.2)); clear HO HO3 HI3 hb k0 k3 k4; have k3 := cell_of_row _ _ 3 _ _ _ HI4.out.2; have k4 := cell_of_row _ _ 4 _ _ _ HI4.out.2; simp at k3 k4)
      | (go_at_call 82; refine (HBL.out _ HI4.out.1).mono ?_; rintro e w5 ⟨rfl, hb⟩; have HO5 := hide (HO4.out.step hb); have HI5 := hide (And.intro (HI4.out.1.trans (hb.mono HI4.out.1.size)) ((hb.block _ (Array.getElem?_eq_some_iff.1 HI4.out.2).1).trans HI4.out.2)); clear HBL HO4 HI4 hb k3 k4))
     have k4 := cell_of_row _ _ 4 _ _ _ HI5.out.2
     have k5 := cell_of_row _ _ 5 _ _ _ HI5.out.2
     simp at k4 k5
     obtain ⟨d1, f1, hg1, hg2⟩ := HO5.out.cellAt (j := 1) Th.cs_length HX.out.2.1 rfl
     obtain ⟨d2, f2, _, _⟩ := HO5.out.cellAt (j := 2) Th.cs_length HX.out.2.1 rfl
     have hne : ¬ g2 = w.heap.size := by omega
     have hne2 : ¬ w.heap.size = g2 := by omega
     go_region
     have H6 := (OwnR.setAt (x := ⟨x.id, pa, x.name, x.dir, x.dg, x.size⟩) (j := 2) (u := .string nm) (x' := ⟨x.id, pa, nm, x.dir, x.dg, x.size⟩) Th.cs_length (OwnR.setAt (j := 1) (u := .int .u64 pa) (x' := ⟨x.id, pa, x.name, x.dir, x.dg, x.size⟩) Th.cs_length HO5.out HX.out.2.1 (by decide) rfl) (by rw [List.getElem?_set_self hpL]) (by decide) rfl)
     rw [List.set_set] at H6
     have H4 := hide (HLAST.out _ _ (H6.step (w' := World.drew ((w5.setCell ⟨g2, p * 6 + 1, none⟩ (.int .u64 pa)).setCell ⟨g2, p * 6 + 2, none⟩ (.string nm))) ⟨rfl, rfl, rfl, Nat.le_refl _, fun _ _ => rfl⟩) (by rw [HMADE.out]; rfl))
     clear H6
     go_wp2_with fail
     refine bodyPost_ret (results_tmp Tryz.results55 _ _ _) rfl ?_
     exact ⟨_, rfl, H4.out⟩
  ·have HMADE : Hid (Mov.made l ⟨3, ⟨tc, tk⟩, th, pa, nm, dr, dg, sz⟩ = l.set p ⟨x.id, 1, x.name, x.dir, x.dg, x.size⟩) := by
    show _ = _
    unfold Mov.made Mov.now
    dsimp only
    rw [if_neg (by decide), if_neg (by decide), if_pos rfl, HX.out.1]
    exact HPO.out _ HX.out.2.2
   obtain ⟨d1, f1, hg1, hg2⟩ := HO3.out.cellAt (j := 1) Th.cs_length HX.out.2.1 rfl
   go_wp2_with fail
   have H4 := hide (HLAST.out _ _ (OwnR.setAt (j := 1) (u := .int .u64 1) (x' := ⟨x.id, 1, x.name, x.dir, x.dg, x.size⟩) Th.cs_length HO3.out HX.out.2.1 (by decide) rfl) HMADE.out)
   refine bodyPost_ret (results_tmp Tryz.results55 _ _ _) rfl ?_
   exact ⟨_, rfl, H4.out⟩
  ·have kd3 := (rangeAt_below (HRG.out.2 p x HX.out.2.1) HRG.out.1 HI3.out.1) 3 _ rfl
   cases hdr : x.dir with
   | true =>
    have HMADE : Hid (Mov.made l ⟨4, ⟨tc, tk⟩, th, pa, nm, dr, dg, sz⟩ = l) := by
     show _ = _
     unfold Mov.made Mov.now
     dsimp only
     rw [if_neg (by decide), if_neg (by decide), if_neg (by decide), if_pos rfl, HX.out.1]
     dsimp only
     rw [hdr]
     rfl
    rw [hdr] at kd3
    go_wp2_with fail
    have H4 := hide (HLAST.out x _ (by rw [HSB.out]; exact HO3.out) (by rw [HMADE.out, HSB.out]))
    refine bodyPost_ret (results_tmp Tryz.results55 _ _ _) rfl ?_
    exact ⟨_, rfl, H4.out⟩
   | false =>
    have HMADE : Hid (Mov.made l ⟨4, ⟨tc, tk⟩, th, pa, nm, dr, dg, sz⟩ = l.set p ⟨x.id, x.par, x.name, x.dir, dg, sz⟩) := by
     show _ = _
     unfold Mov.made Mov.now
     dsimp only
     rw [if_neg (by decide), if_neg (by decide), if_neg (by decide), if_pos rfl, HX.out.1]
     dsimp only
     rw [hdr]
     have := HPO.out ⟨x.id, x.par, x.name, x.dir, dg, sz⟩ HX.out.2.2
     rw [hdr] at this
     exact this
    rw [hdr] at kd3
    go_upto_region 14 with fail
    have k7 := cell_of_row _ _ 7 _ _ _ HI3.out.2
    have k8 := cell_of_row _ _ 8 _ _ _ HI3.out.2
    simp at k7 k8
    obtain ⟨d4, f4, hg1, hg2⟩ := HO3.out.cellAt (j := 4) Th.cs_length HX.out.2.1 rfl
    obtain ⟨d5, f5, _, _⟩ := HO3.out.cellAt (j := 5) Th.cs_length HX.out.2.1 rfl
    have hne : ¬ g2 = w.heap.size := by omega
    have hne2 : ¬ w.heap.size = g2 := by omega
    go_region
    have H6 := (OwnR.setAt (x := ⟨x.id, x.par, x.name, x.dir, dg, x.size⟩) (j := 5) (u := .int .i64 sz) (x' := ⟨x.id, x.par, x.name, x.dir, dg, sz⟩) Th.cs_length (OwnR.setAt (j := 4) (u := .string dg) (x' := ⟨x.id, x.par, x.name, x.dir, dg, x.size⟩) Th.cs_length HO3.out HX.out.2.1 (by decide) rfl) (by rw [List.getElem?_set_self hpL]) (by decide) rfl)
    rw [List.set_set] at H6
    have H4 := hide (HLAST.out _ _ (H6.step (w' := World.drew ((w3.setCell ⟨g2, p * 6 + 4, none⟩ (.string dg)).setCell ⟨g2, p * 6 + 5, none⟩ (.int .i64 sz))) ⟨rfl, rfl, rfl, Nat.le_refl _, fun _ _ => rfl⟩) HMADE.out)
    clear H6
    go_wp2_with fail
    refine bodyPost_ret (results_tmp Tryz.results55 _ _ _) rfl ?_
    exact ⟨_, rfl, H4.out⟩
end Go.Proofs.YtnbhchdaobimmaaGreatDoor
/- Contracts: the document's Do of any operation that may be; its Things. -/
namespace Go.Mov
open Go.RowKit Go.Rws Go.Opn
/-- An operation that may be. -/
def Okay (o : Ob) : Prop := 1 < o.thing ∧ (o.kind = 1 ∨ o.kind = 2 ∨ o.kind = 3 ∨ o.kind = 4)
theorem okay_of {o : Ob} (h : o.chk = 0) : Okay o := by
 have h2 := (Ob.chk_zero h).2
 unfold Ob.Good Ob.good at h2
 simp only [Bool.and_eq_true] at h2
 obtain ⟨⟨h1, h2⟩, _⟩ := h2
 unfold Opn.made at h1
 simp at h1
 refine ⟨by omega, ?_⟩
 unfold Ob.fits at h2
 by_cases e1 : o.kind = 1
 ·exact .inl e1
 ·rw [if_neg e1] at h2
  by_cases e2 : o.kind = 2
  ·exact .inr (.inl e2)
  ·rw [if_neg e2] at h2
   by_cases e3 : o.kind = 3
   ·exact .inr (.inr (.inl e3))
   ·rw [if_neg e3] at h2
    by_cases e4 : o.kind = 4
    ·exact .inr (.inr (.inr e4))
    ·rw [if_neg e4] at h2; cases h2
end Go.Mov
namespace Go.Proofs.YtnbhchdaobimmaaGreatDoor
open Go.RowKit Go.Opn Go.Stamp Go.MapInt Go.Mov Go.Shelf Go.Rws
attribute [local go_sem] Oper.semAt_some
set_option maxRecDepth 100000 in
theorem rdo_any (l : Ths) (o : Ob) (v : Value) (w : World) (ho : Okay o) (hf : Fine l) (hR : RowsAt Th.cs 6 w v l) (hN : Nice v) (hl : l.length ≤ 100000) :
  Calls Tryz.prog 55 #[v, .agg (ocs o).toArray] w fun r w' => ∃ v', r = .returned v' ∧ Rt w v' (Mov.made l o) w' := by
 obtain ⟨kd, ⟨tc, tk⟩, th, pa, nm, dr, dg, sz⟩ := o
 obtain ⟨h1, h2⟩ := ho
 dsimp only at h1 h2
 rcases h2 with rfl | h2
 ·exact rmake_any l tc tk th pa nm dr dg sz v w hf hR hN hl h1
 ·exact rchange_any l kd tc tk th pa nm dr dg sz v w h2 hf hR hN hl h1
set_option maxRecDepth 100000 in
theorem infoROp9 : (Tryz.prog.info? 57).map (·.size) = some 9 := by kernel_rfl
set_option maxHeartbeats 4000000 in
set_option maxRecDepth 100000 in
theorem rthings_any (es : List En) (v : Value) (w : World) (hR : RowsAt En.cs 10 w v es) (hf : ∀ e ∈ es, e.Fits ∧ Okay e.op) (hl : es.length ≤ 100000) :
  Calls Tryz.prog 23 #[v] w fun r w' => ∃ v', r = .returned v' ∧ Rt w v' (ths [] es) w' := by
 obtain ⟨la, lc, rfl⟩ := hR.form
 have HR := hide hR
 have HF := hide hf
 have HM := hide (OwnR.made (cs := Th.cs) (z := 6) (T := 160) (Below.refl w.heap.size w))
 clear hR hf
 go_enter Tryz.func23, Tryz.ntmps23
 go_wp2_with fail
 go_loopw [3, 4] (fun v3 v4 wr => ∃ i : Nat, v4 = .int .i64 i ∧ i ≤ es.length ∧ Hid (Rt w v3 (ths [] (es.take i)) wr)) (fun v3 v4 _ => es.length - (intOf v4).toNat)
 case atStart => exact ⟨0, rfl, Nat.zero_le _, HM.out.rows Th.cs_length, HM.out.nice, HM.out.below⟩
 case round =>
  obtain ⟨i, rfl, hi, HI⟩ := hrel
  clear HM
  have h0 : (0 : Int) ≤ i := by omega
  by_cases hil : i < es.length
  ·obtain ⟨x, hx⟩ : ∃ x, es[i]? = some x := ⟨_, List.getElem?_eq_getElem hil⟩
   obtain ⟨g, off, hla, _, _, hgl, hrg⟩ := HR.out.at (fun e => by rw [e] at hx; cases hx)
   subst hla
   have hiI : (i : Int) < es.length := by omega
   have hrow : wr.rangeAt g (off + i * 10) (ocs x.op) := fun j u hu => by
    have := (rangeAt_below (hrg i x hx) hgl HI.out.k) j u (by
     unfold ocs at hu
     unfold En.cs
     rw [show ([.int .i64 x.op.kind, .int .u64 x.op.tm.c, .int .i64 x.op.tm.k, .int .u64 x.op.thing, .int .u64 x.op.par, .string x.op.name, .bool x.op.dir, .string x.op.dg, .int .i64 x.op.size, .string x.h] : List Value) = [.int .i64 x.op.kind, .int .u64 x.op.tm.c, .int .i64 x.op.tm.k, .int .u64 x.op.thing, .int .u64 x.op.par, .string x.op.name, .bool x.op.dir, .string x.op.dg, .int .i64 x.op.size] ++ [.string x.h] from rfl]
     rw [List.getElem?_append_left (List.getElem?_eq_some_iff.1 hu).1]
     exact hu)
    exact this
   have HRW := hide hrow
   have hfin : Fine (ths [] (es.take i)) := ths_fine Fine.nil fun e he => (HF.out e (List.mem_of_mem_take he)).1
   have hlen : (ths [] (es.take i)).length ≤ 100000 := by
    have := ths_length (l := es.take i) Fine.nil (fun e he => (HF.out e (List.mem_of_mem_take he)).1)
    have h2 : (es.take i).length ≤ es.length := by rw [List.length_take]; omega
    simp at this
    omega
   have HD := hide (rdo_any _ x.op _ wr (HF.out x (List.mem_of_getElem? hx)).2 hfin HI.out.row HI.out.nice hlen)
   have HN : Hid (ths [] (es.take (i + 1)) = Mov.made (ths [] (es.take i)) x.op) := by
    show _ = _
    rw [List.take_add_one, hx]
    unfold ths
    rw [Option.toList_some, List.foldl_append]
    rfl
   clear hx hrg hrow hfin hlen hgl
   go_wp2_with (first
    | (refine wpList_load_mid rfl 57 _ rfl g (off + i * 10) rfl (ocs x.op) _ HRW.out Tryz.underlying57 rfl infoROp9 ?_)
    | (go_at_call 55; refine HD.out.mono ?_; rintro e w1 ⟨v1, rfl, hr⟩; have HV := hide hr; clear HD hr))
   go_roundw
   case rel => exact ⟨i + 1, by simp, by omega, by rw [HN.out]; exact ⟨HV.out.row, HV.out.nice, HI.out.k.trans (HV.out.k.mono HI.out.k.size)⟩⟩
   case measure => simp [intOf]; omega
  ·obtain rfl : i = es.length := by omega
   go_wp2_with fail
   refine bodyPost_ret (results_tmp Tryz.results23 _ _ _) rfl ?_
   rw [List.take_length] at HI
   exact ⟨_, rfl, HI.out⟩
end Go.Proofs.YtnbhchdaobimmaaGreatDoor
