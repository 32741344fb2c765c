/- Several texts in one: PlanBetMem, PlanPlaces. -/
import Derived.Test.YtnbhchdaobimmaaGreatDoorMunAC
import Derived.Test.YtnbhchdaobimmaaGreatDoorBackAll
import Derived.Test.YtnbhchdaobimmaaGreatDoorRunAJ
import Derived.Test.YtnbhchdaobimmaaGreatDoorRunAT
import Derived.Test.YtnbhchdaobimmaaGreatDoorPlanA
/- The two rows of steps that plan.Between gathers: one in a box, one in a slot. -/
namespace Go.AppendSz
open Go.RowKit
variable {P : Program} {w : World}
/-- append of all of a row, or of none. -/
theorem wpList_append_holds {ops : Array Oper} {rest : List Oper} {o : Oper} {a : Act} {Q : Exit → Act → World → Prop}
  (hg : o.guard = none) (s x : Operand) (t : TypeId) (hop : o.op = Op.call { callee := Callee.builtin Builtin.append, args := #[s, x], argTypes := #[t, t] })
  (base : Nat) (e : TypeId) (i : TypeInfo) (z : Value) (size bytes : Nat) (h1 : P.underlying t = some (.slice e)) (h2 : P.info? e = some i) (h3 : i.zero = some z) (h4 : i.size = size) (h5 : i.bytes = bytes) (h6 : z.cells.size = size) (h7 : 0 < size)
  (v : Value) (k : Nat) (xs : List Value) (hs : a.eval s = v) (hown : w.ownsRow base e size v k xs) (m : Nat) (news : List Value) (hx : RegionOwn.Holds w (a.eval x) size m news)
  (h1c : ∀ u ∈ news, u.oneCell' = true) (b1 : k + m ≤ maxLen) (b2 : (k + m) * bytes ≤ 140737488355328) (b3 : base ≤ w.heap.size)
  (hK : ∀ v' w', w'.ownsRow base e size v' (k + m) (xs ++ news) → w.grownBy w' v.ownBlock → wpList P ops Q rest (a.put o.dst v') w') :
  wpList P ops Q (o :: rest) a w := by
 refine wpList_plain hg fun _ hK' => ?_
 have key : ∃ v' w', (Builtin.append_ #[t, t] o.type #[v, a.eval x]).run P w = .ok v' w' ∧ w'.ownsRow base e size v' (k + m) (xs ++ news) ∧ w.grownBy w' v.ownBlock := by
  rcases hx.2 with ⟨q2, q3⟩ | ⟨ad, cap, q2, q3⟩
  ·subst q3
   have hn : news = [] := List.eq_nil_of_length_eq_zero (by have := hx.1; omega)
   subst hn
   rw [q2]
   exact ⟨_, _, run_append_owned_none (P := P) (w := w) base t o.type e i size h1 h2 _ _ _ hown, by simpa using hown, ⟨rfl, rfl, rfl, Nat.le_refl _, fun _ _ _ => rfl⟩⟩
  ·rw [q2]
   obtain ⟨v', w', hr, r1, r2, _⟩ := run_append_own (P := P) w base t o.type e i z size bytes h1 h2 h3 h4 h5 h6 h7 v k xs hown ad m cap news hx.1 q3 h1c b1 b2 b3
   exact ⟨v', w', hr, r1, r2⟩
 obtain ⟨v', w', hr, r1, r2⟩ := key
 unfold Oper.wp execOp
 simp only [hop, resolve, invoke, builtin, Sem.run_bind, Sem.run_pure, Result.andThen_ok, List.map_toArray, List.map_cons, List.map_nil, hs, hr]
 exact hK' _ _ (hK v' w' r1 r2)
end Go.AppendSz
namespace Go.Proofs.YtnbhchdaobimmaaGreatDoor
open Go.RowKit Go.Img Go.Pln Go.MapFun Go.Maps Go.Shelf Go.Rws
variable {B7 : Nat} {wc w9 W z w3 : World} {S : Nat → Prop} {ss tt : List Pt} {v7 v12 v' : Value}
/-- The row in the box B7, and the row v12 in a slot. -/
def Lq (B7 : Nat) (wc w9 : World) (S : Nat → Prop) (ss tt : List Pt) (v7 v12 : Value) (W : World) : Prop :=
 Boxed W B7 29 v7 ∧ W.ownsRow B7 37 3 v7 ss.length (ss.flatMap Pt.cs) ∧ Below B7 wc W ∧ W.ownsRow w9.heap.size 37 3 v12 tt.length (tt.flatMap Pt.cs) ∧
 (∀ q, v7.ownBlock = some q → v12.ownBlock ≠ some q) ∧ (∀ q, S q → W.heap[q]? = w9.heap[q]? ∧ v7.ownBlock ≠ some q) ∧ w9.heap.size ≤ W.heap.size
theorem Lq.step (hB : B7 < w9.heap.size) (hS : ∀ q, S q → q < w9.heap.size ∧ q ≠ B7) (h : Lq B7 wc w9 S ss tt v7 v12 W) (k : Below W.heap.size W z) : Lq B7 wc w9 S ss tt v7 v12 z := by
 obtain ⟨h1, h2, h3, h4, h5, h6, h7⟩ := h
 exact ⟨(k.block _ h1.lt).trans h1, Go.Mov.own_kept h2 (fun q hq => k.block q (h2.lt q hq).2), h3.trans (k.mono (by omega)), Go.Mov.own_kept h4 (fun q hq => k.block q (h4.lt q hq).2), h5, fun q hq => ⟨(k.block q (Nat.lt_of_lt_of_le (hS q hq).1 h7)).trans (h6 q hq).1, (h6 q hq).2⟩, Nat.le_trans h7 k.size⟩
theorem Lq.push7 (hB : B7 < w9.heap.size) (hS : ∀ q, S q → q < w9.heap.size ∧ q ≠ B7) (h : Lq B7 wc w9 S ss tt v7 v12 z) {s : Pt} (hown : w3.ownsRow B7 37 3 v' (ss.length + 1) (ss.flatMap Pt.cs ++ s.cs)) (hg : z.grownBy w3 v7.ownBlock)
  (hat : v'.ownBlock = v7.ownBlock ∨ v'.ownBlock = some z.heap.size) : Lq B7 wc w9 S (ss ++ [s]) tt v' v12 (w3.setCell ⟨B7, 0, none⟩ v') := by
 obtain ⟨h1, h2, h3, h4, h5, h6, h7⟩ := h
 have hlow : ∀ q, q < z.heap.size → q ≠ B7 → some q ≠ v7.ownBlock → (w3.setCell ⟨B7, 0, none⟩ v').heap[q]? = z.heap[q]? := fun q q1 q2 q3 => (heap_setCell_other _ _ _ _ q2).trans (hg.block q q1 q3)
 have hv1 : Boxed w3 B7 29 v7 := h1.kept hg (h1.not_row (by decide) h2)
 have hz : z.heap.size ≤ (w3.setCell ⟨B7, 0, none⟩ v').heap.size := by simp; exact hg.size
 refine ⟨hv1.set _, ?_, (h3.grown hg (Nat.le_of_lt h1.lt) (fun j e => (h2.lt j e).1)).setCell (p := ⟨B7, 0, none⟩) (Nat.le_refl _) _, ?_, fun q hq => ?_, fun q hq => ⟨?_, fun e => ?_⟩, Nat.le_trans h7 hz⟩
 ·have h9 := hown.kept (grownBy_setCell' w3 B7 v') (.inr (hv1.not_row (by decide) hown).symm)
  rw [List.length_append, List.flatMap_append]
  simpa using h9
 ·refine Go.Mov.own_kept h4 fun q hq => hlow q (h4.lt q hq).2 (by have := (h4.lt q hq).1; omega) fun e => h5 q e.symm hq
 ·rcases hat with e | e
  ·rw [e] at hq; exact h5 q hq
  ·rw [e] at hq
   intro e2
   have := (h4.lt q e2).2
   have : z.heap.size = q := by injection hq
   omega
 ·have := hS q hq
  exact (hlow q (by omega) this.2 (fun e => (h6 q hq).2 e.symm)).trans (h6 q hq).1
 ·rcases hat with e2 | e2
  ·rw [e2] at e; exact (h6 q hq).2 e
  ·rw [e2] at e
   have := hS q hq
   have : z.heap.size = q := by injection e
   omega
theorem Lq.push12 (hB : B7 < w9.heap.size) (hS : ∀ q, S q → q < w9.heap.size ∧ q ≠ B7) (h : Lq B7 wc w9 S ss tt v7 v12 z) {s : Pt} (hown : w3.ownsRow w9.heap.size 37 3 v' (tt.length + 1) (tt.flatMap Pt.cs ++ s.cs)) (hg : z.grownBy w3 v12.ownBlock)
  (hat : v'.ownBlock = v12.ownBlock ∨ v'.ownBlock = some z.heap.size) : Lq B7 wc w9 S ss (tt ++ [s]) v7 v' w3 := by
 obtain ⟨h1, h2, h3, h4, h5, h6, h7⟩ := h
 refine ⟨h1.kept hg (h1.not_row (by decide) h4), Go.Mov.own_kept h2 fun q hq => hg.block q (h2.lt q hq).2 fun e => h5 q hq e.symm, h3.grown hg (Nat.le_of_lt h1.lt) (fun j e => Nat.le_trans (Nat.le_of_lt hB) (h4.lt j e).1), ?_, fun q hq => ?_, fun q hq => ⟨?_, (h6 q hq).2⟩, Nat.le_trans h7 hg.size⟩
 ·rw [List.length_append, List.flatMap_append]
  simpa using hown
 ·rcases hat with e | e
  ·rw [e]; exact h5 q hq
  ·rw [e]
   intro e2
   have := (h2.lt q hq).2
   have : z.heap.size = q := by injection e2
   omega
 ·refine (hg.block q (by have := (hS q hq).1; omega) fun e => ?_).trans (h6 q hq).1
  have := (h4.lt q e.symm).1
  have := (hS q hq).1
  omega
theorem betB_snoc (now l : List Fi) (f : Fi) : betB now (l ++ [f]) = betB now l ++ (if isB now f then [mkd f] else []) := by
 unfold betB
 rw [List.filter_append, List.map_append]
 cases h : isB now f <;> simp [h]
theorem betC_snoc (now l : List Fi) (f : Fi) : betC now (l ++ [f]) = betC now l ++ (if isC now f then [Pln.put f] else []) := by
 unfold betC
 rw [List.filter_append, List.map_append]
 cases h : isC now f <;> simp [h]
theorem got_now (now : List Fi) (f : Fi) : ∃ zc : Fi, got true (.agg Fi.zero.cs.toArray) fiE (lkP now (pk f)) = .tuple #[.agg zc.cs.toArray, .bool (Pln.has now f)] ∧ newer now f = (!Pln.has now f || !(zc.dg.toList == f.dg.toList)) := by
 unfold Pln.has newer
 cases lkP now (pk f) with
 | none => exact ⟨Fi.zero, rfl, rfl⟩
 | some a => exact ⟨a, rfl, by simp⟩
theorem betB_len (now l : List Fi) : (betB now l).length ≤ l.length := by
 unfold betB
 rw [List.length_map]
 exact List.length_filter_le _ _
theorem betC_len (now l : List Fi) : (betC now l).length ≤ l.length := by
 unfold betC
 rw [List.length_map]
 exact List.length_filter_le _ _
end Go.Proofs.YtnbhchdaobimmaaGreatDoor
/- Contract: a list of files by where they stand. -/
namespace Go.Proofs.YtnbhchdaobimmaaGreatDoor
open Go.RowKit Go.Img Go.Pln Go.MapFun Go.Maps Go.Shelf Go.Rws
attribute [local go_sem] Oper.semAt_some
set_option maxHeartbeats 4000000 in
set_option maxRecDepth 100000 in
theorem places_any (l : List Fi) (u : Value) (w : World) (hl : RowsAt Fi.cs 5 w u l) (hp : ∀ f ∈ l, f.path.length ≤ 1000) (hn : l.length ≤ 100000) :
  Calls Tryz.prog 27 #[u] w fun e w' => ∃ b, e = .returned (.map (some b)) ∧ w.heap.size ≤ b ∧ MapPl l.length w' b (lkP l) ∧ Below w.heap.size w w' := by
 obtain ⟨la, lc, rfl⟩ := hl.form
 obtain ⟨N, hN⟩ : ∃ N, N = l.length := ⟨_, rfl⟩
 rw [← hN] at hl hn
 rw [← hN]
 have HL := hide hl
 have HN := hide hN
 have HP := hide hp
 have HPl := hide (fun (f : Fi) v => placeOf_any f v)
 have hmk := plHint
 have hnI : (N : Int) ≤ 100000 := by omega
 have HM0 : Hid (MapPl 0 (w.alloc (.map #[] 0)) w.heap.size (lkP (l.take 0)) ∧ Below w.heap.size w (w.alloc (.map #[] 0))) := ⟨MapG.made _ _ _ _ _, (Below.refl _ w).alloc (Nat.le_refl _) _⟩
 clear hl hp hN
 go_enter Tryz.func27, Tryz.ntmps27
 go_wp2_with fail
 clear hmk
 go_loopw [11] (fun v11 wx => ∃ i : Nat, v11 = .int .i64 i ∧ i ≤ N ∧ Hid (MapPl i wx w.heap.size (lkP (l.take i)) ∧ Below w.heap.size w wx)) (fun v11 _ => N - (intOf v11).toNat)
 case atStart => exact ⟨0, rfl, Nat.zero_le _, HM0.out⟩
 case round =>
  obtain ⟨i, rfl, hi, HI⟩ := hrel
  clear HM0
  have h0 : (0 : Int) ≤ i := by omega
  by_cases hil : i < N
  ·obtain ⟨f, hf⟩ : ∃ f, l[i]? = some f := ⟨_, List.getElem?_eq_getElem (by rw [← HN.out]; exact hil)⟩
   obtain ⟨g1, o1, e1, q1, cx, l1, r1⟩ := (HL.out.below HI.out.2).at (fun e => by rw [e] at hf; cases hf)
   subst e1
   have hc1 : (N : Int) ≤ lc := by rw [q1]; omega
   have hiI : (i : Int) < N := by omega
   have HRG := hide (r1 i f hf)
   have HNX : Hid (lkP (l.take (i + 1)) = fun t => if t = pk f then some f else lkP (l.take i) t) := by
    show _ = _
    rw [List.take_add_one, hf, Option.toList_some, lkP_snoc]
   have hfp := HP.out f (List.mem_of_getElem? hf)
   obtain ⟨kl, hkl⟩ := plKey (pk f) hfp
   have HKL := hide hkl
   have HPf := hide (fun v => HPl.out f v)
   unfold Fi.cs at HPf
   have HB : Hid ((wr.alloc (.cells #[.string ⟨f.path.toArray⟩, .bool f.dir, .int .u64 f.id, .string f.dg, .int .i64 f.size] 51)).heap[wr.heap.size]? = some (.cells #[.string ⟨f.path.toArray⟩, .bool f.dir, .int .u64 f.id, .string f.dg, .int .i64 f.size] 51 (0, 0)) ∧ Below wr.heap.size wr (wr.alloc (.cells #[.string ⟨f.path.toArray⟩, .bool f.dir, .int .u64 f.id, .string f.dg, .int .i64 f.size] 51))) := ⟨heap_alloc_new _ _, (Below.refl _ _).alloc (Nat.le_refl _) _⟩
   clear hf r1 l1 q1 cx hkl hfp
   go_upto_region 5 with (refine wpList_load_mid rfl 51 _ rfl g1 (o1 + i * 5) rfl f.cs _ HRG.out Tryz.underlying51 rfl infoFi5 ?_; simp only [Fi.cs])
   generalize wr.alloc (.cells #[.string ⟨f.path.toArray⟩, .bool f.dir, .int .u64 f.id, .string f.dg, .int .i64 f.size] 51) = W1 at *
   refine QuietCalls.tail 4 (by kernel_rfl) (by kernel_rfl) ?_
   simp only [List.take_succ_cons, List.take_zero, List.drop_succ_cons, List.drop_zero]
   iterate 1 first | go_big_quiet_step (fail) | quiet_step (fail)
   refine QuietCalls.load rfl 51 _ rfl _ rfl _ _ _ _ HB.out.1 Tryz.underlying51 rfl infoFi5 ?_; simp only [Act.put, List.setIfInBounds_toArray, List.set_cons_succ, List.set_cons_zero]
   refine QuietCalls.call rfl 30 #[.agg #[.string ⟨f.path.toArray⟩, .bool f.dir, .int .u64 f.id, .string f.dg, .int .i64 f.size]] (.agg #[.string ⟨f.path.toArray⟩, .bool f.dir]) (fun v _ => HPf.out v) (fun v => by go_simp) ?_; simp only [Act.put, List.setIfInBounds_toArray, List.set_cons_succ, List.set_cons_zero]
   refine QuietCalls.load rfl 51 _ rfl _ rfl _ _ _ _ HB.out.1 Tryz.underlying51 rfl infoFi5 ?_; simp only [Act.put, List.setIfInBounds_toArray, List.set_cons_succ, List.set_cons_zero]
   refine wpQuiet_nil ?_
   intro w2 k2
   have KK : Below wr.heap.size wr w2 := HB.out.2.trans (k2.mono HB.out.2.size)
   have hbl : w.heap.size < wr.heap.size := HI.out.1.lt
   obtain ⟨w3, hrun, hm, hg⟩ := (HI.out.1.below hbl KK).update plKeyed plUnder plV_inj (by unfold maxLen; omega) (pk f) HKL.out f
   have hrun2 : (Instr.mapUpdate 83 (.map (some w.heap.size)) (.agg #[.string ⟨f.path.toArray⟩, .bool f.dir]) (.agg #[.string ⟨f.path.toArray⟩, .bool f.dir, .int .u64 f.id, .string f.dg, .int .i64 f.size])).run Tryz.prog w2 = .ok () w3 := hrun
   have HM3 := hide hm
   have HK3 := hide ((HI.out.2.trans (KK.mono HI.out.2.size)).grown hg (Nat.le_trans HI.out.2.size KK.size) (fun j e => by cases e; exact Nat.le_refl _))
   clear hrun hm hg k2 KK HB HPf HRG HKL
   go_wp2_with fail
   go_roundw
   case rel => exact ⟨i + 1, by simp, by omega, by rw [HNX.out]; exact HM3.out, HK3.out⟩
   case measure => simp [intOf]; omega
  ·obtain rfl : i = N := by omega
   have hiI : ¬ (i : Int) < i := by omega
   have e1 : l.take i = l := by rw [HN.out]; exact List.take_length
   rw [e1] at HI
   go_wp2_with fail
   refine bodyPost_ret (results_tmp Tryz.results27 _ _ _) rfl ?_
   exact ⟨_, rfl, Nat.le_refl _, HI.out⟩
end Go.Proofs.YtnbhchdaobimmaaGreatDoor
