/- Contract: an operation is done behind those that were done. -/
import Derived.Test.YtnbhchdaobimmaaGreatDoorBecomeAll
import Derived.Test.YtnbhchdaobimmaaGreatDoorBackAll
import Derived.Test.YtnbhchdaobimmaaGreatDoorRunAE
import Derived.Test.YtnbhchdaobimmaaGreatDoorHeldAll
import Derived.Deep.DeepCutAuto
import Derived.Deep.CutBlock
theorem Go.old_alloc_MoveDo (w : Go.World) (o : Go.Obj) (i : Nat) (h : i < w.heap.size) : (w.alloc o).heap[i]? = w.heap[i]? := by first | exact Go.heap_alloc_old w o i h | exact Go.heap_alloc_old w o h
namespace Go.Proofs.YtnbhchdaobimmaaGreatDoor
open Go.RowKit Go.Opn Go.Stamp Go.MapInt Go.Mov Go.Shelf
attribute [local go_sem] Oper.semAt_some
/-- A tree, and a step in a block of its own. -/
structure Dx (base : Nat) (F0 F : Ft) (t : Ths) (ss : List Sp) (u : Int) (w : World) (gs : Nat) (C : Array Value) (v : World) : Prop where
 s : v.heap[gs]? = some (.cells C 118 (0, 0))
 g : TreeG Tryz.prog 49 110 118 base F t ss u v
 ne : ∀ x, F.has x → x ≠ gs
 tn : Tn F0 w v
 too : F0.to F w
 ls : w.heap.size ≤ gs
variable {base : Nat} {F0 F : Ft} {t : Ths} {ss : List Sp} {u : Int} {w v v' : World} {gs : Nat} {C : Array Value}
set_option maxRecDepth 100000 in
theorem Dx.step (h : Dx base F0 F t ss u w gs C v) (k : Below v.heap.size v v') : Dx base F0 F t ss u w gs C v' :=
 ⟨(k.block _ (cells_lt h.s)).trans h.s, h.g.below k, h.ne, h.tn.trans (Tn.of_below (F := F0) k) (F0.to_refl _), h.too, h.ls⟩
set_option maxRecDepth 100000 in
theorem Dx.drew (h : Dx base F0 F t ss u w gs C v) : Dx base F0 F t ss u w gs C v.drew := h.step (Below.refl _ v).drew
set_option maxRecDepth 100000 in
theorem Tn.newSet {F : Ft} {w v : World} (h : Tn F w v) {a : Addr} (ha : w.heap.size ≤ a.block) (x : Value) : Tn F w (v.setCell a x) :=
 ⟨h.os, h.tape, h.output, by simpa using h.size, fun k hk hn => (heap_setCell_other _ _ _ _ (by omega)).trans (h.block k hk hn)⟩
set_option maxRecDepth 100000 in
theorem Dx.set (h : Dx base F0 F t ss u w gs C v) (i : Nat) (x : Value) : Dx base F0 F t ss u w gs (C.setIfInBounds i x) (v.setCell ⟨gs, i, none⟩ x) :=
 ⟨heap_setCell_same _ _ _ _ _ _ h.s, h.g.kept fun y hy => heap_setCell_other _ _ _ _ (h.ne y hy), h.ne, Tn.newSet h.tn h.ls x, h.too, h.ls⟩
set_option maxRecDepth 100000 in
theorem Dx.set6 (h : Dx base F0 F t ss u w gs C v) (a0 a1 a2 a3 a4 a5 : Value) : Dx base F0 F t ss u w gs ((((((C.setIfInBounds 10 a0).setIfInBounds 11 a1).setIfInBounds 12 a2).setIfInBounds 13 a3).setIfInBounds 14 a4).setIfInBounds 15 a5) (v.setCells gs 10 (#[a0, a1, a2, a3, a4, a5] : Array Value).toList) :=
 (((((h.set 10 a0).set 11 a1).set 12 a2).set 13 a3).set 14 a4).set 15 a5
set_option maxRecDepth 100000 in
theorem Dx.c (h : Dx base F0 F t ss u w gs C v) {i : Nat} {x : Value} (hx : C[i]? = some x) : v.cell? ⟨gs, i, none⟩ = some x := (cell_of_row _ _ _ _ _ _ h.s).trans hx
set_option maxRecDepth 100000 in
theorem Dx.f (h : Dx base F0 F t ss u w gs C v) (i : Nat) : v.frozen? ⟨gs, i, none⟩ = false := frozen_of_row _ _ _ _ _ h.s
set_option maxRecDepth 100000 in
theorem Dx.keepS (h : Dx base F0 F t ss u w gs C v) {v2 : World} (hg : v.grownBy v2 F.lv.ownBlock) : v2.heap[gs]? = some (.cells C 118 (0, 0)) :=
 (hg.block _ (cells_lt h.s) (fun e => h.ne gs (.inr (.inr e.symm)) rfl)).trans h.s
set_option maxRecDepth 100000 in
theorem Dx.append (h : Dx base F0 F t ss u w gs C v) {v2 : World} {g cap : Nat} (s' : Sp) (hg : v.grownBy v2 F.lv.ownBlock) (hown : v2.ownsRow base 118 17 (.slice (some ⟨g, 0, none⟩) (ss.length + 1) cap) (ss.length + 1) (ss.flatMap Sp.cs ++ s'.cs)) (hat : F.lv.ownBlock = some g ∨ g = v.heap.size) (hb : base ≤ w.heap.size) :
  Dx base F0 ⟨F.b, F.mb, .slice (some ⟨g, 0, none⟩) (ss.length + 1) cap⟩ t (ss ++ [s']) u w gs C (v2.setCell ⟨F.b, 1, none⟩ (.slice (some ⟨g, 0, none⟩) (ss.length + 1) cap)) := by
 have hsz := h.tn.size
 have hv : ∀ x, (Value.slice (some ⟨g, 0, none⟩) (ss.length + 1) cap).ownBlock = some x → F.lv.ownBlock = some x ∨ v.heap.size ≤ x := by
  intro x hx
  cases hx
  rcases hat with e | e
  ·exact .inl e
  ·exact .inr (Nat.le_of_eq e.symm)
 have hG := h.g.setLog (by decide) hg (ss' := ss ++ [s']) (v' := .slice (some ⟨g, 0, none⟩) (ss.length + 1) cap) (by rw [List.length_append, List.flatMap_append]; simpa using hown) hv (by omega)
 have hto : F0.to ⟨F.b, F.mb, .slice (some ⟨g, 0, none⟩) (ss.length + 1) cap⟩ w := by
  rintro x (hx | hx | hx)
  ·exact h.too x (.inl hx)
  ·exact h.too x (.inr (.inl hx))
  ·rcases hv x hx with e | e
   ·exact h.too x (.inr (.inr e))
   ·exact .inr (by omega)
 refine ⟨(heap_setCell_other _ _ _ _ (fun e => h.ne _ (.inl rfl) e.symm)).trans (h.keepS hg), hG, ?_, ?_, hto, h.ls⟩
 ·rintro x (rfl | hx | hx)
  ·exact h.ne _ (.inl rfl)
  ·exact h.ne _ (.inr (.inl hx))
  ·rcases hv x hx with e | e
   ·exact h.ne _ (.inr (.inr e))
   ·have := cells_lt h.s; omega
 ·have t1 : Tn F v v2 := Tn.of_grown hg fun x hx => .inr (.inr hx)
  have t2 : Tn F v2 (v2.setCell ⟨F.b, 1, none⟩ (.slice (some ⟨g, 0, none⟩) (ss.length + 1) cap)) := Tn.of_set v2 _ (.inl rfl)
  exact h.tn.trans (t1.trans t2 (F.to_refl _)) h.too
set_option maxRecDepth 100000 in
theorem mapNil (mb : Option Nat) (w : World) : (binOp .eql 107 (.map mb) (.map none)).run Tryz.prog w = .ok (.bool mb.isNone) w := by cases mb <;> kernel_rfl
set_option maxRecDepth 100000 in
theorem Dx.newMap (h : Dx base F0 F [] ss u w gs C v) (hb : base ≤ w.heap.size) : Dx base F0 ⟨F.b, some v.heap.size, F.lv⟩ [] ss u w gs C ((v.alloc (.map #[] 0)).setCell ⟨F.b, 0, none⟩ (.map (some v.heap.size))) := by
 have hsz := h.tn.size
 have hlt := cells_lt h.s
 have hto : F0.to ⟨F.b, some v.heap.size, F.lv⟩ w := by
  rintro x (hx | hx | hx)
  ·exact h.too x (.inl hx)
  ·cases hx; exact .inr hsz
  ·exact h.too x (.inr (.inr hx))
 refine ⟨(heap_setCell_other _ _ _ _ (fun e => h.ne _ (.inl rfl) e.symm)).trans ((Go.old_alloc_MoveDo _ _ _ hlt).trans h.s), h.g.newMap (by decide) (by omega), ?_, ?_, hto, h.ls⟩
 ·rintro x (rfl | hx | hx)
  ·exact h.ne _ (.inl rfl)
  ·cases hx; omega
  ·exact h.ne _ (.inr (.inr hx))
 ·have t1 : Tn F v (v.alloc (.map #[] 0)) := Tn.of_below ((Below.refl _ v).alloc (Nat.le_refl _) _)
  have t2 : Tn F (v.alloc (.map #[] 0)) ((v.alloc (.map #[] 0)).setCell ⟨F.b, 0, none⟩ (.map (some v.heap.size))) := Tn.of_set _ _ (.inl rfl)
  exact h.tn.trans (t1.trans t2 (F.to_refl _)) h.too
set_option maxRecDepth 100000 in
theorem Dx.setMap (h : Dx base F0 F t ss u w gs C v) {m : Nat} {t' : Ths} (hm : F.mb = some m) (hg : v.grownBy v' (some m)) (hM : MapAt Tryz.prog 49 v' (some m) t') : Dx base F0 F t' ss u w gs C v' :=
 ⟨(hg.block _ (cells_lt h.s) (fun e => h.ne gs (.inr (.inl (by rw [hm, e]))) rfl)).trans h.s, h.g.setMap hm hg hM, h.ne, h.tn.trans (Tn.of_grown (F := F) hg fun x hx => .inr (.inl (by rw [hm, hx]))) h.too, h.too, h.ls⟩
set_option maxRecDepth 100000 in
theorem ne_of_kind {w : World} {a b T : Nat} {cs : Array Value} (h : w.heap[a]? = some (.cells cs T (0, 0))) (k : ∃ es cl, w.heap[b]? = some (.map es cl)) : a ≠ b := by
 rintro rfl
 obtain ⟨es, cl, k⟩ := k
 rw [h] at k
 cases k
set_option maxRecDepth 100000 in
theorem made_elim (t : Ths) (o : Ob) : Mov.made t o = (now t.length t o).elim t (Mov.put t) := by unfold Mov.made; cases now t.length t o <;> rfl
set_option maxRecDepth 100000 in
theorem there_row {w : World} {g T o n : Nat} {C : Array Value} (h : w.heap[g]? = some (.cells C T (0, 0))) (hn : o + n ≤ C.size) : w.there g o n := fun j hj => ⟨by rw [cell_of_row _ _ _ _ _ _ h]; simp; omega, frozen_of_row _ _ _ _ _ h⟩
set_option maxRecDepth 100000 in
theorem gotT_eq (o : Option Th) : gotT o = .tuple #[(o.getD Th.zero).v, .bool o.isSome] := by cases o <;> rfl
set_option maxHeartbeats 4000000 in
set_option maxRecDepth 100000 in
theorem do_any {l : List En} (e : En) (w : World) (h : TreeAt Tryz.prog 49 110 118 base F l u w) (he : e.Fits) (hl : l.length ≤ 100000) (ho : Ord (l ++ [e])) (hb : base ≤ w.heap.size) :
  Calls Tryz.prog 53 #[.pointer (some ⟨F.b, 0, none⟩), e.v] w fun r w' =>
   ∃ F' : Ft, (∃ v, r = .returned v) ∧ F'.b = F.b ∧ TreeAt Tryz.prog 49 110 118 base F' (l ++ [e]) u w' ∧ F.to F' w ∧ Tn F w w' := by
 have HT := hide h
 have hE := hide he
 have HO := hide ho
 have HBe := hide (fun (b : Nat) (mb : Option Nat) (w : World) (h : ThsAt Tryz.prog 49 b mb (ths [] l) w) => becomes_any e w h HT.out.fine hE.out)
 obtain ⟨⟨kd, ⟨tc, tk⟩, th, pa, nm, dr, dg, sz⟩, eh⟩ := e
 have hth : Num th := hE.out.1.thing
 obtain ⟨⟨xi, xp, xn, xd, xg, xz⟩, hx⟩ : ∃ x, x = (Mov.look (ths [] l) th).getD Th.zero := ⟨_, rfl⟩
 obtain ⟨is, his⟩ : ∃ is, is = (Mov.look (ths [] l) th).isSome := ⟨_, rfl⟩
 have HL : Hid (∀ v b, ThsAt Tryz.prog 49 b F.mb (ths [] l) v → (Instr.lookup 107 (.map F.mb) (.int .u64 th) true).run Tryz.prog v = .ok (.tuple #[.agg #[.int .u64 xi, .int .u64 xp, .string xn, .bool xd, .string xg, .int .i64 xz], .bool is]) v) := fun v b hv => by
  rw [look_two hv th hth, gotT_eq, ← hx, ← his]; rfl
 obtain ⟨N, hN⟩ : ∃ N, N = now (ths [] l).length (ths [] l) (Ob.mk kd ⟨tc, tk⟩ th pa nm dr dg sz) := ⟨_, rfl⟩
 have HBl : Hid (∀ v, ThsAt Tryz.prog 49 F.b F.mb (ths [] l) v → Calls Tryz.prog 78 #[.pointer (some ⟨F.b, 0, none⟩), .agg #[.int .i64 kd, .int .u64 tc, .int .i64 tk, .int .u64 th, .int .u64 pa, .string nm, .bool dr, .string dg, .int .i64 sz, .string eh, .int .u64 xi, .int .u64 xp, .string xn, .bool xd, .string xg, .int .i64 xz, .bool is]] v fun r w' => ∃ x : Th, r = .returned (.tuple #[x.v, .bool N.isSome]) ∧ (∀ y, N = some y → x = y) ∧ Below v.heap.size v w') := fun v hv => by
  have := HBe.out F.b F.mb v hv
  unfold Sp.v Sp.x at this
  dsimp only at this
  rw [← hx, ← his, ← hN] at this
  exact this
 have HM : Hid (ths [] (l ++ [⟨⟨kd, ⟨tc, tk⟩, th, pa, nm, dr, dg, sz⟩, eh⟩]) = N.elim (ths [] l) (Mov.put (ths [] l))) := by show _ = _; rw [ths_append, ths_one, made_elim, hN]
 have HNf : Hid (∀ y, N = some y → y.Fits ∧ y.id = th) := fun y hy => by
  rw [hN] at hy
  exact ⟨(HT.out.fine.now hE.out.1 hy).2, now_id hy⟩
 clear HBe hN
 have HX := hide (And.intro hx his)
 clear h he ho hx his
 have I0 : Hid (Dx base F F (ths [] l) (sps [] l) u w (w.heap.size + 1) #[.int .i64 kd, .int .u64 tc, .int .i64 tk, .int .u64 th, .int .u64 pa, .string nm, .bool dr, .string dg, .int .i64 sz, .string eh, .int .u64 0, .int .u64 0, .string ⟨#[]⟩, .bool false, .string ⟨#[]⟩, .int .i64 0, .bool false] ((w.alloc (.cells #[.int .i64 kd, .int .u64 tc, .int .i64 tk, .int .u64 th, .int .u64 pa, .string nm, .bool dr, .string dg, .int .i64 sz, .string eh] 68)).alloc (.cells #[.int .i64 kd, .int .u64 tc, .int .i64 tk, .int .u64 th, .int .u64 pa, .string nm, .bool dr, .string dg, .int .i64 sz, .string eh, .int .u64 0, .int .u64 0, .string ⟨#[]⟩, .bool false, .string ⟨#[]⟩, .int .i64 0, .bool false] 118))) := by
  have k : Below w.heap.size w ((w.alloc (.cells #[.int .i64 kd, .int .u64 tc, .int .i64 tk, .int .u64 th, .int .u64 pa, .string nm, .bool dr, .string dg, .int .i64 sz, .string eh] 68)).alloc (.cells #[.int .i64 kd, .int .u64 tc, .int .i64 tk, .int .u64 th, .int .u64 pa, .string nm, .bool dr, .string dg, .int .i64 sz, .string eh, .int .u64 0, .int .u64 0, .string ⟨#[]⟩, .bool false, .string ⟨#[]⟩, .int .i64 0, .bool false] 118)) := ((Below.refl _ w).alloc (Nat.le_refl _) _).alloc (by simp) _
  refine ⟨?_, HT.out.g.below k, fun x hx e => ?_, Tn.of_below k, F.to_refl _, by omega⟩
  ·have := heap_alloc_new (w.alloc (.cells #[.int .i64 kd, .int .u64 tc, .int .i64 tk, .int .u64 th, .int .u64 pa, .string nm, .bool dr, .string dg, .int .i64 sz, .string eh] 68)) (.cells #[.int .i64 kd, .int .u64 tc, .int .i64 tk, .int .u64 th, .int .u64 pa, .string nm, .bool dr, .string dg, .int .i64 sz, .string eh, .int .u64 0, .int .u64 0, .string ⟨#[]⟩, .bool false, .string ⟨#[]⟩, .int .i64 0, .bool false] 118)
   rwa [World.size_alloc] at this
  ·have := HT.out.g.lt x hx; omega
 unfold En.v
 dsimp only
 go_enter Tryz.func53, Tryz.ntmps53
 go_upto_region 2 with fail
 generalize (w.alloc (.cells #[.int .i64 kd, .int .u64 tc, .int .i64 tk, .int .u64 th, .int .u64 pa, .string nm, .bool dr, .string dg, .int .i64 sz, .string eh] 68)).alloc (.cells #[.int .i64 kd, .int .u64 tc, .int .i64 tk, .int .u64 th, .int .u64 pa, .string nm, .bool dr, .string dg, .int .i64 sz, .string eh, .int .u64 0, .int .u64 0, .string ⟨#[]⟩, .bool false, .string ⟨#[]⟩, .int .i64 0, .bool false] 118) = w2 at *
 refine HeldO.region (fun v => ∃ C, Dx base F F (ths [] l) (sps [] l) u w (w.heap.size + 1) C v ∧ C[3]? = some (.int .u64 th)) [(true, 0), (true, 1), (true, 2), (true, 3), (true, 4), (true, 5), (true, 6), (true, 7), (true, 8), (true, 9), (true, 10), (true, 11), (true, 12), (false, 13), (true, 14), (false, 15)] (by kernel_rfl) (by kernel_rfl) rfl (fun d _ _ _ _ h => by cases d <;> exact h) ⟨_, I0.out.drew, rfl⟩ ?_
 refine HeldO.take (.pointer (some ⟨F.b, 0, none⟩)) rfl rfl (fun _ _ => by kernel_rfl) ?_; simp only [List.getElem_toArray, List.getElem_cons_zero, Act.put, List.setIfInBounds_toArray, List.set_cons_succ, List.set_cons_zero]
 refine HeldO.take (.pointer (some ⟨F.b, 0, none⟩)) rfl rfl (fun _ _ => by kernel_rfl) ?_; simp only [List.getElem_toArray, List.getElem_cons_succ, List.getElem_cons_zero, Act.put, List.setIfInBounds_toArray, List.set_cons_succ, List.set_cons_zero]
 refine HeldO.take (.pointer (some ⟨F.b, 0, none⟩)) rfl rfl (fun _ _ => by kernel_rfl) ?_; simp only [List.getElem_toArray, List.getElem_cons_succ, List.getElem_cons_zero, Act.put, List.setIfInBounds_toArray, List.set_cons_succ, List.set_cons_zero]
 refine HeldO.take (.map F.mb) rfl rfl (fun v hv => by obtain ⟨C, h, _⟩ := hv; have hc := h.g.ths.cell; go_simp) ?_; simp only [List.getElem_toArray, List.getElem_cons_succ, List.getElem_cons_zero, Act.put, List.setIfInBounds_toArray, List.set_cons_succ, List.set_cons_zero]
 refine HeldO.take (.pointer (some ⟨w.heap.size + 1, 0, none⟩)) rfl rfl (fun _ _ => by kernel_rfl) ?_; simp only [List.getElem_toArray, List.getElem_cons_succ, List.getElem_cons_zero, Act.put, List.setIfInBounds_toArray, List.set_cons_succ, List.set_cons_zero]
 refine HeldO.take (.pointer (some ⟨w.heap.size + 1, 0, none⟩)) rfl rfl (fun _ _ => by kernel_rfl) ?_; simp only [List.getElem_toArray, List.getElem_cons_succ, List.getElem_cons_zero, Act.put, List.setIfInBounds_toArray, List.set_cons_succ, List.set_cons_zero]
 refine HeldO.take (.pointer (some ⟨w.heap.size + 1, 3, none⟩)) rfl rfl (fun _ _ => by kernel_rfl) ?_; simp only [List.getElem_toArray, List.getElem_cons_succ, List.getElem_cons_zero, Act.put, List.setIfInBounds_toArray, List.set_cons_succ, List.set_cons_zero]
 refine HeldO.take (.int .u64 th) rfl rfl (fun v hv => by obtain ⟨C, h, h3⟩ := hv; have hc := h.c h3; go_simp) ?_; simp only [List.getElem_toArray, List.getElem_cons_succ, List.getElem_cons_zero, Act.put, List.setIfInBounds_toArray, List.set_cons_succ, List.set_cons_zero]
 refine HeldO.take (.tuple #[.agg #[.int .u64 xi, .int .u64 xp, .string xn, .bool xd, .string xg, .int .i64 xz], .bool is]) rfl rfl (fun v hv => by obtain ⟨C, h, _⟩ := hv; have hc := HL.out v F.b h.g.ths; go_simp) ?_; simp only [List.getElem_toArray, List.getElem_cons_succ, List.getElem_cons_zero, Act.put, List.setIfInBounds_toArray, List.set_cons_succ, List.set_cons_zero]
 refine HeldO.take (.tuple #[.agg #[.int .u64 xi, .int .u64 xp, .string xn, .bool xd, .string xg, .int .i64 xz], .bool is]) rfl rfl (fun _ _ => by kernel_rfl) ?_; simp only [List.getElem_toArray, List.getElem_cons_succ, List.getElem_cons_zero, Act.put, List.setIfInBounds_toArray, List.set_cons_succ, List.set_cons_zero]
 refine HeldO.take (.agg #[.int .u64 xi, .int .u64 xp, .string xn, .bool xd, .string xg, .int .i64 xz]) rfl rfl (fun _ _ => by kernel_rfl) ?_; simp only [List.getElem_toArray, List.getElem_cons_succ, List.getElem_cons_zero, Act.put, List.setIfInBounds_toArray, List.set_cons_succ, List.set_cons_zero]
 refine HeldO.take (.bool is) rfl rfl (fun _ _ => by kernel_rfl) ?_; simp only [List.getElem_toArray, List.getElem_cons_succ, List.getElem_cons_zero, Act.put, List.setIfInBounds_toArray, List.set_cons_succ, List.set_cons_zero]
 refine HeldO.take (.pointer (some ⟨w.heap.size + 1, 10, none⟩)) rfl rfl (fun _ _ => by kernel_rfl) ?_; simp only [List.getElem_toArray, List.getElem_cons_succ, List.getElem_cons_zero, Act.put, List.setIfInBounds_toArray, List.set_cons_succ, List.set_cons_zero]
 have I1 := hide ((I0.out.drew).set6 (.int .u64 xi) (.int .u64 xp) (.string xn) (.bool xd) (.string xg) (.int .i64 xz))
 simp only [List.setIfInBounds_toArray, List.set_cons_succ, List.set_cons_zero] at I1
 have hth6 : w2.drew.there (w.heap.size + 1) 10 6 := there_row I0.out.drew.s (by simp)
 refine HeldO.step rfl rfl ?_
 simp only [List.getElem_toArray, List.getElem_cons_succ, List.getElem_cons_zero]
 refine wp_store_mid 79 (.tmp 21) (.tmp 19) rfl (w.heap.size + 1) 10 #[.int .u64 xi, .int .u64 xp, .string xn, .bool xd, .string xg, .int .i64 xz] rfl rfl hth6 infoTh (by simp [Value.oneCell']) ?_
 generalize w2.drew.setCells (w.heap.size + 1) 10 (#[.int .u64 xi, .int .u64 xp, .string xn, .bool xd, .string xg, .int .i64 xz] : Array Value).toList = w3 at I1 ⊢
 refine ⟨⟨_, I1.out, rfl⟩, ?_⟩
 clear I0
 simp only [Act.put]
 refine HeldO.take (.pointer (some ⟨w.heap.size + 1, 16, none⟩)) rfl rfl (fun _ _ => by kernel_rfl) ?_; simp only [List.getElem_toArray, List.getElem_cons_succ, List.getElem_cons_zero, Act.put, List.setIfInBounds_toArray, List.set_cons_succ, List.set_cons_zero]
 have I2 := hide (I1.out.set 16 (.bool is))
 simp only [List.setIfInBounds_toArray, List.set_cons_succ, List.set_cons_zero] at I2
 have q16 := I1.out.c (i := 16) rfl
 have f16 := I1.out.f 16
 refine HeldO.step rfl rfl ?_
 simp only [List.getElem_toArray, List.getElem_cons_succ, List.getElem_cons_zero]
 unfold Oper.wp
 go_simp
 refine ⟨⟨_, I2.out, rfl⟩, ?_⟩
 generalize w3.setCell ⟨w.heap.size + 1, 16, none⟩ (.bool is) = w4 at I2 ⊢
 clear I1 q16 f16 hth6
 show Exit.then _ _ _ _ _
 go_upto_region 3 with fail
 go_cut [] (fun wx => Hid (∃ v', Dx base F ⟨F.b, F.mb, v'⟩ (ths [] l) (sps [] (l ++ [⟨⟨kd, ⟨tc, tk⟩, th, pa, nm, dr, dg, sz⟩, eh⟩])) u w (w.heap.size + 1) #[.int .i64 kd, .int .u64 tc, .int .i64 tk, .int .u64 th, .int .u64 pa, .string nm, .bool dr, .string dg, .int .i64 sz, .string eh, .int .u64 xi, .int .u64 xp, .string xn, .bool xd, .string xg, .int .i64 xz, .bool is] wx))
 case first =>
  obtain ⟨la, lc, hlv⟩ := I2.out.g.steps.form
  have ID := hide I2.out.drew
  have c1 := ID.out.g.c1
  rw [hlv] at c1
  have c1a : ∀ o, (w4.drew.alloc o).cell? ⟨F.b, 1, none⟩ = some (.slice la (sps [] l).length lc) := fun o => (((Below.refl _ w4.drew).alloc (Nat.le_refl _) o).cell (p := ⟨F.b, 1, none⟩) (ID.out.g.lt _ (.inl rfl))).trans c1
  have s1a : ∀ o, (w4.drew.alloc o).heap[w.heap.size + 1]? = some (.cells #[.int .i64 kd, .int .u64 tc, .int .i64 tk, .int .u64 th, .int .u64 pa, .string nm, .bool dr, .string dg, .int .i64 sz, .string eh, .int .u64 xi, .int .u64 xp, .string xn, .bool xd, .string xg, .int .i64 xz, .bool is] 118 (0, 0)) := fun o => (ID.out.step ((Below.refl _ w4.drew).alloc (Nat.le_refl _) o)).s
  obtain ⟨i0, hi, hz0, hz1, hz2⟩ := info_parts infoSp3
  have hcs : Hid ((Sp.mk ⟨⟨kd, ⟨tc, tk⟩, th, pa, nm, dr, dg, sz⟩, eh⟩ (Mov.look (ths [] l) th)).cs = Array.toList #[.int .i64 kd, .int .u64 tc, .int .i64 tk, .int .u64 th, .int .u64 pa, .string nm, .bool dr, .string dg, .int .i64 sz, .string eh, .int .u64 xi, .int .u64 xp, .string xn, .bool xd, .string xg, .int .i64 xz, .bool is]) := by
   show _ = _
   unfold Sp.cs Sp.x
   dsimp only
   rw [← HX.out.1, ← HX.out.2]
   rfl
  have IA := hide (ID.out.step ((Below.refl _ w4.drew).alloc (Nat.le_refl _) (.cells #[.int .i64 kd, .int .u64 tc, .int .i64 tk, .int .u64 th, .int .u64 pa, .string nm, .bool dr, .string dg, .int .i64 sz, .string eh, .int .u64 xi, .int .u64 xp, .string xn, .bool xd, .string xg, .int .i64 xz, .bool is] 118)))
  have hownA := IA.out.g.row
  rw [hlv] at hownA
  have hone : ∀ u ∈ Array.toList (#[.int .i64 kd, .int .u64 tc, .int .i64 tk, .int .u64 th, .int .u64 pa, .string nm, .bool dr, .string dg, .int .i64 sz, .string eh, .int .u64 xi, .int .u64 xp, .string xn, .bool xd, .string xg, .int .i64 xz, .bool is] : Array Value), u.oneCell' = true := by rw [← hcs.out]; exact cs_one _
  have hle1 : (sps [] l).length + 1 ≤ maxLen := by unfold maxLen; rw [sps_length]; omega
  have hle2 : ((sps [] l).length + 1) * 176 ≤ 140737488355328 := by rw [sps_length]; omega
  have hle3 : base ≤ (w4.drew.alloc (.cells #[.int .i64 kd, .int .u64 tc, .int .i64 tk, .int .u64 th, .int .u64 pa, .string nm, .bool dr, .string dg, .int .i64 sz, .string eh, .int .u64 xi, .int .u64 xp, .string xn, .bool xd, .string xg, .int .i64 xz, .bool is] 118)).heap.size := Nat.le_trans hb IA.out.tn.size
  refine HeldO.region2 (fun v => v.heap[w.heap.size + 1]? = some (.cells #[.int .i64 kd, .int .u64 tc, .int .i64 tk, .int .u64 th, .int .u64 pa, .string nm, .bool dr, .string dg, .int .i64 sz, .string eh, .int .u64 xi, .int .u64 xp, .string xn, .bool xd, .string xg, .int .i64 xz, .bool is] 118 (0, 0))) [0, 1, 2, 3, 5] 4 6 [(false, 7), (true, 8), (true, 9), (false, 10)] (by kernel_rfl) (by kernel_rfl) rfl (fun d _ _ _ _ h => by cases d <;> exact h) ID.out.s ?_
  generalize w4.drew = w5 at ID c1 c1a s1a IA hownA hle3 ⊢
  refine HeldO.first (.pointer (some ⟨F.b, 0, none⟩)) rfl rfl (fun _ _ => by kernel_rfl) ?_; simp only [List.getElem_toArray, List.getElem_cons_zero, Act.put, List.setIfInBounds_toArray, List.set_cons_succ, List.set_cons_zero]
  refine HeldO.first (.pointer (some ⟨F.b, 0, none⟩)) rfl rfl (fun _ _ => by kernel_rfl) ?_; simp only [List.getElem_toArray, List.getElem_cons_succ, List.getElem_cons_zero, Act.put, List.setIfInBounds_toArray, List.set_cons_succ, List.set_cons_zero]
  refine HeldO.first (.pointer (some ⟨F.b, 0, none⟩)) rfl rfl (fun _ _ => by kernel_rfl) ?_; simp only [List.getElem_toArray, List.getElem_cons_succ, List.getElem_cons_zero, Act.put, List.setIfInBounds_toArray, List.set_cons_succ, List.set_cons_zero]
  refine HeldO.first (.pointer (some ⟨F.b, 1, none⟩)) rfl rfl (fun _ _ => by kernel_rfl) ?_; simp only [List.getElem_toArray, List.getElem_cons_succ, List.getElem_cons_zero, Act.put, List.setIfInBounds_toArray, List.set_cons_succ, List.set_cons_zero]
  refine HeldO.firstRow 118 _ rfl rfl rfl (w.heap.size + 1) rfl 118 _ (0, 0) _ (fun v hv => hv) Tryz.underlying118 rfl infoSp ?_; simp only [List.getElem_toArray, List.getElem_cons_succ, List.getElem_cons_zero, Act.put, List.setIfInBounds_toArray, List.set_cons_succ, List.set_cons_zero]
  refine ⟨?_, ?_⟩
  ·refine HeldO.turns (.slice la (sps [] l).length lc) w5 rfl rfl (by simp only [List.getElem_toArray, List.getElem_cons_succ, List.getElem_cons_zero]; go_simp) ID.out.s ?_; simp only [List.getElem_toArray, List.getElem_cons_succ, List.getElem_cons_zero, Act.put, List.setIfInBounds_toArray, List.set_cons_succ, List.set_cons_zero]
   refine HeldO.turns (.slice (some ⟨w5.heap.size, 0, none⟩) 1 1) (w5.alloc (.cells #[.int .i64 kd, .int .u64 tc, .int .i64 tk, .int .u64 th, .int .u64 pa, .string nm, .bool dr, .string dg, .int .i64 sz, .string eh, .int .u64 xi, .int .u64 xp, .string xn, .bool xd, .string xg, .int .i64 xz, .bool is] 118)) rfl rfl (by simp only [List.getElem_toArray, List.getElem_cons_succ, List.getElem_cons_zero]; go_simp) (s1a _) ?_; simp only [List.getElem_toArray, List.getElem_cons_succ, List.getElem_cons_zero, Act.put, List.setIfInBounds_toArray, List.set_cons_succ, List.set_cons_zero]
   refine HeldO.step rfl rfl ?_
   simp only [List.getElem_toArray, List.getElem_cons_succ, List.getElem_cons_zero]
   refine wp_append_lies _ (.tmp 27) (.tmp 29) 108 rfl base 118 i0 _ 17 176 Tryz.underlying108 hi hz0 hz1 hz2 rfl (by decide) (.slice la (sps [] l).length lc) (sps [] l).length ((sps [] l).flatMap Sp.cs) rfl hownA ⟨w5.heap.size, 0, none⟩ 1 1 (Array.toList #[.int .i64 kd, .int .u64 tc, .int .i64 tk, .int .u64 th, .int .u64 pa, .string nm, .bool dr, .string dg, .int .i64 sz, .string eh, .int .u64 xi, .int .u64 xp, .string xn, .bool xd, .string xg, .int .i64 xz, .bool is]) rfl rfl (World.news_of_block (heap_alloc_new _ _)) hone (by decide) hle1 hle2 hle3 _ rfl ?_
   intro g cap w7 hown7 hgrow7 hat7 _
   have I7 := hide (IA.out.append (Sp.mk ⟨⟨kd, ⟨tc, tk⟩, th, pa, nm, dr, dg, sz⟩, eh⟩ (Mov.look (ths [] l) th)) (hlv.symm ▸ hgrow7) (hcs.out ▸ hown7) (hlv.symm ▸ hat7) hb)
   have HS7 := hide (IA.out.keepS (hlv.symm ▸ hgrow7))
   have q7 : w7.cell? ⟨F.b, 1, none⟩ = some (.slice la (sps [] l).length lc) := (cell_of_row _ _ _ _ _ _ ((hgrow7.block _ (IA.out.g.lt _ (.inl rfl)) (fun e => IA.out.g.ne_row (by decide) (hlv ▸ e.symm))).trans IA.out.g.blk)).trans (by rw [hlv]; rfl)
   have f7 : w7.frozen? ⟨F.b, 1, none⟩ = false := frozen_of_row _ _ _ _ _ ((hgrow7.block _ (IA.out.g.lt _ (.inl rfl)) (fun e => IA.out.g.ne_row (by decide) (hlv ▸ e.symm))).trans IA.out.g.blk)
   clear hown7 hgrow7 hat7
   refine ⟨HS7.out, ?_⟩
   simp only [Act.put, List.setIfInBounds_toArray, List.set_cons_succ, List.set_cons_zero]
   refine HeldO.take (.pointer (some ⟨F.b, 0, none⟩)) rfl rfl (fun _ _ => by kernel_rfl) ?_; simp only [List.getElem_toArray, List.getElem_cons_succ, List.getElem_cons_zero, Act.put, List.setIfInBounds_toArray, List.set_cons_succ, List.set_cons_zero]
   refine HeldO.take (.pointer (some ⟨F.b, 1, none⟩)) rfl rfl (fun _ _ => by kernel_rfl) ?_; simp only [List.getElem_toArray, List.getElem_cons_succ, List.getElem_cons_zero, Act.put, List.setIfInBounds_toArray, List.set_cons_succ, List.set_cons_zero]
   refine HeldO.step rfl rfl ?_
   simp only [List.getElem_toArray, List.getElem_cons_succ, List.getElem_cons_zero]
   unfold Oper.wp
   go_simp
   refine ⟨I7.out.s, ?_⟩
   show Exit.then _ _ _ _ _
   go_wp2
   go_meet
   exact ⟨.slice (some ⟨g, 0, none⟩) ((sps [] l).length + 1) cap, by rw [sps_append]; exact I7.out⟩
  ·refine HeldO.turns (.slice (some ⟨w5.heap.size, 0, none⟩) 1 1) (w5.alloc (.cells #[.int .i64 kd, .int .u64 tc, .int .i64 tk, .int .u64 th, .int .u64 pa, .string nm, .bool dr, .string dg, .int .i64 sz, .string eh, .int .u64 xi, .int .u64 xp, .string xn, .bool xd, .string xg, .int .i64 xz, .bool is] 118)) rfl rfl (by simp only [List.getElem_toArray, List.getElem_cons_succ, List.getElem_cons_zero]; go_simp) (s1a _) ?_; simp only [List.getElem_toArray, List.getElem_cons_succ, List.getElem_cons_zero, Act.put, List.setIfInBounds_toArray, List.set_cons_succ, List.set_cons_zero]
   have c1b := c1a (.cells #[.int .i64 kd, .int .u64 tc, .int .i64 tk, .int .u64 th, .int .u64 pa, .string nm, .bool dr, .string dg, .int .i64 sz, .string eh, .int .u64 xi, .int .u64 xp, .string xn, .bool xd, .string xg, .int .i64 xz, .bool is] 118)
   refine HeldO.turns (.slice la (sps [] l).length lc) (w5.alloc (.cells #[.int .i64 kd, .int .u64 tc, .int .i64 tk, .int .u64 th, .int .u64 pa, .string nm, .bool dr, .string dg, .int .i64 sz, .string eh, .int .u64 xi, .int .u64 xp, .string xn, .bool xd, .string xg, .int .i64 xz, .bool is] 118)) rfl rfl (by simp only [List.getElem_toArray, List.getElem_cons_succ, List.getElem_cons_zero]; go_simp) (s1a _) ?_; simp only [List.getElem_toArray, List.getElem_cons_succ, List.getElem_cons_zero, Act.put, List.setIfInBounds_toArray, List.set_cons_succ, List.set_cons_zero]
   refine HeldO.step rfl rfl ?_
   simp only [List.getElem_toArray, List.getElem_cons_succ, List.getElem_cons_zero]
   refine wp_append_lies _ (.tmp 27) (.tmp 29) 108 rfl base 118 i0 _ 17 176 Tryz.underlying108 hi hz0 hz1 hz2 rfl (by decide) (.slice la (sps [] l).length lc) (sps [] l).length ((sps [] l).flatMap Sp.cs) rfl hownA ⟨w5.heap.size, 0, none⟩ 1 1 (Array.toList #[.int .i64 kd, .int .u64 tc, .int .i64 tk, .int .u64 th, .int .u64 pa, .string nm, .bool dr, .string dg, .int .i64 sz, .string eh, .int .u64 xi, .int .u64 xp, .string xn, .bool xd, .string xg, .int .i64 xz, .bool is]) rfl rfl (World.news_of_block (heap_alloc_new _ _)) hone (by decide) hle1 hle2 hle3 _ rfl ?_
   intro g cap w7 hown7 hgrow7 hat7 _
   have I7 := hide (IA.out.append (Sp.mk ⟨⟨kd, ⟨tc, tk⟩, th, pa, nm, dr, dg, sz⟩, eh⟩ (Mov.look (ths [] l) th)) (hlv.symm ▸ hgrow7) (hcs.out ▸ hown7) (hlv.symm ▸ hat7) hb)
   have HS7 := hide (IA.out.keepS (hlv.symm ▸ hgrow7))
   have q7 : w7.cell? ⟨F.b, 1, none⟩ = some (.slice la (sps [] l).length lc) := (cell_of_row _ _ _ _ _ _ ((hgrow7.block _ (IA.out.g.lt _ (.inl rfl)) (fun e => IA.out.g.ne_row (by decide) (hlv ▸ e.symm))).trans IA.out.g.blk)).trans (by rw [hlv]; rfl)
   have f7 : w7.frozen? ⟨F.b, 1, none⟩ = false := frozen_of_row _ _ _ _ _ ((hgrow7.block _ (IA.out.g.lt _ (.inl rfl)) (fun e => IA.out.g.ne_row (by decide) (hlv ▸ e.symm))).trans IA.out.g.blk)
   clear hown7 hgrow7 hat7
   refine ⟨HS7.out, ?_⟩
   simp only [Act.put, List.setIfInBounds_toArray, List.set_cons_succ, List.set_cons_zero]
   refine HeldO.take (.pointer (some ⟨F.b, 0, none⟩)) rfl rfl (fun _ _ => by kernel_rfl) ?_; simp only [List.getElem_toArray, List.getElem_cons_succ, List.getElem_cons_zero, Act.put, List.setIfInBounds_toArray, List.set_cons_succ, List.set_cons_zero]
   refine HeldO.take (.pointer (some ⟨F.b, 1, none⟩)) rfl rfl (fun _ _ => by kernel_rfl) ?_; simp only [List.getElem_toArray, List.getElem_cons_succ, List.getElem_cons_zero, Act.put, List.setIfInBounds_toArray, List.set_cons_succ, List.set_cons_zero]
   refine HeldO.step rfl rfl ?_
   simp only [List.getElem_toArray, List.getElem_cons_succ, List.getElem_cons_zero]
   unfold Oper.wp
   go_simp
   refine ⟨I7.out.s, ?_⟩
   show Exit.then _ _ _ _ _
   go_wp2
   go_meet
   exact ⟨.slice (some ⟨g, 0, none⟩) ((sps [] l).length + 1) cap, by rw [sps_append]; exact I7.out⟩
 case rest =>
  obtain ⟨v', hI⟩ := hcut.out
  have I4 := hide hI
  clear hI hcut I2
  generalize wc = w6 at *
  cases N with
  | none =>
   go_upto_region 5 with (first
    | (refine wpList_load_row rfl 118 _ rfl _ rfl _ _ _ _ I4.out.s Tryz.underlying118 rfl infoSp ?_)
    | (go_at_call 78; refine (HBl.out _ I4.out.g.ths).mono ?_; rintro r w7 ⟨x, rfl, -, k⟩; unfold Th.v; replace I4 := hide (I4.out.step k); clear k))
   have I5 := hide (I4.out.step ((Below.refl _ w7).alloc (Nat.le_refl _) (.cells #[.int .u64 x.id, .int .u64 x.par, .string x.name, .bool x.dir, .string x.dg, .int .i64 x.size] 79)))
   go_wp2_with fail
   refine bodyPost_ret (results_none rfl _ _ _) rfl ?_
   refine ⟨⟨F.b, F.mb, v'⟩, ⟨_, rfl⟩, rfl, TreeG.at ?_ ?_ HO.out, I5.out.too, I5.out.tn⟩
   ·rw [HM.out]; exact I5.out.g
   ·intro z hz
    rcases List.mem_append.1 hz with hz | hz
    ·exact HT.out.fits z hz
    ·rw [List.mem_singleton.1 hz]; exact hE.out
  | some y =>
   obtain ⟨hyf, hyi⟩ := HNf.out y rfl
   have HYF := hide (And.intro hyf hyi)
   clear hyf hyi HNf
   go_upto_region 5 with (first
    | (refine wpList_load_row rfl 118 _ rfl _ rfl _ _ _ _ I4.out.s Tryz.underlying118 rfl infoSp ?_)
    | (go_at_call 78; refine (HBl.out _ I4.out.g.ths).mono ?_; rintro r w7 ⟨x, rfl, hxy, k⟩; rw [hxy y rfl]; unfold Th.v; replace I4 := hide (I4.out.step k); clear k hxy))
   have I5 := hide (And.intro (I4.out.step ((Below.refl _ w7).alloc (Nat.le_refl _) (.cells #[.int .u64 y.id, .int .u64 y.par, .string y.name, .bool y.dir, .string y.dg, .int .i64 y.size] 79))) (heap_alloc_new w7 (.cells #[.int .u64 y.id, .int .u64 y.par, .string y.name, .bool y.dir, .string y.dg, .int .i64 y.size] 79)))
   generalize hg5 : w7.heap.size = g5 at *
   generalize w7.alloc (.cells #[.int .u64 y.id, .int .u64 y.par, .string y.name, .bool y.dir, .string y.dg, .int .i64 y.size] 79) = w8 at I5 ⊢
   clear hg5 I4 HBl
   have I5neb : Hid (g5 ≠ F.b) := fun e => heap_neT I5.out.2 I5.out.1.g.blk (by decide) e
   have c0 := I5.out.1.g.ths.cell
   have f0 := I5.out.1.g.fz 0
   have hmn := mapNil F.mb
   go_upto_if 45 with fail
   go_cut [] (fun wx => Hid (∃ m, Dx base F ⟨F.b, some m, v'⟩ (ths [] l) (sps [] (l ++ [⟨⟨kd, ⟨tc, tk⟩, th, pa, nm, dr, dg, sz⟩, eh⟩])) u w (w.heap.size + 1) #[.int .i64 kd, .int .u64 tc, .int .i64 tk, .int .u64 th, .int .u64 pa, .string nm, .bool dr, .string dg, .int .i64 sz, .string eh, .int .u64 xi, .int .u64 xp, .string xn, .bool xd, .string xg, .int .i64 xz, .bool is] wx ∧ wx.heap[g5]? = some (.cells #[.int .u64 y.id, .int .u64 y.par, .string y.name, .bool y.dir, .string y.dg, .int .i64 y.size] 79 (0, 0))))
   case first =>
    cases hmb : F.mb with
    | some m =>
     rw [hmb] at c0
     go_wp2
     go_meet
     exact ⟨m, hmb ▸ I5.out.1, I5.out.2⟩
    | none =>
     have hmk := @run_makeMap Tryz.prog
     rw [hmb] at c0
     have hblt := I5.out.1.g.lt _ (.inl rfl)
     have c0a : ∀ o, (w8.alloc o).cell? ⟨F.b, 0, none⟩ = some (.map none) := fun o => (((Below.refl _ w8).alloc (Nat.le_refl _) o).cell (p := ⟨F.b, 0, none⟩) hblt).trans c0
     have f0a : ∀ o, (w8.alloc o).frozen? ⟨F.b, 0, none⟩ = false := fun o => frozen_of_row _ _ _ _ _ ((Go.old_alloc_MoveDo _ _ _ hblt).trans I5.out.1.g.blk)
     go_wp2
     go_meet
     have ht : ths [] l = [] := by
      have := I5.out.1.g.map
      dsimp only at this
      rw [hmb] at this
      rcases this with ⟨_, h⟩ | ⟨b, h, _⟩
      ·exact h
      ·cases h
     have I5' := I5.out.1
     have hblt2 := I5'.g.lt _ (.inl rfl)
     have hcomm : (w8.setCell ⟨F.b, 0, none⟩ (.map (some w8.heap.size))).alloc (.map #[] 0) = (w8.alloc (.map #[] 0)).setCell ⟨F.b, 0, none⟩ (.map (some w8.heap.size)) := (World.setCell_alloc_past _ _ _ _ hblt2).symm
     rw [ht] at I5' ⊢
     rw [hcomm]
     exact ⟨_, I5'.newMap hb, (heap_setCell_other _ _ _ _ I5neb.out).trans ((Go.old_alloc_MoveDo _ _ _ (cells_lt I5.out.2)).trans I5.out.2)⟩
   case rest =>
    obtain ⟨m, hI, h5⟩ := hcut.out
    have I6 := hide (And.intro hI h5)
    clear hI h5 hcut I5 c0 f0 hmn
    generalize wc = w9 at *
    go_upto_region 8 with fail
    have ID := hide (And.intro I6.out.1.drew (show w9.drew.heap[g5]? = _ from I6.out.2))
    refine HeldO.region (fun v => ∃ t', Dx base F ⟨F.b, some m, v'⟩ t' (sps [] (l ++ [⟨⟨kd, ⟨tc, tk⟩, th, pa, nm, dr, dg, sz⟩, eh⟩])) u w (w.heap.size + 1) #[.int .i64 kd, .int .u64 tc, .int .i64 tk, .int .u64 th, .int .u64 pa, .string nm, .bool dr, .string dg, .int .i64 sz, .string eh, .int .u64 xi, .int .u64 xp, .string xn, .bool xd, .string xg, .int .i64 xz, .bool is] v ∧ v.heap[g5]? = some (.cells #[.int .u64 y.id, .int .u64 y.par, .string y.name, .bool y.dir, .string y.dg, .int .i64 y.size] 79 (0, 0))) [(true, 0), (true, 1), (true, 2), (true, 3), (true, 4), (true, 5), (true, 6), (true, 7), (true, 8), (false, 9)] (by kernel_rfl) (by kernel_rfl) rfl (fun d _ _ _ _ h => by cases d <;> exact h) ⟨_, ID.out.1, ID.out.2⟩ ?_
    generalize w9.drew = w10 at ID ⊢
    refine HeldO.take (.pointer (some ⟨F.b, 0, none⟩)) rfl rfl (fun _ _ => by kernel_rfl) ?_; simp only [List.getElem_toArray, List.getElem_cons_zero, Act.put, List.setIfInBounds_toArray, List.set_cons_succ, List.set_cons_zero]
    refine HeldO.take (.pointer (some ⟨F.b, 0, none⟩)) rfl rfl (fun _ _ => by kernel_rfl) ?_; simp only [List.getElem_toArray, List.getElem_cons_succ, List.getElem_cons_zero, Act.put, List.setIfInBounds_toArray, List.set_cons_succ, List.set_cons_zero]
    refine HeldO.take (.pointer (some ⟨F.b, 0, none⟩)) rfl rfl (fun _ _ => by kernel_rfl) ?_; simp only [List.getElem_toArray, List.getElem_cons_succ, List.getElem_cons_zero, Act.put, List.setIfInBounds_toArray, List.set_cons_succ, List.set_cons_zero]
    refine HeldO.take (.map (some m)) rfl rfl (fun v hv => by obtain ⟨t1, h, _⟩ := hv; have hc := h.g.ths.cell; dsimp only at hc; go_simp) ?_; simp only [List.getElem_toArray, List.getElem_cons_succ, List.getElem_cons_zero, Act.put, List.setIfInBounds_toArray, List.set_cons_succ, List.set_cons_zero]
    refine HeldO.take (.pointer (some ⟨w.heap.size + 1, 0, none⟩)) rfl rfl (fun _ _ => by kernel_rfl) ?_; simp only [List.getElem_toArray, List.getElem_cons_succ, List.getElem_cons_zero, Act.put, List.setIfInBounds_toArray, List.set_cons_succ, List.set_cons_zero]
    refine HeldO.take (.pointer (some ⟨w.heap.size + 1, 0, none⟩)) rfl rfl (fun _ _ => by kernel_rfl) ?_; simp only [List.getElem_toArray, List.getElem_cons_succ, List.getElem_cons_zero, Act.put, List.setIfInBounds_toArray, List.set_cons_succ, List.set_cons_zero]
    refine HeldO.take (.pointer (some ⟨w.heap.size + 1, 3, none⟩)) rfl rfl (fun _ _ => by kernel_rfl) ?_; simp only [List.getElem_toArray, List.getElem_cons_succ, List.getElem_cons_zero, Act.put, List.setIfInBounds_toArray, List.set_cons_succ, List.set_cons_zero]
    refine HeldO.take (.int .u64 th) rfl rfl (fun v hv => by obtain ⟨t1, h, _⟩ := hv; have hc : v.cell? ⟨w.heap.size + 1, 3, none⟩ = some (.int .u64 th) := h.c rfl; go_simp) ?_; simp only [List.getElem_toArray, List.getElem_cons_succ, List.getElem_cons_zero, Act.put, List.setIfInBounds_toArray, List.set_cons_succ, List.set_cons_zero]
    refine HeldO.load 79 _ rfl rfl rfl g5 rfl 79 _ (0, 0) _ (fun v hv => hv.elim fun t1 h => h.2) Tryz.underlying79 rfl infoTh ?_; simp only [List.getElem_toArray, List.getElem_cons_succ, List.getElem_cons_zero, Act.put, List.setIfInBounds_toArray, List.set_cons_succ, List.set_cons_zero]
    have hfn := HT.out.fine
    obtain ⟨w11, hrun, hM, hgr⟩ := ID.out.1.g.map.put u64Key thMap hfn.rises hfn.fits (by have := ths_length (l := l) Fine.nil HT.out.fits; unfold maxLen; simp at this; omega) y HYF.out.1
    rw [HYF.out.2] at hrun
    unfold Th.v at hrun
    have I7 := hide (ID.out.1.setMap (m := m) rfl hgr hM)
    have h57 : Hid (w11.heap[g5]? = some (.cells #[.int .u64 y.id, .int .u64 y.par, .string y.name, .bool y.dir, .string y.dg, .int .i64 y.size] 79 (0, 0))) := (hgr.block _ (cells_lt ID.out.2) (fun e => ne_of_kind ID.out.2 (ID.out.1.g.map.kind rfl) (by cases e; rfl))).trans ID.out.2
    clear hgr hM hfn
    refine HeldO.step rfl rfl ?_
    simp only [List.getElem_toArray, List.getElem_cons_succ, List.getElem_cons_zero]
    unfold Oper.wp
    go_simp
    refine ⟨⟨⟨_, I7.out⟩, h57.out⟩, ?_⟩
    unfold HeldO.wp
    first | go_end0 | (go_wp2; go_end0)
    refine ⟨⟨F.b, some m, v'⟩, ⟨_, rfl⟩, rfl, TreeG.at ?_ ?_ HO.out, I7.out.too, I7.out.tn⟩
    ·rw [HM.out]; exact I7.out.g
    ·intro z hz
     rcases List.mem_append.1 hz with hz | hz
     ·exact HT.out.fits z hz
     ·rw [List.mem_singleton.1 hz]; exact hE.out
end Go.Proofs.YtnbhchdaobimmaaGreatDoor
