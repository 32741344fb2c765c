/- Several texts in one: MoveTell, MoveAdd, MoveTw. -/
import Derived.Test.YtnbhchdaobimmaaGreatDoorRunAE
import Derived.Test.YtnbhchdaobimmaaGreatDoorMoveBecomes
import Derived.Test.YtnbhchdaobimmaaGreatDoorBackAll
import Derived.Test.YtnbhchdaobimmaaGreatDoorMoveDo
/- Contracts: a new tree; what is told of one; what a nil tree answers. -/
namespace Go.Proofs.YtnbhchdaobimmaaGreatDoor
open Go.RowKit Go.Opn Go.Stamp Go.MapInt Go.Mov
attribute [local go_sem] Oper.semAt_some
set_option maxRecDepth 100000 in
theorem newTree_any (w : World) : Calls Tryz.prog 18 #[] w fun r w' => ∃ F, r = .returned (.pointer (some ⟨F.b, 0, none⟩)) ∧ TreeAt Tryz.prog 49 110 118 w.heap.size F [] 0 w' ∧ Below w.heap.size w w' := by
 go_enter Tryz.func18, Tryz.ntmps18
 go_wp2
 go_ret
 refine ⟨⟨w.heap.size, none, .slice none 0 0⟩, rfl, ⟨heap_alloc_new w _, .inl ⟨rfl, rfl⟩, World.ownsRow_nil _ _ _ _, ?_, (fun e h => by cases h), List.Pairwise.nil⟩, (Below.refl _ w).alloc (Nat.le_refl _) _⟩
 rintro x (rfl | h | h)
 ·exact Nat.le_refl _
 ·cases h
 ·cases h
end Go.Proofs.YtnbhchdaobimmaaGreatDoor
/- Contract: an operation comes: in its place, those behind it taken back and done again. -/
namespace Go.Mov
open Go.RowKit
def addE (l : List En) (e : En) : List En := if known l e then l else ins l e
def backs (l : List En) (e : En) : Nat := if known l e then 0 else l.length - place l e
theorem addE_length (l : List En) (e : En) : (addE l e).length ≤ l.length + 1 := by
 unfold addE
 split
 ·omega
 ·rw [ins_length]; omega
theorem backs_le (l : List En) (e : En) : backs l e ≤ l.length := by unfold backs; split <;> omega
theorem TreeAt.below {P : Program} {kt Tt Ts base : Nat} {F : Ft} {l : List En} {u : Int} {w w' : World} (h : TreeAt P kt Tt Ts base F l u w) (k : Below w.heap.size w w') : TreeAt P kt Tt Ts base F l u w' := TreeG.at (h.g.below k) h.fits h.ord
theorem TreeAt.lt {P : Program} {kt Tt Ts base : Nat} {F : Ft} {l : List En} {u : Int} {w : World} (h : TreeAt P kt Tt Ts base F l u w) : ∀ x, F.has x → x < w.heap.size := h.g.lt
end Go.Mov
namespace Go.Proofs.YtnbhchdaobimmaaGreatDoor
open Go.RowKit Go.Opn Go.Stamp Go.MapInt Go.Mov Go.Shelf
attribute [local go_sem] Oper.semAt_some
/-- A tree, and the row of what was taken back. -/
structure Ad (base : Nat) (F Fj : Ft) (l : List En) (u : Int) (w : World) (bv : Value) (ss : List Sp) (v : World) : Prop where
 t : TreeAt Tryz.prog 49 110 118 base Fj l u v
 b : Fj.b = F.b
 too : F.to Fj w
 tn : Tn F w v
 own : v.ownsRow w.heap.size 118 17 bv ss.length (ss.flatMap Sp.cs)
 ne : ∀ x, bv.ownBlock = some x → ¬ Fj.has x
variable {base : Nat} {F Fj : Ft} {l : List En} {u : Int} {w v v' : World} {bv : Value} {ss : List Sp}
set_option maxRecDepth 100000 in
theorem Ad.step (h : Ad base F Fj l u w bv ss v) (k : Below v.heap.size v v') : Ad base F Fj l u w bv ss v' :=
 ⟨h.t.below k, h.b, h.too, h.tn.trans (Tn.of_below (F := F) k) (F.to_refl _), own_kept h.own fun g e => k.block g (h.own.lt g e).2, h.ne⟩
set_option maxRecDepth 100000 in
theorem Ad.done (h : Ad base F Fj l u w bv ss v) {F' : Ft} {l' : List En} (hb : F'.b = Fj.b) (ht : TreeAt Tryz.prog 49 110 118 base F' l' u v') (hto : Fj.to F' v) (htn : Tn Fj v v') : Ad base F F' l' u w bv ss v' := by
 refine ⟨ht, hb.trans h.b, Ft.to_trans h.too hto h.tn.size, h.tn.trans htn h.too, own_kept h.own fun g e => htn.block g (h.own.lt g e).2 (h.ne g e), fun x hx hf => ?_⟩
 rcases hto x hf with e | e
 ·exact h.ne x hx e
 ·have := (h.own.lt x hx).2; omega
set_option maxRecDepth 100000 in
theorem Ad.undone (h : Ad base F Fj l u w bv ss v) (n : Int) : TreeAt Tryz.prog 49 110 118 base Fj l n (v.setCell ⟨Fj.b, 2, none⟩ (.int .i64 n)) ∧ F.to Fj w ∧ Tn F w (v.setCell ⟨Fj.b, 2, none⟩ (.int .i64 n)) :=
 ⟨TreeG.at (h.t.g.undone (by decide) n) h.t.fits h.t.ord, h.too, h.tn.trans (Tn.of_set (F := Fj) v _ (.inl rfl)) h.too⟩
set_option maxRecDepth 100000 in
theorem ins_take (l : List En) (e : En) : ∀ j, l.take (place l e) ++ e :: (l.drop (place l e)).take j = (ins l e).take (place l e + 1 + j) := by
 intro j
 have hp := place_le l e
 have h1 : (l.take (place l e)).length = place l e := by rw [List.length_take]; omega
 unfold ins
 have e1 : (l.take (place l e)).take (place l e + 1 + j) = l.take (place l e) := List.take_of_length_le (by omega)
 rw [List.take_append (l₁ := l.take (place l e)), e1, h1, show place l e + 1 + j - place l e = j + 1 by omega, List.take_succ_cons]
set_option maxHeartbeats 4000000 in
set_option maxRecDepth 100000 in
theorem add_any (e : En) (w : World) (h : TreeAt Tryz.prog 49 110 118 base F l u w) (he : e.Fits) (hl : l.length ≤ 90000) (hu : 0 ≤ u ∧ u ≤ 1000000000000) (hb : base ≤ w.heap.size) :
  Calls Tryz.prog 21 #[.pointer (some ⟨F.b, 0, none⟩), e.v] w fun r w' =>
   ∃ F' : Ft, r = .returned (.bool (!known l e)) ∧ F'.b = F.b ∧ TreeAt Tryz.prog 49 110 118 base F' (addE l e) (u + backs l e) w' ∧ F.to F' w ∧ Tn F w w' := by
 obtain ⟨p, hp⟩ : ∃ p, p = place l e := ⟨_, rfl⟩
 obtain ⟨kn, hkn⟩ : ∃ kn, kn = known l e := ⟨_, rfl⟩
 obtain ⟨la, lc, hlv⟩ := h.g.steps.form
 rw [sps_length] at hlv
 have HS : Hid (∀ v, StepsAt v F.lv (sps [] l) → Calls Tryz.prog 49 #[.slice la l.length lc, e.v, .func (.func 50) #[] #[]] v fun r w' => r = .returned (.tuple #[.int .i64 p, .bool kn]) ∧ Below v.heap.size v w') := fun v hv => by
  have := search_any F.lv (sps [] l) e v hv (by rw [sps_length]; omega) (by rw [sps_en]; exact h.ord)
  rw [sps_en, ← hp, ← hkn, hlv] at this
  exact this
 have HT := hide h
 have HE := hide he
 have hpl : p ≤ l.length := hp ▸ place_le l e
 have HP := hide (And.intro hp (And.intro hkn hlv))
 have HD := hide (fun (l' : List En) (F' : Ft) (u' : Int) (e' : En) (v : World) (h : TreeAt Tryz.prog 49 110 118 base F' l' u' v) he hl ho hb => do_any (base := base) (F := F') (u := u') (l := l') e' v h he hl ho hb)
 rw [← hkn]
 obtain ⟨⟨kd, ⟨tc, tk⟩, th, pa, nm, dr, dg, sz⟩, eh⟩ := e
 obtain ⟨C, hC⟩ : ∃ C, C = (Obj.cells #[.int .i64 kd, .int .u64 tc, .int .i64 tk, .int .u64 th, .int .u64 pa, .string nm, .bool dr, .string dg, .int .i64 sz, .string eh] 68 (0, 0)) := ⟨_, rfl⟩
 have k0 := (Below.refl _ w).alloc (Nat.le_refl _) C
 have I0 : Hid (TreeAt Tryz.prog 49 110 118 base F l u (w.alloc C) ∧ Tn F w (w.alloc C) ∧ (w.alloc C).heap[w.heap.size]? = some C) := ⟨h.below k0, Tn.of_below k0, heap_alloc_new w _⟩
 have c1 := I0.out.1.g.c1
 rw [hlv] at c1
 subst hC
 clear h he hp hkn hlv k0
 unfold En.v at HS ⊢
 dsimp only at HS ⊢
 go_enter Tryz.func21, Tryz.ntmps21
 go_upto_region 3 with fail
 have r1 := cell_regrown c1
 refine QuietCalls.region (by kernel_rfl) (by kernel_rfl) ?_
 iterate 4 (first | go_big_quiet_step (fail) | quiet_step (fail))
 refine QuietCalls.load rfl 68 _ rfl _ rfl _ _ _ _ I0.out.2.2 Tryz.underlying68 rfl infoEn ?_; simp only [Act.put, List.setIfInBounds_toArray, List.set_cons_succ, List.set_cons_zero]
 refine QuietCalls.call rfl 49 _ (.tuple #[.int .i64 p, .bool kn]) (fun v k => HS.out v (I0.out.1.below k).g.steps) (fun v => by go_simp) ?_; simp only [Act.put, List.setIfInBounds_toArray, List.set_cons_succ, List.set_cons_zero]
 iterate 5 (first | go_big_quiet_step (fail) | quiet_step (fail))
 refine wpQuiet_nil ?_
 intro w2 k2
 have I2 : Hid (TreeAt Tryz.prog 49 110 118 base F l u w2 ∧ Tn F w w2 ∧ w2.heap[w.heap.size]? = some (.cells #[.int .i64 kd, .int .u64 tc, .int .i64 tk, .int .u64 th, .int .u64 pa, .string nm, .bool dr, .string dg, .int .i64 sz, .string eh] 68 (0, 0))) := ⟨I0.out.1.below k2, I0.out.2.1.trans (Tn.of_below (F := F) k2) (F.to_refl _), (k2.block _ (by simp)).trans I0.out.2.2⟩
 clear k2 I0 c1 r1 HS
 cases kn with
 | true =>
  go_wp2_with fail
  go_ret
  refine ⟨F, rfl, rfl, ?_, F.to_refl _, I2.out.2.1⟩
  have e1 : addE l ⟨⟨kd, ⟨tc, tk⟩, th, pa, nm, dr, dg, sz⟩, eh⟩ = l := by unfold addE; rw [← HP.out.2.1]; rfl
  have e2 : backs l ⟨⟨kd, ⟨tc, tk⟩, th, pa, nm, dr, dg, sz⟩, eh⟩ = 0 := by unfold backs; rw [← HP.out.2.1]; rfl
  rw [e1, e2]
  simpa using I2.out.1
 | false =>
  have hkn0 := HP.out.2.1
  have HI := hide (ord_ins HT.out.ord hkn0.symm)
  have hsz2 : w.heap.size ≤ w2.heap.size := I2.out.2.1.size
  have HLS : Hid ((sps (ths [] (l.take p)) (l.drop p)).length = l.length - p) := by show _ = _; rw [sps_length, List.length_drop]
  obtain ⟨ss, hss⟩ : ∃ ss, ss = sps (ths [] (l.take p)) (l.drop p) := ⟨_, rfl⟩
  have hsl : ss.length = l.length - p := by rw [hss]; exact HLS.out
  have HB : Hid (Calls Tryz.prog 52 #[.pointer (some ⟨F.b, 0, none⟩), .int .i64 p] w2 fun r w3 => ∃ ba bc, r = .returned (.slice ba ss.length bc) ∧ Hid (∃ F3, Ad base F F3 (l.take p) u w (.slice ba ss.length bc) ss w3 ∧ w3.heap[w.heap.size]? = some (.cells #[.int .i64 kd, .int .u64 tc, .int .i64 tk, .int .u64 th, .int .u64 pa, .string nm, .bool dr, .string dg, .int .i64 sz, .string eh] 68 (0, 0)))) := by
   refine (takeBack_any p w2 I2.out.1 hpl (by omega) (by omega)).mono ?_
   rintro r w3 ⟨F3, bv, rfl, hb3, ht3, hown3, hsub3, htn3⟩
   rw [← hss, ← hsl] at hown3
   obtain ⟨ba, bc, rfl⟩ := own_form hown3
   refine ⟨ba, bc, rfl, F3, ⟨ht3, hb3, fun x hx => .inl (hsub3 x hx), I2.out.2.1.trans htn3 (F.to_refl _), own_low hown3 hsz2, fun x hx hf => ?_⟩, (htn3.block _ (Array.getElem?_eq_some_iff.1 I2.out.2.2).1 (fun hf => by have := HT.out.lt _ hf; omega)).trans I2.out.2.2⟩
   have h1 := (hown3.lt x hx).1
   have h2 := HT.out.lt x (hsub3 x hf)
   omega
  have HSS := hide (And.intro hss hsl)
  have hsll : ss.length ≤ 90000 := by omega
  clear hkn0 hss hsl
  go_upto_region 7 with (go_at_call 52; refine HB.out.mono ?_; rintro r w3 ⟨ba, bc, rfl, A3⟩; clear HB)
  obtain ⟨F3, hA3, hE3⟩ := A3.out
  have HD1 : Hid (Calls Tryz.prog 53 #[.pointer (some ⟨F.b, 0, none⟩), .agg #[.int .i64 kd, .int .u64 tc, .int .i64 tk, .int .u64 th, .int .u64 pa, .string nm, .bool dr, .string dg, .int .i64 sz, .string eh]] w3 fun r w4 => (∃ v, r = .returned v) ∧ Hid (∃ F4, Ad base F F4 (l.take p ++ ⟨⟨kd, ⟨tc, tk⟩, th, pa, nm, dr, dg, sz⟩, eh⟩ :: (l.drop p).take 0) u w (.slice ba ss.length bc) ss w4)) := by
   have hpq := HP.out.1
   have h1 := HD.out (l.take p) F3 u ⟨⟨kd, ⟨tc, tk⟩, th, pa, nm, dr, dg, sz⟩, eh⟩ w3 hA3.t HE.out (by rw [List.length_take]; omega) (by
    have := ins_take l ⟨⟨kd, ⟨tc, tk⟩, th, pa, nm, dr, dg, sz⟩, eh⟩ 0
    rw [← hpq, List.take_zero] at this
    rw [this]
    exact HI.out.sublist (List.take_sublist _ _)) (by have := hA3.tn.size; omega)
   rw [hA3.b] at h1
   refine h1.mono ?_
   rintro r w4 ⟨F4, hr, hb4, ht4, hto4, htn4⟩
   exact ⟨hr, F4, hA3.done (hb4.trans hA3.b.symm) ht4 hto4 htn4⟩
  have e0 : w3.cell? ⟨w.heap.size, 0, none⟩ = some (.int .i64 kd) := (cell_of_row _ _ _ _ _ _ hE3).trans rfl
  have e1 : w3.cell? ⟨w.heap.size, 1, none⟩ = some (.int .u64 tc) := (cell_of_row _ _ _ _ _ _ hE3).trans rfl
  have e2 : w3.cell? ⟨w.heap.size, 2, none⟩ = some (.int .i64 tk) := (cell_of_row _ _ _ _ _ _ hE3).trans rfl
  have e3 : w3.cell? ⟨w.heap.size, 3, none⟩ = some (.int .u64 th) := (cell_of_row _ _ _ _ _ _ hE3).trans rfl
  have e4 : w3.cell? ⟨w.heap.size, 4, none⟩ = some (.int .u64 pa) := (cell_of_row _ _ _ _ _ _ hE3).trans rfl
  have e5 : w3.cell? ⟨w.heap.size, 5, none⟩ = some (.string nm) := (cell_of_row _ _ _ _ _ _ hE3).trans rfl
  have e6 : w3.cell? ⟨w.heap.size, 6, none⟩ = some (.bool dr) := (cell_of_row _ _ _ _ _ _ hE3).trans rfl
  have e7 : w3.cell? ⟨w.heap.size, 7, none⟩ = some (.string dg) := (cell_of_row _ _ _ _ _ _ hE3).trans rfl
  have e8 : w3.cell? ⟨w.heap.size, 8, none⟩ = some (.int .i64 sz) := (cell_of_row _ _ _ _ _ _ hE3).trans rfl
  have e9 : w3.cell? ⟨w.heap.size, 9, none⟩ = some (.string eh) := (cell_of_row _ _ _ _ _ _ hE3).trans rfl
  clear hA3 hE3
  go_upto_region 8 with (go_at_call 53; refine HD1.out.mono ?_; rintro r w4 ⟨⟨vr, rfl⟩, A4⟩; clear HD1)
  clear e0 e1 e2 e3 e4 e5 e6 e7 e8 e9 A3 I2
  go_wp2_with fail
  go_loopw [30] (fun v30 wr => ∃ j : Nat, v30 = .int .i64 j ∧ j ≤ ss.length ∧ Hid (∃ Fj, Ad base F Fj (l.take p ++ ⟨⟨kd, ⟨tc, tk⟩, th, pa, nm, dr, dg, sz⟩, eh⟩ :: (l.drop p).take j) u w (.slice ba ss.length bc) ss wr)) (fun v30 _ => ss.length - (intOf v30).toNat)
  case atStart => exact ⟨0, rfl, Nat.zero_le _, A4.out⟩
  case round =>
   obtain ⟨j, rfl, hj, HA⟩ := hrel
   clear A4
   by_cases hlt : j < ss.length
   ·have hltI : (j : Int) < ss.length := by omega
    obtain ⟨Fj, hA⟩ := HA.out
    obtain ⟨s, hs⟩ : ∃ s, ss[j]? = some s := ⟨_, List.getElem?_eq_getElem hlt⟩
    obtain ⟨g, off, hba, _, hbc, hgl, hrg⟩ := (StepsAt.of_own hA.own).at (fun e => by rw [e] at hlt; cases hlt)
    subst hba
    obtain ⟨d0, d1, d2, d3, d4, d5, d6, d7, d8, d9, d10, d11, d12, d13, d14, d15, d16⟩ := cells17 (hrg j s hs)
    have hbcI : (ss.length : Int) ≤ bc := by omega
    have HDj : Hid (∀ v, Below wr.heap.size wr v → Calls Tryz.prog 53 #[.pointer (some ⟨F.b, 0, none⟩), s.en.v] v fun r w4 => (∃ v, r = .returned v) ∧ Hid (∃ F4, Ad base F F4 (l.take p ++ ⟨⟨kd, ⟨tc, tk⟩, th, pa, nm, dr, dg, sz⟩, eh⟩ :: (l.drop p).take (j + 1)) u w (.slice (some ⟨g, off, none⟩) ss.length bc) ss w4)) := by
     intro v k
     have hAv := hA.step k
     have hpq := HP.out.1
     have hen : (l.drop p)[j]? = some s.en := by
      have h2 := sps_en (ths [] (l.take p)) (l.drop p)
      rw [← h2, ← HSS.out.1, List.getElem?_map, hs]; rfl
     have hq : l.take p ++ ⟨⟨kd, ⟨tc, tk⟩, th, pa, nm, dr, dg, sz⟩, eh⟩ :: (l.drop p).take j ++ [s.en] = l.take p ++ ⟨⟨kd, ⟨tc, tk⟩, th, pa, nm, dr, dg, sz⟩, eh⟩ :: (l.drop p).take (j + 1) := by
      rw [List.append_assoc, List.cons_append, List.take_add_one, hen]; rfl
     have h1 := HD.out _ Fj u s.en v hAv.t (HT.out.fits s.en (List.mem_of_mem_drop (List.mem_of_getElem? hen))) (by rw [List.length_append, List.length_cons, List.length_take, List.length_take, List.length_drop]; omega) (by
      have := ins_take l ⟨⟨kd, ⟨tc, tk⟩, th, pa, nm, dr, dg, sz⟩, eh⟩ (j + 1)
      rw [← hpq] at this
      rw [hq, this]
      exact HI.out.sublist (List.take_sublist _ _)) (by have := hAv.tn.size; omega)
     rw [hAv.b] at h1
     refine h1.mono ?_
     rintro r w4 ⟨F4, hr, hb4, ht4, hto4, htn4⟩
     rw [hq] at ht4
     exact ⟨hr, F4, hAv.done (hb4.trans hAv.b.symm) ht4 hto4 htn4⟩
    unfold En.v at HDj
    clear hA HA hs hgl hrg
    go_wp2_with (go_at_call 53; refine (HDj.out _ ((Below.refl _ wr).alloc (Nat.le_refl _) _)).mono ?_; rintro r w5 ⟨⟨vr, rfl⟩, A5⟩; clear HDj)
    go_roundw
    case rel => exact ⟨j + 1, by simp, by omega, A5.out⟩
    case measure => simp [intOf]; omega
   ·obtain rfl : j = ss.length := by omega
    obtain ⟨Fj, hA⟩ := HA.out
    have c2 := hA.t.g.c2
    have f2 := hA.t.g.fz 2
    rw [hA.b] at c2 f2
    have hw : IntKind.i64.wrap (u + ss.length) = u + ss.length := Sha.wrap_i64 _ (by omega) (by omega)
    clear HA
    have HAd := hide hA
    clear hA
    go_wp2_with fail
    go_ret
    obtain ⟨h1, h2, h3⟩ := HAd.out.undone (u + ss.length)
    have hq : l.take p ++ ⟨⟨kd, ⟨tc, tk⟩, th, pa, nm, dr, dg, sz⟩, eh⟩ :: (l.drop p).take ss.length = addE l ⟨⟨kd, ⟨tc, tk⟩, th, pa, nm, dr, dg, sz⟩, eh⟩ := by
     unfold addE
     rw [← HP.out.2.1, List.take_of_length_le (l := l.drop p) (by rw [List.length_drop, HSS.out.2]; exact Nat.le_refl _), HP.out.1]
     rfl
    have hq2 : (ss.length : Int) = backs l ⟨⟨kd, ⟨tc, tk⟩, th, pa, nm, dr, dg, sz⟩, eh⟩ := by
     unfold backs
     rw [← HP.out.2.1, HSS.out.2, HP.out.1]; rfl
    rw [hq, HAd.out.b] at h1
    rw [HAd.out.b] at h3
    rw [← hq2]
    exact ⟨Fj, rfl, HAd.out.b, h1, h2, h3⟩
end Go.Proofs.YtnbhchdaobimmaaGreatDoor
/- A tree beside other memory, call by call; rows of operations. -/
namespace Go.Mov
open Go.RowKit
/-- What comes of operations that come one behind the other: the list, and how many were taken back. -/
def addU (p : List En × Int) (e : En) : List En × Int := (addE p.1 e, p.2 + backs p.1 e)
def addsU (l : List En) : List En × Int := l.foldl addU ([], 0)
theorem addsU_snoc (l : List En) (e : En) : addsU (l ++ [e]) = addU (addsU l) e := by unfold addsU; rw [List.foldl_append]; rfl
theorem addsU_bound : ∀ (l : List En), (addsU l).1.length ≤ l.length ∧ 0 ≤ (addsU l).2 ∧ (addsU l).2 ≤ l.length * l.length := by
 intro l
 suffices h : ∀ (r : List En) (p : List En × Int) (n : Nat), p.1.length ≤ n → 0 ≤ p.2 → p.2 ≤ n * n → (r.foldl addU p).1.length ≤ n + r.length ∧ 0 ≤ (r.foldl addU p).2 ∧ (r.foldl addU p).2 ≤ ((n + r.length : Nat) : Int) * ((n + r.length : Nat) : Int) by
  have := h l ([], 0) 0 (Nat.le_refl _) (Int.le_refl _) (by simp)
  simpa [addsU] using this
 intro r
 induction r with
 | nil => intro p n h1 h2 h3; exact ⟨h1, h2, h3⟩
 | cons e r ih =>
  intro p n h1 h2 h3
  have hb := backs_le p.1 e
  have hl := addE_length p.1 e
  have := ih (addU p e) (n + 1) (by show (addE p.1 e).length ≤ _; omega) (by show 0 ≤ p.2 + _; omega) (by
   show p.2 + (backs p.1 e : Int) ≤ _
   have e1 : ((n + 1 : Nat) : Int) * ((n + 1 : Nat) : Int) = n * n + 2 * n + 1 := by
    rw [Int.natCast_add, Int.mul_add, Int.add_mul]; simp; omega
   rw [e1]; omega)
  rw [List.foldl_cons, List.length_cons, show n + (r.length + 1) = n + 1 + r.length by omega]
  exact this
end Go.Mov
namespace Go.Proofs.YtnbhchdaobimmaaGreatDoor
open Go.RowKit Go.Opn Go.Stamp Go.MapInt Go.Mov Go.Shelf
/-- The tree in block b, all from W on; blocks S are not its own. -/
structure Tw (W : World) (b : Nat) (S : Nat → Prop) (l : List En) (u : Int) (v : World) : Prop where
 t : ∃ F : Ft, F.b = b ∧ TreeAt Tryz.prog 49 110 118 W.heap.size F l u v ∧ ∀ x, S x → ¬ F.has x
 lt : ∀ x, S x → x < v.heap.size
 k : Below W.heap.size W v
variable {W v v' : World} {b : Nat} {S : Nat → Prop} {l : List En} {u : Int}
set_option maxRecDepth 100000 in
theorem Tw.below (h : Tw W b S l u v) (k : Below v.heap.size v v') : Tw W b S l u v' := by
 obtain ⟨F, h1, h2, h3⟩ := h.t
 exact ⟨⟨F, h1, h2.below k, h3⟩, fun x hx => Nat.lt_of_lt_of_le (h.lt x hx) k.size, h.k.trans (k.mono h.k.size)⟩
set_option maxRecDepth 100000 in
/-- Blocks that came behind are not its own. -/
theorem Tw.more (h : Tw W b S l u v) (k : Below v.heap.size v v') (g : Nat) (h1 : v.heap.size ≤ g) (h2 : g < v'.heap.size) : Tw W b (fun x => S x ∨ x = g) l u v' := by
 obtain ⟨F, e1, e2, e3⟩ := h.t
 refine ⟨⟨F, e1, e2.below k, ?_⟩, ?_, h.k.trans (k.mono h.k.size)⟩
 ·rintro x (hx | rfl) hf
  ·exact e3 x hx hf
  ·have := e2.lt x hf; omega
 ·rintro x (hx | rfl)
  ·exact Nat.lt_of_lt_of_le (h.lt x hx) k.size
  ·exact h2
set_option maxRecDepth 100000 in
theorem Tw.turn (h : Tw W b S l u v) (k : Below v.heap.size v v') {S' : Nat → Prop} (hs : ∀ x, S' x → S x ∨ (v.heap.size ≤ x ∧ x < v'.heap.size)) : Tw W b S' l u v' := by
 obtain ⟨F, e1, e2, e3⟩ := h.t
 refine ⟨⟨F, e1, e2.below k, fun x hx hf => ?_⟩, fun x hx => ?_, h.k.trans (k.mono h.k.size)⟩
 ·rcases hs x hx with h' | h'
  ·exact e3 x h' hf
  ·have := e2.lt x hf; omega
 ·rcases hs x hx with h' | h'
  ·exact Nat.lt_of_lt_of_le (h.lt x h') k.size
  ·exact h'.2
set_option maxRecDepth 100000 in
theorem Tw.less (h : Tw W b S l u v) {S' : Nat → Prop} (hs : ∀ x, S' x → S x) : Tw W b S' l u v := by
 obtain ⟨F, e1, e2, e3⟩ := h.t
 exact ⟨⟨F, e1, e2, fun x hx => e3 x (hs x hx)⟩, fun x hx => h.lt x (hs x hx), h.k⟩
set_option maxRecDepth 100000 in
theorem newTw_any (w : World) : Calls Tryz.prog 18 #[] w fun r w' => ∃ b, r = .returned (.pointer (some ⟨b, 0, none⟩)) ∧ Tw w b (fun _ => False) [] 0 w' := by
 refine (newTree_any w).mono ?_
 rintro r w' ⟨F, rfl, h1, h2⟩
 exact ⟨F.b, rfl, ⟨F, rfl, h1, fun x hx => hx.elim⟩, fun x hx => hx.elim, h2⟩
set_option maxRecDepth 100000 in
theorem addTw_any (e : En) (h : Tw W b S l u v) (he : e.Fits) (hl : l.length ≤ 90000) (hu : 0 ≤ u ∧ u ≤ 1000000000000) :
  Calls Tryz.prog 21 #[.pointer (some ⟨b, 0, none⟩), e.v] v fun r w' => r = .returned (.bool (!known l e)) ∧ Tw W b S (addE l e) (u + backs l e) w' ∧ (∀ x, S x → w'.heap[x]? = v.heap[x]?) ∧ v.heap.size ≤ w'.heap.size := by
 obtain ⟨F, rfl, h2, h3⟩ := h.t
 refine (add_any e v h2 he hl hu h.k.size).mono ?_
 rintro r w' ⟨F', rfl, hb, ht, hto, htn⟩
 have hk : Below W.heap.size v w' := htn.below h2.low h.k.size
 refine ⟨rfl, ⟨⟨F', hb, ht, fun x hx hf => ?_⟩, fun x hx => Nat.lt_of_lt_of_le (h.lt x hx) htn.size, h.k.trans hk⟩, fun x hx => htn.block x (h.lt x hx) (h3 x hx), htn.size⟩
 rcases hto x hf with e | e
 ·exact h3 x hx e
 ·have := h.lt x hx; omega
set_option maxRecDepth 100000 in
theorem Tw.ths (h : Tw W b S l u v) : ∃ mb, ThsAt Tryz.prog 49 b mb (ths [] l) v := by
 obtain ⟨F, rfl, h2, _⟩ := h.t
 exact ⟨F.mb, h2.g.ths⟩
set_option maxRecDepth 100000 in
theorem Tw.fits (h : Tw W b S l u v) : ∀ e ∈ l, e.Fits := by obtain ⟨F, _, h2, _⟩ := h.t; exact h2.fits
set_option maxRecDepth 100000 in
theorem Tw.ord (h : Tw W b S l u v) : Ord l := by obtain ⟨F, _, h2, _⟩ := h.t; exact h2.ord
end Go.Proofs.YtnbhchdaobimmaaGreatDoor
