/- Contract: an operation comes: in its place, those behind it taken back and done again. -/
import Derived.Test.YtknnamanbeckeaaBackAll
import Derived.Test.YtknnamanbeckeaaMoveDo
import Derived.Test.YtknnamanbeckeaaMoveTell
namespace Go.Mov
open Go.RowKit
def addE (l : List En) (e : En) : List En := if known l e then l else ins l e
def backs (l : List En) (e : En) : Nat := if known l e then 0 else l.length - place l e
theorem addE_length (l : List En) (e : En) : (addE l e).length ≤ l.length + 1 := by
  unfold addE
  split
  · omega
  · rw [ins_length]; omega
theorem backs_le (l : List En) (e : En) : backs l e ≤ l.length := by unfold backs; split <;> omega
theorem Tn.ofb {F F' : Ft} {w w' : World} (h : Tn F w w') (hx : ∀ x, F.has x → F'.has x) : Tn F' w w' := ⟨h.os, h.tape, h.output, h.size, fun k hk hn => h.block k hk fun e => hn (hx k e)⟩
theorem TreeAt.below {P : Program} {kt Tt Ts base : Nat} {F : Ft} {l : List En} {u : Int} {w w' : World} (h : TreeAt P kt Tt Ts base F l u w) (k : Below w.heap.size w w') : TreeAt P kt Tt Ts base F l u w' := TreeG.at (h.g.below k) h.fits h.ord
theorem TreeAt.lt {P : Program} {kt Tt Ts base : Nat} {F : Ft} {l : List En} {u : Int} {w : World} (h : TreeAt P kt Tt Ts base F l u w) : ∀ x, F.has x → x < w.heap.size := h.g.lt
end Go.Mov
namespace Go.Proofs.Ytknnamanbeckeaa
open Go.RowKit Go.Opn Go.Stamp Go.MapInt Go.Mov Go.Shelf
attribute [local go_sem] Oper.semAt_some
/-- A tree, and the row of what was taken back. -/
structure Ad (base : Nat) (F Fj : Ft) (l : List En) (u : Int) (w : World) (bv : Value) (ss : List Sp) (v : World) : Prop where
  t : TreeAt Try.prog 30 66 75 base Fj l u v
  b : Fj.b = F.b
  too : F.to Fj w
  tn : Tn F w v
  own : v.ownsRow w.heap.size 75 17 bv ss.length (ss.flatMap Sp.cs)
  ne : ∀ x, bv.ownBlock = some x → ¬ Fj.has x
variable {base : Nat} {F Fj : Ft} {l : List En} {u : Int} {w v v' : World} {bv : Value} {ss : List Sp}
theorem Ad.step (h : Ad base F Fj l u w bv ss v) (k : Below v.heap.size v v') : Ad base F Fj l u w bv ss v' :=
  ⟨h.t.below k, h.b, h.too, h.tn.trans (Tn.of_below (F := F) k) (F.to_refl _), own_kept h.own fun g e => k.block g (h.own.lt g e).2, h.ne⟩
theorem Ad.done (h : Ad base F Fj l u w bv ss v) {F' : Ft} {l' : List En} (hb : F'.b = Fj.b) (ht : TreeAt Try.prog 30 66 75 base F' l' u v') (hto : Fj.to F' v) (htn : Tn Fj v v') : Ad base F F' l' u w bv ss v' := by
  refine ⟨ht, hb.trans h.b, Ft.to_trans h.too hto h.tn.size, h.tn.trans htn h.too, own_kept h.own fun g e => htn.block g (h.own.lt g e).2 (h.ne g e), fun x hx hf => ?_⟩
  rcases hto x hf with e | e
  · exact h.ne x hx e
  · have := (h.own.lt x hx).2; omega
theorem Ad.undone (h : Ad base F Fj l u w bv ss v) (n : Int) : TreeAt Try.prog 30 66 75 base Fj l n (v.setCell ⟨Fj.b, 2, none⟩ (.int .i64 n)) ∧ F.to Fj w ∧ Tn F w (v.setCell ⟨Fj.b, 2, none⟩ (.int .i64 n)) :=
  ⟨TreeG.at (h.t.g.undone (by decide) n) h.t.fits h.t.ord, h.too, h.tn.trans (Tn.of_set (F := Fj) v _ (.inl rfl)) h.too⟩
theorem ins_take (l : List En) (e : En) : ∀ j, l.take (place l e) ++ e :: (l.drop (place l e)).take j = (ins l e).take (place l e + 1 + j) := by
  intro j
  have hp := place_le l e
  have h1 : (l.take (place l e)).length = place l e := by rw [List.length_take]; omega
  unfold ins
  have e1 : (l.take (place l e)).take (place l e + 1 + j) = l.take (place l e) := List.take_of_length_le (by omega)
  rw [List.take_append (l₁ := l.take (place l e)), e1, h1, show place l e + 1 + j - place l e = j + 1 by omega, List.take_succ_cons]
set_option maxHeartbeats 4000000 in
set_option maxRecDepth 100000 in
theorem add_any (e : En) (w : World) (h : TreeAt Try.prog 30 66 75 base F l u w) (he : e.Fits) (hl : l.length ≤ 90000) (hu : 0 ≤ u ∧ u ≤ 1000000000000) (hb : base ≤ w.heap.size) :
    Calls Try.prog 10 #[.pointer (some ⟨F.b, 0, none⟩), e.v] w fun r w' =>
      ∃ F' : Ft, r = .returned (.bool (!known l e)) ∧ F'.b = F.b ∧ TreeAt Try.prog 30 66 75 base F' (addE l e) (u + backs l e) w' ∧ F.to F' w ∧ Tn F w w' := by
  obtain ⟨p, hp⟩ : ∃ p, p = place l e := ⟨_, rfl⟩
  obtain ⟨kn, hkn⟩ : ∃ kn, kn = known l e := ⟨_, rfl⟩
  obtain ⟨la, lc, hlv⟩ := h.g.steps.form
  rw [sps_length] at hlv
  have HS : Hid (∀ v, StepsAt v F.lv (sps [] l) → Calls Try.prog 23 #[.slice la l.length lc, e.v, .func (.func 24) #[] #[]] v fun r w' => r = .returned (.tuple #[.int .i64 p, .bool kn]) ∧ Below v.heap.size v w') := fun v hv => by
    have := search_any F.lv (sps [] l) e v hv (by rw [sps_length]; omega) (by rw [sps_en]; exact h.ord)
    rw [sps_en, ← hp, ← hkn, hlv] at this
    exact this
  have HT := hide h
  have HE := hide he
  have hpl : p ≤ l.length := hp ▸ place_le l e
  have HP := hide (And.intro hp (And.intro hkn hlv))
  have HD := hide (fun (l' : List En) (F' : Ft) (u' : Int) (e' : En) (v : World) (h : TreeAt Try.prog 30 66 75 base F' l' u' v) he hl ho hb => do_any (base := base) (F := F') (u := u') (l := l') e' v h he hl ho hb)
  rw [← hkn]
  obtain ⟨⟨kd, ⟨tc, tk⟩, th, pa, nm, dr, dg, sz⟩, eh⟩ := e
  obtain ⟨C, hC⟩ : ∃ C, C = (Obj.cells #[.int .i64 kd, .int .u64 tc, .int .i64 tk, .int .u64 th, .int .u64 pa, .string nm, .bool dr, .string dg, .int .i64 sz, .string eh] 45 (0, 0)) := ⟨_, rfl⟩
  have k0 := (Below.refl _ w).alloc (Nat.le_refl _) C
  have I0 : Hid (TreeAt Try.prog 30 66 75 base F l u (w.alloc C) ∧ Tn F w (w.alloc C) ∧ (w.alloc C).heap[w.heap.size]? = some C) := ⟨h.below k0, Tn.of_below k0, heap_alloc_new w _⟩
  have c1 := I0.out.1.g.c1
  rw [hlv] at c1
  subst hC
  clear h he hp hkn hlv k0
  unfold En.v at HS ⊢
  dsimp only at HS ⊢
  go_enter Try.func10, Try.ntmps10
  go_upto_region 3 with fail
  have r1 := cell_regrown c1
  refine QuietCalls.region (by kernel_rfl) (by kernel_rfl) ?_
  iterate 4 (first | go_big_quiet_step (fail) | quiet_step (fail))
  refine QuietCalls.load rfl 45 _ rfl _ rfl _ _ _ _ I0.out.2.2 Try.underlying45 rfl infoEn ?_; simp only [Act.put, List.setIfInBounds_toArray, List.set_cons_succ, List.set_cons_zero]
  refine QuietCalls.call rfl 23 _ (.tuple #[.int .i64 p, .bool kn]) (fun v k => HS.out v (I0.out.1.below k).g.steps) (fun v => by go_simp) ?_; simp only [Act.put, List.setIfInBounds_toArray, List.set_cons_succ, List.set_cons_zero]
  iterate 5 (first | go_big_quiet_step (fail) | quiet_step (fail))
  refine wpQuiet_nil ?_
  intro w2 k2
  have I2 : Hid (TreeAt Try.prog 30 66 75 base F l u w2 ∧ Tn F w w2 ∧ w2.heap[w.heap.size]? = some (.cells #[.int .i64 kd, .int .u64 tc, .int .i64 tk, .int .u64 th, .int .u64 pa, .string nm, .bool dr, .string dg, .int .i64 sz, .string eh] 45 (0, 0))) := ⟨I0.out.1.below k2, I0.out.2.1.trans (Tn.of_below (F := F) k2) (F.to_refl _), (k2.block _ (by simp)).trans I0.out.2.2⟩
  clear k2 I0 c1 r1 HS
  cases kn with
  | true =>
    go_wp2_with fail
    go_ret
    refine ⟨F, rfl, rfl, ?_, F.to_refl _, I2.out.2.1⟩
    have e1 : addE l ⟨⟨kd, ⟨tc, tk⟩, th, pa, nm, dr, dg, sz⟩, eh⟩ = l := by unfold addE; rw [← HP.out.2.1]; rfl
    have e2 : backs l ⟨⟨kd, ⟨tc, tk⟩, th, pa, nm, dr, dg, sz⟩, eh⟩ = 0 := by unfold backs; rw [← HP.out.2.1]; rfl
    rw [e1, e2]
    simpa using I2.out.1
  | false =>
    have hkn0 := HP.out.2.1
    have HI := hide (ord_ins HT.out.ord hkn0.symm)
    have hsz2 : w.heap.size ≤ w2.heap.size := I2.out.2.1.size
    have HLS : Hid ((sps (ths [] (l.take p)) (l.drop p)).length = l.length - p) := by show _ = _; rw [sps_length, List.length_drop]
    obtain ⟨ss, hss⟩ : ∃ ss, ss = sps (ths [] (l.take p)) (l.drop p) := ⟨_, rfl⟩
    have hsl : ss.length = l.length - p := by rw [hss]; exact HLS.out
    have HB : Hid (Calls Try.prog 26 #[.pointer (some ⟨F.b, 0, none⟩), .int .i64 p] w2 fun r w3 => ∃ ba bc, r = .returned (.slice ba ss.length bc) ∧ Hid (∃ F3, Ad base F F3 (l.take p) u w (.slice ba ss.length bc) ss w3 ∧ w3.heap[w.heap.size]? = some (.cells #[.int .i64 kd, .int .u64 tc, .int .i64 tk, .int .u64 th, .int .u64 pa, .string nm, .bool dr, .string dg, .int .i64 sz, .string eh] 45 (0, 0)))) := by
      refine (takeBack_any p w2 I2.out.1 hpl (by omega) (by omega)).mono ?_
      rintro r w3 ⟨F3, bv, rfl, hb3, ht3, hown3, hsub3, htn3⟩
      rw [← hss, ← hsl] at hown3
      obtain ⟨ba, bc, rfl⟩ := own_form hown3
      refine ⟨ba, bc, rfl, F3, ⟨ht3, hb3, fun x hx => .inl (hsub3 x hx), I2.out.2.1.trans htn3 (F.to_refl _), own_low hown3 hsz2, fun x hx hf => ?_⟩, (htn3.block _ (Array.getElem?_eq_some_iff.1 I2.out.2.2).1 (fun hf => by have := HT.out.lt _ hf; omega)).trans I2.out.2.2⟩
      have h1 := (hown3.lt x hx).1
      have h2 := HT.out.lt x (hsub3 x hf)
      omega
    have HSS := hide (And.intro hss hsl)
    have hsll : ss.length ≤ 90000 := by omega
    clear hkn0 hss hsl
    go_upto_region 7 with (go_at_call 26; refine HB.out.mono ?_; rintro r w3 ⟨ba, bc, rfl, A3⟩; clear HB)
    obtain ⟨F3, hA3, hE3⟩ := A3.out
    have HD1 : Hid (Calls Try.prog 27 #[.pointer (some ⟨F.b, 0, none⟩), .agg #[.int .i64 kd, .int .u64 tc, .int .i64 tk, .int .u64 th, .int .u64 pa, .string nm, .bool dr, .string dg, .int .i64 sz, .string eh]] w3 fun r w4 => (∃ v, r = .returned v) ∧ Hid (∃ F4, Ad base F F4 (l.take p ++ ⟨⟨kd, ⟨tc, tk⟩, th, pa, nm, dr, dg, sz⟩, eh⟩ :: (l.drop p).take 0) u w (.slice ba ss.length bc) ss w4)) := by
      have hpq := HP.out.1
      have h1 := HD.out (l.take p) F3 u ⟨⟨kd, ⟨tc, tk⟩, th, pa, nm, dr, dg, sz⟩, eh⟩ w3 hA3.t HE.out (by rw [List.length_take]; omega) (by
        have := ins_take l ⟨⟨kd, ⟨tc, tk⟩, th, pa, nm, dr, dg, sz⟩, eh⟩ 0
        rw [← hpq, List.take_zero] at this
        rw [this]
        exact HI.out.sublist (List.take_sublist _ _)) (by have := hA3.tn.size; omega)
      rw [hA3.b] at h1
      refine h1.mono ?_
      rintro r w4 ⟨F4, hr, hb4, ht4, hto4, htn4⟩
      exact ⟨hr, F4, hA3.done (hb4.trans hA3.b.symm) ht4 hto4 htn4⟩
    have e0 : w3.cell? ⟨w.heap.size, 0, none⟩ = some (.int .i64 kd) := (cell_of_row _ _ _ _ _ _ hE3).trans rfl
    have e1 : w3.cell? ⟨w.heap.size, 1, none⟩ = some (.int .u64 tc) := (cell_of_row _ _ _ _ _ _ hE3).trans rfl
    have e2 : w3.cell? ⟨w.heap.size, 2, none⟩ = some (.int .i64 tk) := (cell_of_row _ _ _ _ _ _ hE3).trans rfl
    have e3 : w3.cell? ⟨w.heap.size, 3, none⟩ = some (.int .u64 th) := (cell_of_row _ _ _ _ _ _ hE3).trans rfl
    have e4 : w3.cell? ⟨w.heap.size, 4, none⟩ = some (.int .u64 pa) := (cell_of_row _ _ _ _ _ _ hE3).trans rfl
    have e5 : w3.cell? ⟨w.heap.size, 5, none⟩ = some (.string nm) := (cell_of_row _ _ _ _ _ _ hE3).trans rfl
    have e6 : w3.cell? ⟨w.heap.size, 6, none⟩ = some (.bool dr) := (cell_of_row _ _ _ _ _ _ hE3).trans rfl
    have e7 : w3.cell? ⟨w.heap.size, 7, none⟩ = some (.string dg) := (cell_of_row _ _ _ _ _ _ hE3).trans rfl
    have e8 : w3.cell? ⟨w.heap.size, 8, none⟩ = some (.int .i64 sz) := (cell_of_row _ _ _ _ _ _ hE3).trans rfl
    have e9 : w3.cell? ⟨w.heap.size, 9, none⟩ = some (.string eh) := (cell_of_row _ _ _ _ _ _ hE3).trans rfl
    clear hA3 hE3
    go_upto_region 8 with (go_at_call 27; refine HD1.out.mono ?_; rintro r w4 ⟨⟨vr, rfl⟩, A4⟩; clear HD1)
    clear e0 e1 e2 e3 e4 e5 e6 e7 e8 e9 A3 I2
    go_wp2_with fail
    go_loopw [30] (fun v30 wr => ∃ j : Nat, v30 = .int .i64 j ∧ j ≤ ss.length ∧ Hid (∃ Fj, Ad base F Fj (l.take p ++ ⟨⟨kd, ⟨tc, tk⟩, th, pa, nm, dr, dg, sz⟩, eh⟩ :: (l.drop p).take j) u w (.slice ba ss.length bc) ss wr)) (fun v30 _ => ss.length - (intOf v30).toNat)
    case atStart => exact ⟨0, rfl, Nat.zero_le _, A4.out⟩
    case round =>
      obtain ⟨j, rfl, hj, HA⟩ := hrel
      clear A4
      by_cases hlt : j < ss.length
      · have hltI : (j : Int) < ss.length := by omega
        obtain ⟨Fj, hA⟩ := HA.out
        obtain ⟨s, hs⟩ : ∃ s, ss[j]? = some s := ⟨_, List.getElem?_eq_getElem hlt⟩
        obtain ⟨g, off, hba, _, hbc, hgl, hrg⟩ := (StepsAt.of_own hA.own).at (fun e => by rw [e] at hlt; cases hlt)
        subst hba
        obtain ⟨d0, d1, d2, d3, d4, d5, d6, d7, d8, d9, d10, d11, d12, d13, d14, d15, d16⟩ := cells17 (hrg j s hs)
        have hbcI : (ss.length : Int) ≤ bc := by omega
        have HDj : Hid (∀ v, Below wr.heap.size wr v → Calls Try.prog 27 #[.pointer (some ⟨F.b, 0, none⟩), s.en.v] v fun r w4 => (∃ v, r = .returned v) ∧ Hid (∃ F4, Ad base F F4 (l.take p ++ ⟨⟨kd, ⟨tc, tk⟩, th, pa, nm, dr, dg, sz⟩, eh⟩ :: (l.drop p).take (j + 1)) u w (.slice (some ⟨g, off, none⟩) ss.length bc) ss w4)) := by
          intro v k
          have hAv := hA.step k
          have hpq := HP.out.1
          have hen : (l.drop p)[j]? = some s.en := by
            have h2 := sps_en (ths [] (l.take p)) (l.drop p)
            rw [← h2, ← HSS.out.1, List.getElem?_map, hs]; rfl
          have hq : l.take p ++ ⟨⟨kd, ⟨tc, tk⟩, th, pa, nm, dr, dg, sz⟩, eh⟩ :: (l.drop p).take j ++ [s.en] = l.take p ++ ⟨⟨kd, ⟨tc, tk⟩, th, pa, nm, dr, dg, sz⟩, eh⟩ :: (l.drop p).take (j + 1) := by
            rw [List.append_assoc, List.cons_append, List.take_add_one, hen]; rfl
          have h1 := HD.out _ Fj u s.en v hAv.t (HT.out.fits s.en (List.mem_of_mem_drop (List.mem_of_getElem? hen))) (by rw [List.length_append, List.length_cons, List.length_take, List.length_take, List.length_drop]; omega) (by
            have := ins_take l ⟨⟨kd, ⟨tc, tk⟩, th, pa, nm, dr, dg, sz⟩, eh⟩ (j + 1)
            rw [← hpq] at this
            rw [hq, this]
            exact HI.out.sublist (List.take_sublist _ _)) (by have := hAv.tn.size; omega)
          rw [hAv.b] at h1
          refine h1.mono ?_
          rintro r w4 ⟨F4, hr, hb4, ht4, hto4, htn4⟩
          rw [hq] at ht4
          exact ⟨hr, F4, hAv.done (hb4.trans hAv.b.symm) ht4 hto4 htn4⟩
        unfold En.v at HDj
        clear hA HA hs hgl hrg
        go_wp2_with (go_at_call 27; refine (HDj.out _ ((Below.refl _ wr).alloc (Nat.le_refl _) _)).mono ?_; rintro r w5 ⟨⟨vr, rfl⟩, A5⟩; clear HDj)
        go_roundw
        case rel => exact ⟨j + 1, by simp, by omega, A5.out⟩
        case measure => simp [intOf]; omega
      · obtain rfl : j = ss.length := by omega
        obtain ⟨Fj, hA⟩ := HA.out
        have c2 := hA.t.g.c2
        have f2 := hA.t.g.fz 2
        rw [hA.b] at c2 f2
        have hw : IntKind.i64.wrap (u + ss.length) = u + ss.length := Sha.wrap_i64 _ (by omega) (by omega)
        clear HA
        have HAd := hide hA
        clear hA
        go_wp2_with fail
        go_ret
        obtain ⟨h1, h2, h3⟩ := HAd.out.undone (u + ss.length)
        have hq : l.take p ++ ⟨⟨kd, ⟨tc, tk⟩, th, pa, nm, dr, dg, sz⟩, eh⟩ :: (l.drop p).take ss.length = addE l ⟨⟨kd, ⟨tc, tk⟩, th, pa, nm, dr, dg, sz⟩, eh⟩ := by
          unfold addE
          rw [← HP.out.2.1, List.take_of_length_le (l := l.drop p) (by rw [List.length_drop, HSS.out.2]; exact Nat.le_refl _), HP.out.1]
          rfl
        have hq2 : (ss.length : Int) = backs l ⟨⟨kd, ⟨tc, tk⟩, th, pa, nm, dr, dg, sz⟩, eh⟩ := by
          unfold backs
          rw [← HP.out.2.1, HSS.out.2, HP.out.1]; rfl
        rw [hq, HAd.out.b] at h1
        rw [HAd.out.b] at h3
        rw [← hq2]
        exact ⟨Fj, rfl, HAd.out.b, h1, h2, h3⟩
end Go.Proofs.Ytknnamanbeckeaa
