/- Contract: all from a place on is taken back, the last one first: where there is room behind. -/
import Derived.Test.YtknnamanbeckeaaMoveBackMem
namespace Go.Proofs.Ytknnamanbeckeaa
open Go.RowKit Go.Opn Go.Stamp Go.MapInt Go.Mov Go.Shelf
attribute [local go_sem] Oper.semAt_some
set_option maxHeartbeats 4000000 in
set_option maxRecDepth 100000 in
theorem takeBack_some {base : Nat} {F : Ft} {l : List En} {u : Int} (n : Nat) (w : World) (h : TreeAt Try.prog 30 66 75 base F l u w) (hn : n ≤ l.length) (hl : l.length ≤ 100000) (hb : base ≤ w.heap.size) (hw : ∃ g c, F.lv = .slice (some ⟨g, 0, none⟩) l.length c ∧ ¬ c = n) :
    Calls Try.prog 26 #[.pointer (some ⟨F.b, 0, none⟩), .int .i64 n] w fun r w' =>
      ∃ F' v', r = .returned v' ∧ F'.b = F.b ∧ TreeAt Try.prog 30 66 75 base F' (l.take n) u w' ∧ w'.ownsRow w.heap.size 75 17 v' (l.length - n) ((sps (ths [] (l.take n)) (l.drop n)).flatMap Sp.cs) ∧ (∀ x, F'.has x → F.has x) ∧ Tn F w w' := by
  refine (callsIn_wide (n := 9)).1 ?_
  refine callsIn_of_wp_marks Try.func26 rfl trivial ?_ rfl
  simp only [Try.ntmps26, List.size_toArray, List.length_cons, List.length_nil, Nat.reduceAdd, Nat.reduceSub, Array.replicate_succ, Array.replicate_zero, List.push_toArray, List.append_toArray, List.nil_append, List.cons_append]
  have HT := hide h
  have hll : (sps [] l).length = l.length := sps_length _ _
  have hE : Hid (sps [] l = sps [] (l.take n) ++ sps (ths [] (l.take n)) (l.drop n)) := by
    show _ = _
    conv => lhs; rw [← List.take_append_drop n l]
    rw [sps_append]
  have htl : (sps [] (l.take n)).length = n := by rw [sps_length, List.length_take, Nat.min_eq_left hn]
  have hD : Hid ((sps [] l).drop n = sps (ths [] (l.take n)) (l.drop n)) := by
    show _ = _
    rw [hE.out]
    have e1 := List.drop_left (l₁ := sps [] (l.take n)) (l₂ := sps (ths [] (l.take n)) (l.drop n))
    rw [htl] at e1
    exact e1
  have kA := ((Below.refl _ w).alloc (Nat.le_refl _) (.cells #[.pointer (some ⟨F.b, 0, none⟩)] 23))
  have I0 := hide (HT.out.g.below kA)
  have KA := hide kA
  have c1 := I0.out.c1
  have hn' : (n : Int) ≤ l.length := by omega
  have hn0 : (0 : Int) ≤ n := by omega
  -- what is sliced off: three ways
  obtain ⟨la, lc, hlv⟩ := I0.out.steps.form
  have hcap : l.length ≤ lc := by
    rcases HT.out.row.2 with ⟨hv, h0⟩ | ⟨g, cap, cur, hv, hg1, hg2, hg3, hg4, hg5, hg6⟩
    · rw [h0]; exact Nat.zero_le _
    · rw [hv] at hlv; simp only [Value.slice.injEq] at hlv; omega
  rw [hll] at hlv
  have hcapI : (l.length : Int) ≤ lc := by omega
  have hcapn : (n : Int) ≤ lc := by omega
  rw [hlv] at c1
  have HC : Hid (∀ v va c2, Below (w.alloc (.cells #[.pointer (some ⟨F.b, 0, none⟩)] 23)).heap.size (w.alloc (.cells #[.pointer (some ⟨F.b, 0, none⟩)] 23)) v → (lc = n ∧ va = la ∧ c2 = 0 ∨ ¬ lc = n ∧ va = la.map (fun x => ⟨x.block, n * 17, none⟩) ∧ c2 = lc - n) → Calls Try.prog 41 #[.slice va (l.length - n) c2] v fun r w' => ∃ v', r = .returned v' ∧ w'.ownsRow v.heap.size 75 17 v' (l.length - n) ((sps (ths [] (l.take n)) (l.drop n)).flatMap Sp.cs) ∧ Below v.heap.size v w') := by
    intro v va c2 k hva
    have hlen : (sps (ths [] (l.take n)) (l.drop n)).length = l.length - n := by rw [sps_length, List.length_drop]
    have hst : StepsAt v (.slice va (l.length - n) c2) (sps (ths [] (l.take n)) (l.drop n)) := by
      refine StepsAt.below ?_ k
      have hs0 := I0.out.steps
      rw [hlv] at hs0
      rcases hva with ⟨h1, h2, h3⟩ | ⟨h1, h2, h3⟩
      · have hz : l.length = n := by omega
        rcases hs0 with ⟨e1, e2⟩ | ⟨g, off, cap, e1, e2, e3, e4⟩
        · simp only [Value.slice.injEq] at e1
          refine .inl ⟨by rw [h2, h3, e1.1, hz, Nat.sub_self], ?_⟩
          exact List.length_eq_zero_iff.1 (by rw [hlen]; omega)
        · simp only [Value.slice.injEq] at e1
          refine .inr ⟨g, off, 0, by rw [h2, h3, e1.1, hlen], e2, by rw [hlen]; omega, fun i s hs => ?_⟩
          have := (List.getElem?_eq_some_iff.1 hs).1
          omega
      · rcases hs0 with ⟨e1, e2⟩ | ⟨g, off, cap, e1, e2, e3, e4⟩
        · simp only [Value.slice.injEq] at e1
          have hz : l.length = 0 := by rw [← hll, e2]; rfl
          exact absurd e1.2.2 (by omega)
        · have hs1 : StepsAt (w.alloc (.cells #[.pointer (some ⟨F.b, 0, none⟩)] 23)) (.slice (some ⟨g, off, none⟩) (sps [] l).length lc) (sps [] l) := by
            have := I0.out.steps
            rw [hlv] at this
            simp only [Value.slice.injEq] at e1
            rw [e1.1, ← hll] at this
            exact this
          have h5 := hs1.dropped (n := n) (by omega)
          rw [hD.out, hll] at h5
          have hoff : off = 0 := by
            rcases HT.out.row.2 with ⟨hv, h0⟩ | ⟨g', cap', cur, hv, _⟩
            · rw [hv] at hlv; simp only [Value.slice.injEq] at hlv e1; rw [← hlv.1] at e1; cases e1.1
            · rw [hv] at hlv; simp only [Value.slice.injEq] at hlv e1; rw [← hlv.1] at e1; have := e1.1; simp only [Option.some.injEq, Addr.mk.injEq] at this; omega
          simp only [Value.slice.injEq] at e1
          rw [hoff, Nat.zero_add] at h5
          rw [h2, h3, e1.1]
          exact h5
    have := cloneSp_any _ _ v hst (by rw [hlen]; omega)
    rw [hlen] at this
    exact this
  have hla : la = none ∨ ∃ g, la = some ⟨g, 0, none⟩ := by
    rcases HT.out.row.2 with ⟨hv, h0⟩ | ⟨g', cap', cur, hv, _⟩
    · rw [hv] at hlv; simp only [Value.slice.injEq] at hlv; exact .inl hlv.1.symm
    · rw [hv] at hlv; simp only [Value.slice.injEq] at hlv; exact .inr ⟨g', hlv.1.symm⟩
  have HL := hide (And.intro hlv (And.intro hcap (And.intro hll htl)))
  clear hll htl h hlv hcap
  obtain ⟨g, hg, hcn⟩ : ∃ g, la = some ⟨g, 0, none⟩ ∧ ¬ lc = n := by
    obtain ⟨g, c, h1, h2⟩ := hw
    have h3 := HL.out.1
    rw [h1] at h3
    simp only [Value.slice.injEq] at h3
    exact ⟨g, h3.1.symm, by omega⟩
  subst hg
  clear hw hla
  have hcn2 : ¬ (lc : Int) = n := by omega
  gi_wp2_with (refine ⟨trivial, ?_⟩; gi_at_call 41; refine (callsIn_wide.2 (HC.out _ _ _ (Below.refl _ _) (.inr ⟨hcn, rfl, rfl⟩))).mono ?_; rintro e w1 ⟨vc, rfl, hown, kC⟩; have I1 := hide (I0.out.below kC); have HO := hide hown; have KC := hide kC; obtain ⟨va, vcc, rfl⟩ := own_form HO.out; clear hown kC)
  have b1 := I1.out.c1
  have f1 := I1.out.fz 1
  rw [HL.out.1] at b1
  have t1 : w1.cell? ⟨w.heap.size, 0, none⟩ = some (.pointer (some ⟨F.b, 0, none⟩)) := (KC.out.cell (p := ⟨w.heap.size, 0, none⟩) (by simp)).trans ((cell_of_row _ _ _ _ _ _ (heap_alloc_new w _)).trans rfl)
  gi_region
  have I2 : Hid (TreeG Try.prog 30 66 75 base ⟨F.b, F.mb, .slice (some ⟨g, 0, none⟩) n lc⟩ (ths [] l) (sps [] (l.take n)) u (w1.setCell ⟨F.b, 1, none⟩ (.slice (some ⟨g, 0, none⟩) n lc))) := by
    have hrow := I1.out.row
    rw [HL.out.1, HL.out.2.2.1] at hrow
    have htk := own_take hrow hn
    rw [hE.out] at htk
    have e2 : ((sps [] (l.take n) ++ sps (ths [] (l.take n)) (l.drop n)).flatMap Sp.cs).take (n * 17) = (sps [] (l.take n)).flatMap Sp.cs := by
      have e3 := flat_take (a := sps [] (l.take n)) (b := sps (ths [] (l.take n)) (l.drop n))
      rw [HL.out.2.2.2] at e3
      exact e3
    rw [e2] at htk
    refine I1.out.setLog (by decide) ⟨rfl, rfl, rfl, Nat.le_refl _, fun _ _ _ => rfl⟩ (ss' := sps [] (l.take n)) (by rw [HL.out.2.2.2]; exact htk) (fun x hx => .inl (by rw [HL.out.1]; cases hx; rfl)) (Nat.le_trans hb (Nat.le_trans (by simp) KC.out.size))
  have hgb := I1.out.lt _ (.inl rfl)
  have hsz1 : w.heap.size + 1 ≤ w1.heap.size := by have := KC.out.size; simpa using this
  have hFlt := HT.out.g.lt _ (.inl rfl)
  have I3 := hide (I2.out.below ((Below.refl _ _).drew))
  have HO3 : Hid ((w1.setCell ⟨F.b, 1, none⟩ (.slice (some ⟨g, 0, none⟩) n lc)).drew.ownsRow (w.heap.size + 1) 75 17 (.slice va (l.length - n) vcc) (l.length - n) ((sps (ths [] (l.take n)) (l.drop n)).flatMap Sp.cs)) := by
    have h1 := HO.out
    simp only [World.size_alloc] at h1
    refine own_kept h1 fun x hx => ?_
    have := (h1.lt x hx).1
    exact heap_setCell_other _ _ _ _ (by show x ≠ F.b; omega)
  have T3 : (w1.setCell ⟨F.b, 1, none⟩ (.slice (some ⟨g, 0, none⟩) n lc)).drew.heap[w.heap.size]? = some (.cells #[.pointer (some ⟨F.b, 0, none⟩)] 23 (0, 0)) := by
    have h1 : w1.heap[w.heap.size]? = some (.cells #[.pointer (some ⟨F.b, 0, none⟩)] 23 (0, 0)) := (KC.out.block _ (by simp)).trans (heap_alloc_new w _)
    exact (heap_setCell_other _ _ _ _ (by show w.heap.size ≠ F.b; omega)).trans h1
  have TN3 : Hid (Tn F w (w1.setCell ⟨F.b, 1, none⟩ (.slice (some ⟨g, 0, none⟩) n lc)).drew) := by
    have k1 : Below w.heap.size w w1 := KA.out.trans (KC.out.mono (by simp))
    exact ((Tn.of_below k1).trans (Tn.of_set w1 _ (.inl rfl)) (F.to_refl _)).trans (Tn.of_below ((Below.refl _ _).drew)) (F.to_refl _)
  have SZ3 : Hid (w.heap.size + 1 ≤ (w1.setCell ⟨F.b, 1, none⟩ (.slice (some ⟨g, 0, none⟩) n lc)).drew.heap.size) := by show _ ≤ _; simpa using hsz1
  generalize (w1.setCell ⟨F.b, 1, none⟩ (.slice (some ⟨g, 0, none⟩) n lc)).drew = w3 at I3 HO3 T3 TN3 SZ3 ⊢
  clear I2 I1 HO KC b1 f1 t1 hsz1 hgb
  gi_wp2_with (refine ⟨trivial, ?_⟩; gi_at_call 42; refine (callsIn_wide.2 (backward_any _ _ _ _)).mono ?_; rintro e w4 ⟨rfl, rfl⟩)
  have hbkA : ∀ s ∈ sps (ths [] (l.take n)) (l.drop n), Bk F.mb s := by
    refine sps_bk F.mb _ (ths_fine Fine.nil fun e he => HT.out.fits e (List.mem_of_mem_take he)) (fun e he => HT.out.fits e (List.mem_of_mem_drop he)) fun hm => ?_
    rw [← ths_append, List.take_append_drop]
    rcases HT.out.map with ⟨_, h1⟩ | ⟨b, h1, _⟩
    · exact h1
    · rw [hm] at h1; cases h1
  have W0e : (w3.alloc (.cells #[.slice va (l.length - n) vcc] 64)).heap.size = w3.heap.size + 1 := by simp
  obtain ⟨gc, hgc, hgl, hgw⟩ : ∃ gc, (∀ x, va = some x → x.block = gc) ∧ gc < w3.heap.size + 1 ∧ w.heap.size ≤ gc := by
    have h3 := SZ3.out
    cases va with
    | none => exact ⟨w3.heap.size, (fun x h => by cases h), by omega, by omega⟩
    | some x => exact ⟨x.block, (fun y h => by cases h; rfl), by have := (HO3.out.lt x.block rfl).2; omega, by have := (HO3.out.lt x.block rfl).1; omega⟩
  have hlen : (sps (ths [] (l.take n)) (l.drop n)).length = l.length - n := by rw [sps_length, List.length_drop]
  have hst3 : StepsAt (w3.alloc (.cells #[.slice va (l.length - n) vcc] 64)) (.slice va (sps (ths [] (l.take n)) (l.drop n)).length vcc) (sps (ths [] (l.take n)) (l.drop n)) := by
    have h1 := HO3.out
    rw [← hlen] at h1
    exact (StepsAt.of_own h1).below ((Below.refl _ w3).alloc (Nat.le_refl _) _)
  have hbx3 : (w3.alloc (.cells #[.slice va (l.length - n) vcc] 64)).cell? ⟨w3.heap.size, 0, none⟩ = some (.slice va (sps (ths [] (l.take n)) (l.drop n)).length vcc) := by
    rw [hlen]; exact (cell_of_row _ _ _ _ _ _ (heap_alloc_new w3 _)).trans rfl
  refine wpIn_rangeFunc_ownH rfl (by decide) (gf := 54) (lb := #[.pointer (some ⟨w3.heap.size, 0, none⟩)]) rfl trivial (enters_of Try.func54 (by kernel_rfl) rfl)
    (back_of (Bk F.mb) (sps (ths [] (l.take n)) (l.drop n)) hbkA w3.heap.size gc 8 _ hbx3 hgc hst3 (by rw [hlen]; omega)) (fun h k => KpB_t _ _ h k) (KpB_b _ _ _ (by simp) (by simpa using hgl)) (Below.refl _ _) (fun _ => rfl)
    (fun pre W => Tb base F ⟨F.b, F.mb, .slice (some ⟨g, 0, none⟩) n lc⟩ l n u w w3 va vcc gc (pre.map (·.1.2)) W)
    (fun c pre W => False)
    ?hI (fun c s A B row hs hg hr => hs) ?h0
    (fun x a' W => ∃ Bx, w3.heap.size + 1 ≤ Bx ∧ W.heap[Bx]? = some (.cells x.1.2.cs.toArray 75 (0, 0)) ∧ a' = { tmps := #[.pointer (some ⟨F.b, 0, none⟩), .int .i64 n, .pointer (some ⟨w.heap.size, 0, none⟩), undef, .slice none 0 0, .slice va (l.length - n) vcc, undef, .pointer (some ⟨Bx, 0, none⟩), .pointer (some ⟨F.b, 0, none⟩), .pointer (some ⟨F.b, 0, none⟩), .pointer (some ⟨F.b, 1, none⟩), .slice (some ⟨g, 0, none⟩) l.length lc, .int .i64 n, .slice (some ⟨g, n * 17, none⟩) (l.length - n) (lc - n), .slice va (l.length - n) vcc, .pointer (some ⟨F.b, 0, none⟩), .pointer (some ⟨F.b, 0, none⟩), .pointer (some ⟨F.b, 0, none⟩), .pointer (some ⟨F.b, 1, none⟩), .slice (some ⟨g, 0, none⟩) l.length lc, .int .i64 n, .slice (some ⟨g, 0, none⟩) n lc, .pointer (some ⟨F.b, 0, none⟩), .pointer (some ⟨F.b, 1, none⟩), .slice va (l.length - n) vcc, .func (.func 54) #[] #[.pointer (some ⟨w3.heap.size, 0, none⟩)], .int .i64 x.1.1, x.1.2.v, undef, undef, undef, undef, undef, undef, undef, undef, undef, undef, undef, undef, undef, undef, undef, undef, undef, undef, undef, undef, undef], defers := [] }) ?hAx ?assign ?body ?done ?stop
  case hI =>
    intro ss' A B row hs hg hr
    have hsz := hs.sz
    refine hs.kept (fun k h1 h2 => hg.block k h1 (fun e => by have := (hr k e.symm).1; simp at this; omega)) hg.size ?_
    have t0 := hs.tn
    refine ⟨hg.os.trans t0.os, hg.tape.trans t0.tape, hg.output.trans t0.output, Nat.le_trans t0.size hg.size, fun k hk hn' => (hg.block k (Nat.lt_of_lt_of_le hk t0.size) (fun e => by have := (hr k e.symm).1; simp at this; omega)).trans (t0.block k hk hn')⟩
  case h0 =>
    have hfn := HT.out.fine
    have kz := (Below.refl _ w3).alloc (Nat.le_refl _) (.cells #[.slice va (l.length - n) vcc] 64)
    refine ⟨I3.out.below kz, hfn.rises, hfn.fits, ?_, (kz.block _ (Array.getElem?_eq_some_iff.1 T3).1).trans T3, own_kept HO3.out fun x hx => kz.block x (HO3.out.lt x hx).2, ?_, fun x hx => (HO3.out.lt x hx).2, TN3.out.trans (Tn.of_below kz) (F.to_refl _), SZ3.out, by simp⟩
    · have := ths_length (l := l) Fine.nil HT.out.fits
      simpa using this
    · intro x hx
      refine HT.out.g.lt x ?_
      rcases hx with hx | hx | hx
      · exact .inl hx
      · exact .inr (.inl hx)
      · refine .inr (.inr ?_)
        rw [HL.out.1]; exact hx
  case hAx =>
    rintro x a' _ A B row ⟨Bx, h1, h2, h3⟩ hg hr
    exact ⟨Bx, h1, (hg.block Bx (Array.getElem?_eq_some_iff.1 h2).1 (fun e => by obtain ⟨_, o, ho, hc⟩ := hr Bx e.symm; rw [h2] at ho; cases ho; cases hc)).trans h2, h3⟩
  case assign =>
    rintro lq pre ⟨⟨k, s⟩, hbk⟩ W K hI hK
    dsimp only
    unfold Sp.v
    gi_wp2
    have kz := (Below.refl _ W).alloc (Nat.le_refl _) (.cells s.cs.toArray 75)
    have hwz := hI.wz
    exact hK _ _ ((KeepsOthers.alloc _ _).from _) ⟨kz.size, kz.block _ (by omega), kz.block _ (by omega)⟩ (hI.kept (fun q h1 _ => kz.block q h1) kz.size (hI.tn.trans (Tn.of_below kz) (F.to_refl _))) ⟨W.heap.size, hwz, heap_alloc_new W _, rfl⟩
  case body =>
    rintro lq pre ⟨⟨k, s⟩, hbk⟩ a' W hlq hrec hI ⟨Bx, hBx, hrow, rfl⟩ hlen2
    rw [hlen] at hlen2
    dsimp only at hrow hbk
    obtain ⟨pl, hpl⟩ : ∃ pl, pl = pre.map (·.1.2) := ⟨_, rfl⟩
    have hpll : pl.length ≤ 100000 := by rw [hpl, List.length_map]; omega
    rw [← hpl] at hI
    have HPL := hide hpl
    have HI := hide hI
    have HR := hide hrow
    have HB := hide hbk
    clear hpl hlen2
    have c16 : W.cell? ⟨Bx, 16, none⟩ = some (.bool s.was.isSome) := (cell_of_row _ _ _ _ _ _ hrow).trans rfl
    have c3 : W.cell? ⟨Bx, 3, none⟩ = some (.int .u64 s.en.op.thing) := (cell_of_row _ _ _ _ _ _ hrow).trans rfl
    have ct : W.cell? ⟨w.heap.size, 0, none⟩ = some (.pointer (some ⟨F.b, 0, none⟩)) := (cell_of_row _ _ _ _ _ _ hI.t).trans rfl
    have c0 := hI.g.ths.cell
    dsimp only at c0
    clear hI hrow hrec hlq
    cases hwas : s.was with
    | none =>
      rw [hwas] at c16
      dsimp only [Option.isSome_none] at c16
      gi_wp2_with fail
      have r3 := cell_regrown c3
      have rt := cell_regrown ct
      have r0 := cell_regrown c0
      refine QuietCalls.tailIn 8 (by kernel_rfl) (by kernel_rfl) (by kernel_rfl) ?_
      simp only [List.take_succ_cons, List.take_zero, List.drop_succ_cons, List.drop_zero]
      iterate 8 (first | go_big_quiet_step (fail) | quiet_step (fail))
      refine wpQuiet_nil ?_
      intro W2 k2
      have HI2 := hide (HI.out.kept (fun q h1 _ => k2.block q h1) k2.size (HI.out.tn.trans (Tn.of_below k2) (F.to_refl _)))
      have hmap := HI2.out.g.map
      dsimp only at hmap
      have KB2 := hide k2
      clear k2
      cases hm : F.mb with
      | none =>
        have hdel := del_nil s.en.op.thing
        gi_wp2_with fail
        have hsz := HI.out.sz
        have hwz := HI.out.wz
        refine ⟨⟨KB2.out.size, fun q o hq hqo _ => (KB2.out.block q (Array.getElem?_eq_some_iff.1 hqo).1).trans hqo⟩, ⟨KB2.out.size, KB2.out.block _ (by omega), KB2.out.block _ (by omega)⟩, ?_⟩
        show Tb base F _ l n u w w3 va vcc gc (List.map (fun x : Bp (Bk F.mb) => x.1.2) (pre ++ [(⟨(k, s), hbk⟩ : Bp (Bk F.mb))])) W2
        rw [List.map_append, ← HPL.out]
        refine HI2.out.same ?_
        have ht0 : pl.foldl undo (ths [] l) = [] := by
          rcases hmap with ⟨_, h1⟩ | ⟨b, h1, _⟩
          · exact h1
          · rw [hm] at h1; cases h1
        show undo (pl.foldl undo (ths [] l)) s = _
        rw [ht0]; unfold undo; rw [hwas]; rfl
      | some m =>
        rw [hm] at hmap
        obtain ⟨W3, hdel, hM, hgr⟩ := hmap.del u64Key thMap s.en.op.thing HB.out.1 0
        have HT3 := hide (HI2.out.turned (s := s) (F2 := ⟨F.b, F.mb, .slice (some ⟨g, 0, none⟩) n lc⟩) hm (.inr (.inl hm)) hgr (by unfold undo; rw [hwas]; exact hM) (by unfold undo; rw [hwas]; exact rises_del HI2.out.rises _) (by
          unfold undo; rw [hwas]
          exact fun z hz => HI2.out.fits z (mem_del.1 hz).1) (by unfold undo; rw [hwas]; exact Nat.le_succ_of_le (List.length_filter_le _ _)))
        have HG3 := hide hgr
        clear hM hgr hmap
        gi_wp2_with fail
        have hml := HI.out.lt m (.inr (.inl hm))
        have hsz := HI.out.sz
        have hwz := HI.out.wz
        have hall : ∀ q, q < W.heap.size → q ≠ m → W3.heap[q]? = W.heap[q]? := fun q hq hqm => (HG3.out.block q (Nat.lt_of_lt_of_le hq KB2.out.size) (fun e => by cases e; exact hqm rfl)).trans (KB2.out.block q hq)
        refine ⟨⟨Nat.le_trans KB2.out.size HG3.out.size, fun q o hq hqo _ => (hall q (Array.getElem?_eq_some_iff.1 hqo).1 (by simp at hq; omega)).trans hqo⟩, ⟨Nat.le_trans KB2.out.size HG3.out.size, hall _ (by omega) (by omega), hall _ (by omega) (by omega)⟩, ?_⟩
        show Tb base F _ l n u w w3 va vcc gc (List.map (fun x : Bp (Bk F.mb) => x.1.2) (pre ++ [(⟨(k, s), hbk⟩ : Bp (Bk F.mb))])) W3
        rw [List.map_append, ← HPL.out]
        exact HT3.out
    | some y =>
      rw [hwas] at c16
      dsimp only [Option.isSome_some] at c16
      obtain ⟨hy1, hy2⟩ := HB.out.2.1 y hwas
      obtain ⟨m, hm⟩ : ∃ m, F.mb = some m := by
        cases e : F.mb with
        | none => have := HB.out.2.2 e; rw [hwas] at this; cases this
        | some m => exact ⟨m, rfl⟩
      rw [hm] at c0
      gi_wp2_with fail
      have r3 := cell_regrown c3
      have rt := cell_regrown ct
      have r0 := cell_regrown c0
      refine QuietCalls.tailIn 10 (by kernel_rfl) (by kernel_rfl) (by kernel_rfl) ?_
      simp only [List.take_succ_cons, List.take_zero, List.drop_succ_cons, List.drop_zero]
      iterate 9 (first | go_big_quiet_step (fail) | quiet_step (fail))
      refine QuietCalls.loadMid rfl 61 _ rfl Bx 10 rfl y.cs _ (fun v kb => ?mid) Try.underlying61 rfl infoTh ?_
      case mid =>
        intro j v' hv'
        have hrow2 := (kb.block Bx (Array.getElem?_eq_some_iff.1 HR.out).1).trans HR.out
        rw [cell_of_row _ _ _ _ _ _ hrow2]
        have hcs : s.cs = s.en.cs ++ (y.cs ++ [.bool true]) := by unfold Sp.cs Sp.x; rw [hwas]; rfl
        rw [hcs]
        have hj : j < 6 := (List.getElem?_eq_some_iff.1 hv').1
        rw [List.getElem?_toArray, List.getElem?_append_right (by show 10 ≤ 10 + j; omega), show 10 + j - s.en.cs.length = j from by show 10 + j - 10 = j; omega, List.getElem?_append_left (by exact hj)]
        exact hv'
      simp only [Act.put, List.setIfInBounds_toArray, List.set_cons_succ, List.set_cons_zero]
      refine wpQuiet_nil ?_
      intro W2 k2
      have HI2 := hide (HI.out.kept (fun q h1 _ => k2.block q h1) k2.size (HI.out.tn.trans (Tn.of_below k2) (F.to_refl _)))
      have hmap := HI2.out.g.map
      dsimp only at hmap
      rw [hm] at hmap
      obtain ⟨W3, hrun, hM, hgr⟩ := hmap.put u64Key thMap HI2.out.rises HI2.out.fits (by have := HI2.out.len; unfold maxLen; omega) y hy2
      rw [hy1] at hrun
      have hrun2 : (Instr.mapUpdate 63 (.map (some m)) (.int .u64 s.en.op.thing) (.agg y.cs.toArray)).run Try.prog W2 = .ok () W3 := hrun
      have HT3 := hide (HI2.out.turned (s := s) (F2 := ⟨F.b, F.mb, .slice (some ⟨g, 0, none⟩) n lc⟩) hm (.inr (.inl hm)) hgr (by unfold undo; rw [hwas]; exact hM) (by unfold undo; rw [hwas]; exact rises_put HI2.out.rises) (by
        unfold undo; rw [hwas]
        intro z hz
        rcases (mem_put HI2.out.rises).1 hz with rfl | hz
        · exact hy2
        · exact HI2.out.fits z hz.1) (by unfold undo; rw [hwas]; exact length_put_le HI2.out.rises y))
      have HG3 := hide hgr
      have KB2 := hide k2
      clear hrun hM hgr hmap k2
      gi_wp2_with fail
      have hml := HI.out.lt m (.inr (.inl hm))
      have hsz := HI.out.sz
      have hwz := HI.out.wz
      have hall : ∀ q, q < W.heap.size → q ≠ m → W3.heap[q]? = W.heap[q]? := fun q hq hqm => (HG3.out.block q (Nat.lt_of_lt_of_le hq KB2.out.size) (fun e => by cases e; exact hqm rfl)).trans (KB2.out.block q hq)
      refine ⟨⟨Nat.le_trans KB2.out.size HG3.out.size, fun q o hq hqo _ => (hall q (Array.getElem?_eq_some_iff.1 hqo).1 (by simp at hq; omega)).trans hqo⟩, ⟨Nat.le_trans KB2.out.size HG3.out.size, hall _ (by omega) (by omega), hall _ (by omega) (by omega)⟩, ?_⟩
      show Tb base F _ l n u w w3 va vcc gc (List.map (fun x : Bp (Bk F.mb) => x.1.2) (pre ++ [(⟨(k, s), hbk⟩ : Bp (Bk F.mb))])) W3
      rw [List.map_append, ← HPL.out]
      exact HT3.out
  case done =>
    rintro D xs W hD hxs hI hK
    have HI := hide hI
    have hth : (xs.map (·.1.2)).foldl undo (ths [] l) = ths [] (l.take n) := by
      rw [hxs]
      have e1 : ths [] l = ths (ths [] (l.take n)) (l.drop n) := by rw [← ths_append, List.take_append_drop]
      rw [e1]
      exact undo_all _ (ths_fine Fine.nil fun e he => HT.out.fits e (List.mem_of_mem_take he)) fun e he => HT.out.fits e (List.mem_of_mem_drop he)
    have HTH := hide hth
    have hD2 : w3.heap.size + 1 ≤ D := by simpa using hD
    clear hth hxs hI hD
    gi_wp2
    refine ⟨by simp, .inl ⟨_, _, rfl, run_takeDeferred hK, ?_⟩⟩
    have hkp : ∀ q, q < w3.heap.size + 1 → (W.putObj D (.deferred none)).heap[q]? = W.heap[q]? := fun q hq => putObj_other (by omega)
    have hsz := HI.out.sz
    refine ⟨.slice va (l.length - n) vcc, ?_, ⟨F.b, F.mb, .slice (some ⟨g, 0, none⟩) n lc⟩, _, rfl, rfl, TreeG.at ?_ (fun e he => HT.out.fits e (List.mem_of_mem_take he)) (HT.out.ord.sublist (List.take_sublist _ _)), ?_, ?_, ?_⟩
    · simp [results, Try.f26, go_sem]
    · have := HI.out.g
      rw [HTH.out] at this
      exact this.kept fun x hx => hkp x (by have := HI.out.lt x hx; omega)
    · exact own_low (own_kept HI.out.own fun x hx => hkp x (by have := HI.out.olt x hx; omega)) (by omega)
    · intro x hx
      rcases hx with hx | hx | hx
      · exact .inl hx
      · exact .inr (.inl hx)
      · refine .inr (.inr ?_)
        rw [HL.out.1]; exact hx
    · have t0 := HI.out.tn
      have hg := grownBy_putObj' W D (.deferred none)
      exact ⟨hg.os.trans t0.os, hg.tape.trans t0.tape, hg.output.trans t0.output, Nat.le_trans t0.size hg.size, fun q hq hq2 => (hkp q (by omega)).trans (t0.block q hq hq2)⟩
  case stop => rintro D c pre W hD hpre h hK; exact h.elim
end Go.Proofs.Ytknnamanbeckeaa
