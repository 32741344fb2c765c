/- Contract: the program's word on what may be a path. -/
import Derived.Test.YtpihgffcfoelbaaDoorNameSeq
namespace Go.Proofs.YtpihgffcfoelbaaDoor
open Go.RowKit Go.Names Go.Shelf
attribute [local go_sem] Oper.semAt_some
theorem put_back {W : World} {l : Nat} {o : Obj} (o1 : Obj) (h : W.heap[l]? = some o) : (W.putObj l o1).putObj l o = W := by
  obtain ⟨hl, he⟩ := Array.getElem?_eq_some_iff.1 h
  unfold World.putObj
  congr 1
  apply Array.ext_getElem?
  intro i
  rw [Array.getElem?_setIfInBounds, Array.getElem?_setIfInBounds]
  by_cases e : l = i
  · subst e
    simp [hl, he]
  · simp [e]
/-- A range over a function, at its first step: the iterator is called where the loop's record is laid. -/
theorem range_open {F : Fence} {n : Nat} {P : Program} {g : Operand} {ps : Array Tmp} {assign body : Code} {Q : Exit → Act → World → Prop} {a : Act} {w : World} (hro : F.round = none) {gf : Nat} {lb : Array Value}
    (hg : a.eval g = .func (.func gf) #[] lb) (hFg : F.fn gf) (eg : ∀ args w, (callFunc gf args).run P w = .ok (.enter gf args) w) (h1 : F.depth.isSome = true → 1 ≤ n)
    (h : ∀ fn, F.fn fn → ∀ r : LoopState → Option Code → Loop, (r = fun st pe => { state := st, pending := pe, fn, tmps := a.tmps, params := ps, assign, body, defers := w.heap.size }) →
      CallsIn F (n - 1) P gf (#[.func (.yield (w.heap.size + 1)) #[] #[]] ++ lb) ((w.alloc (.deferred (some []))).alloc (.loop (r .ready none))) (rangePost F n P (w.heap.size + 1) Q { a with defers := { target := .collected w.heap.size, args := #[] } :: a.defers })) :
    (Code.rangeFunc g ps assign body).wpIn F n P Q a w := by
  refine wpIn_rangeFunc fun fn hfn => ?_
  obtain ⟨r, hr⟩ : ∃ r : LoopState → Option Code → Loop, r = fun st pe => { state := st, pending := pe, fn, tmps := a.tmps, params := ps, assign, body, defers := w.heap.size } := ⟨_, rfl⟩
  have hc := h fn hfn r hr
  have he : (Instr.enterLoop fn a.tmps ps assign body F.round).run P w = .ok (w.heap.size + 1, [{ target := .collected w.heap.size, args := #[] }]) ((w.alloc (.deferred (some []))).alloc (.loop (r .ready none))) := by
    rw [hro, hr]
    exact run_enterLoop_outer fn a.tmps ps assign body
  generalize (w.alloc (.deferred (some []))).alloc (.loop (r .ready none)) = W1 at hc he
  clear hr h
  have e1 : (resolve a.eval (rangeCall g (w.heap.size + 1)) 0).run P W1 = .ok { target := .fn (.func gf) lb, args := #[.func (.yield (w.heap.size + 1)) #[] #[]] } W1 := by
    simp only [resolve, hg]
    simp [go_sem]
  have e2 : (invoke (.fn (.func gf) lb) #[.func (.yield (w.heap.size + 1)) #[] #[]]).run P W1 = .ok (.enter gf (#[.func (.yield (w.heap.size + 1)) #[] #[]] ++ lb)) W1 := by
    simp [invoke, go_sem, eg]
  refine ⟨_, _, W1, _, W1, gf, _, W1, he, e1, ?_, e2, h1, hc⟩
  intro f' hf'
  simp [Target.leads] at hf'
  exact hf' ▸ hFg
set_option maxHeartbeats 4000000 in
set_option maxRecDepth 100000 in
theorem path_any (s : ByteArray) (w : World) (hs : s.size ≤ 500) :
    Calls Tryd.prog 17 #[.string s] w fun e w' => e = .returned (.bool (pathB s.data.toList)) ∧ Below w.heap.size w w' := by
  have hsz : s.data.toList.length = s.size := by simp
  by_cases hbig : 238 < s.size
  · have hb : pathB s.data.toList = false := by unfold pathB; rw [hsz, decide_eq_false (by omega)]; rfl
    rw [hb]
    have hbi : (238 : Int) < s.size := by omega
    go_enter Tryd.func17, Tryd.ntmps17
    go_wp2
    refine bodyPost_ret (v := .bool false) (by simp [results, Tryd.f17, go_sem]) rfl ?_
    exact ⟨rfl, (Below.refl _ _).alloc (Nat.le_refl _) _⟩
  · have hb : pathB s.data.toList = (parts s.data.toList).all legal := by unfold pathB; rw [hsz, decide_eq_true (by omega)]; rfl
    rw [hb]
    have hbi : ¬ (238 : Int) < s.size := by omega
    refine (callsIn_wide (n := 9)).1 ?_
    refine callsIn_of_wp_marks Tryd.func17 rfl trivial ?_ rfl
    simp only [Tryd.ntmps17, List.size_toArray, List.length_cons, List.length_nil, Nat.reduceAdd, Nat.reduceSub, Array.replicate_succ, Array.replicate_zero, List.push_toArray, List.append_toArray, List.nil_append, List.cons_append]
    have HS := hide (fun w1 => splitSeq_any s w1)
    gi_wp2_with (refine ⟨trivial, (callsIn_wide.2 (HS.out _)).mono ?_⟩; rintro e w1 ⟨rfl, rfl⟩)
    obtain ⟨W0, hW0⟩ : ∃ W0, (((w.alloc (.cells #[.bool false] 4)).alloc (.cells #[.string s] 9)).alloc (.cells #[.string ⟨#[47]⟩] 9)).alloc (.cells #[.int .i64 0] 3) = W0 := ⟨_, rfl⟩
    have hs0 : W0.heap.size = w.heap.size + 4 := by rw [← hW0]; simp
    have kB : Below w.heap.size w W0 := by rw [← hW0]; exact ((((Below.refl _ w).alloc (Nat.le_refl _) _).alloc (by simp) _).alloc (by simp; omega) _).alloc (by simp; omega) _
    have b0 : Boxed W0 w.heap.size 4 (.bool false) := by rw [← hW0]; exact (((Boxed.new w 4 _).alloc _).alloc _).alloc _
    have b1 : Boxed W0 (w.heap.size + 1) 9 (.string s) := by
      rw [← hW0]
      have := (((Boxed.new (w.alloc (.cells #[.bool false] 4)) 9 (.string s)).alloc (.cells #[.string ⟨#[47]⟩] 9)).alloc (.cells #[.int .i64 0] 3))
      rwa [World.size_alloc] at this
    have b2 : Boxed W0 (w.heap.size + 1 + 1) 9 (.string ⟨#[47]⟩) := by
      rw [← hW0]
      have := ((Boxed.new ((w.alloc (.cells #[.bool false] 4)).alloc (.cells #[.string s] 9)) 9 (.string ⟨#[47]⟩)).alloc (.cells #[.int .i64 0] 3))
      rwa [World.size_alloc, World.size_alloc] at this
    have b3 : Boxed W0 (w.heap.size + 1 + 1 + 1) 3 (.int .i64 0) := by
      rw [← hW0]
      have := (Boxed.new (((w.alloc (.cells #[.bool false] 4)).alloc (.cells #[.string s] 9)).alloc (.cells #[.string ⟨#[47]⟩] 9)) 3 (.int .i64 0))
      rwa [World.size_alloc, World.size_alloc, World.size_alloc] at this
    rw [hW0]
    clear hW0
    refine range_open rfl rfl trivial (enters_of Tryd.func35 (by kernel_rfl) rfl) (fun h => by cases h) ?_
    intro fn hfn r hrec
    obtain ⟨W1, hW1⟩ : ∃ W1, (W0.alloc (.deferred (some []))).alloc (.loop (r .ready none)) = W1 := ⟨_, rfl⟩
    have hL1 : W1.heap[W0.heap.size + 1]? = some (.loop (r .ready none)) := by
      rw [← hW1]; have := World.alloc_heap_new (W0.alloc (.deferred (some []))) (.loop (r .ready none)); rwa [World.size_alloc] at this
    have hD1 : W1.heap[W0.heap.size]? = some (.deferred (some [])) := by
      rw [← hW1]; exact (Below.heap_alloc _ _ _ (by simp)).trans (World.alloc_heap_new W0 _)
    have kB1 : Below w.heap.size w W1 := by rw [← hW1]; exact (kB.alloc kB.size _).alloc (by simp; omega) _
    have d0 : Boxed W1 w.heap.size 4 (.bool false) := by rw [← hW1]; exact (b0.alloc _).alloc _
    have d1 : Boxed W1 (w.heap.size + 1) 9 (.string s) := by rw [← hW1]; exact (b1.alloc _).alloc _
    have d2 : Boxed W1 (w.heap.size + 1 + 1) 9 (.string ⟨#[47]⟩) := by rw [← hW1]; exact (b2.alloc _).alloc _
    have d3 : Boxed W1 (w.heap.size + 1 + 1 + 1) 3 (.int .i64 0) := by rw [← hW1]; exact (b3.alloc _).alloc _
    rw [hW1]
    have HREC := hide hrec
    have HFN := hide hfn
    have HKB := hide kB1
    clear hW1 b0 b1 b2 b3 kB hrec hfn kB1
    have hDz : w.heap.size + 4 ≤ W0.heap.size := by omega
    clear hs0
    generalize W0.heap.size = D at *
    refine (seq_in s (by omega) (D + 1) 8 (w.heap.size + 1 + 1) (w.heap.size + 1) (w.heap.size + 1 + 1 + 1)
      (fun W => W.heap[D + 1]? = some (.loop (r .ready none)) ∧ W.heap[D]? = some (.deferred (some [])) ∧ Boxed W w.heap.size 4 (.bool false) ∧ Below w.heap.size w W)
      (fun W => W.heap[D + 1]? = some (.loop (r .done (some .ret))) ∧ W.heap[D]? = some (.deferred (some [])) ∧ Boxed W w.heap.size 4 (.bool false) ∧ Below w.heap.size w W)
      W1 ?hY ?hN ?hJ ⟨hL1, hD1, d0, HKB.out⟩ d2.cell d1 d3.cell (by omega) (by omega)).mono ?_
    case hY =>
      rintro p W ⟨hl, hd, hx, hb⟩ hp hok
      have hl2 : (W.putObj (D + 1) (.loop { r .ready none with state := .busy })).heap[D + 1]? = some (.loop { r .ready none with state := .busy }) := World.putObj_heap_same (Array.getElem?_eq_some_iff.1 hl).1
      have hpb := put_back (.loop { r .ready none with state := .busy }) hl
      have HE := hide (run_endRound (P := Tryd.prog) none hl2)
      have HB := hide (run_beginRound (P := Tryd.prog) hl (by rw [HREC.out]))
      have hy := run_yield (P := Tryd.prog) (args := #[.string p]) hl (by rw [HREC.out]; rfl)
      rw [HREC.out] at hy
      refine ⟨_, _, _, _, hy, roundIn_of_wpIn HFN.out ?_⟩
      have HPB := hide hpb
      have HLg := hide (fun w1 => legal_any p w1 (by omega))
      rw [hok] at HLg
      clear hy hpb hl hd hx hb
      gi_wp2
      refine ⟨_, HB.out, ?_⟩
      gi_wp2_with (refine ⟨trivial, (callsIn_wide.2 (HLg.out _)).mono ?_⟩; rintro e w1 ⟨rfl, h9⟩; replace h9 := h9.symm; subst h9)
      refine ⟨_, _, HE.out, rfl, ?_⟩
      have e3 : ({ ({ r .ready none with state := .busy } : Loop) with state := if (none : Option Code).isNone then .ready else .done, pending := none } : Loop) = r .ready none := by rw [HREC.out]; rfl
      rw [e3]
      exact HPB.out
    case hN =>
      rintro p W ⟨hl, hd, hx, hb⟩ hp hok
      have hll := (Array.getElem?_eq_some_iff.1 hl).1
      have hl2 : (W.putObj (D + 1) (.loop { r .ready none with state := .busy })).heap[D + 1]? = some (.loop { r .ready none with state := .busy }) := World.putObj_heap_same hll
      have hgp := grownBy_putObj' W (D + 1) (.loop { r .ready none with state := .busy })
      have hx2 := hx.kept hgp (by intro e; have := Option.some.inj e; omega)
      have hd2 := (hgp.block _ (Array.getElem?_eq_some_iff.1 hd).1 (by intro e; have := Option.some.inj e; omega)).trans hd
      have hb2 : Below w.heap.size w (W.putObj (D + 1) (.loop { r .ready none with state := .busy })) := hb.grown hgp hb.size (fun k e => by cases e; omega)
      have HB := hide (run_beginRound (P := Tryd.prog) hl (by rw [HREC.out]))
      have hy := run_yield (P := Tryd.prog) (args := #[.string p]) hl (by rw [HREC.out]; rfl)
      rw [HREC.out] at hy
      refine ⟨_, _, _, _, hy, roundIn_of_wpIn HFN.out ?_⟩
      have HLg := hide (fun w1 => legal_any p w1 (by omega))
      rw [hok] at HLg
      clear hy hl hd hx hb hgp hll
      generalize W.putObj (D + 1) (.loop { r .ready none with state := .busy }) = Wb at *
      have hgs := grownBy_setCell' Wb w.heap.size (.bool false)
      have hl3 := (hgs.block _ (Array.getElem?_eq_some_iff.1 hl2).1 (by intro e; have := Option.some.inj e; omega)).trans hl2
      have hd3 := (hgs.block _ (Array.getElem?_eq_some_iff.1 hd2).1 (by intro e; have := Option.some.inj e; omega)).trans hd2
      have hx3 := hx2.set (.bool false)
      have hb3 := hb2.setCell (p := ⟨w.heap.size, 0, none⟩) (Nat.le_refl _) (.bool false)
      have hcb := hx2.cell
      have hfb := hx2.frozen
      have HE := hide (run_endRound (P := Tryd.prog) (some .ret) hl3)
      have HALL := hide (And.intro hl3 (And.intro hd3 (And.intro hx3 hb3)))
      clear hl3 hd3 hx3 hb3 hgs hl2 hx2 hd2 hb2
      gi_wp2
      refine ⟨_, HB.out, ?_⟩
      gi_wp2_with (refine ⟨trivial, (callsIn_wide.2 (HLg.out _)).mono ?_⟩; rintro e w1 ⟨rfl, h9⟩; replace h9 := h9.symm; subst h9)
      refine ⟨_, _, HE.out, rfl, ?_⟩
      obtain ⟨hl3, hd3, hx3, hb3⟩ := HALL.out
      have hll := (Array.getElem?_eq_some_iff.1 hl3).1
      have e3 : ({ ({ r .ready none with state := .busy } : Loop) with state := if (some Code.ret : Option Code).isNone then .ready else .done, pending := some .ret } : Loop) = r .done (some .ret) := by rw [HREC.out]; rfl
      rw [e3]
      have hgp := grownBy_putObj' (Wb.setCell ⟨w.heap.size, 0, none⟩ (.bool false)) (D + 1) (.loop (r .done (some .ret)))
      exact ⟨World.putObj_heap_same hll, (hgp.block _ (Array.getElem?_eq_some_iff.1 hd3).1 (by intro e; have := Option.some.inj e; omega)).trans hd3, hx3.kept hgp (by intro e; have := Option.some.inj e; omega), hb3.grown hgp hb3.size (fun k e => by cases e; omega)⟩
    case hJ =>
      rintro W v ⟨hl, hd, hx, hb⟩
      have hg := grownBy_setCell' W (w.heap.size + 1) v
      exact ⟨(hg.block _ (Array.getElem?_eq_some_iff.1 hl).1 (by intro e; have := Option.some.inj e; omega)).trans hl, (hg.block _ (Array.getElem?_eq_some_iff.1 hd).1 (by intro e; have := Option.some.inj e; omega)).trans hd, hx.kept hg (by intro e; have := Option.some.inj e; omega), hb.setCell (p := ⟨w.heap.size + 1, 0, none⟩) (by simp) _⟩
    · rintro e W ⟨⟨v, rfl⟩, (⟨hall, hl, hd, hx, hb⟩ | ⟨hall, hl, hd, hx, hb⟩)⟩
      · obtain ⟨Wf, hWf⟩ : ∃ Wf, Wf = W.putObj (D + 1) (.loop { r .ready none with state := .exhausted }) := ⟨_, rfl⟩
        have he : (Instr.endLoop (D + 1)).run Tryd.prog W = .ok (none) Wf := by
          have := run_endLoop (P := Tryd.prog) hl (by rw [HREC.out]; simp)
          have e : (r .ready none).pending = none := by rw [HREC.out]
          rw [hWf, this]
          exact congrArg (fun q => Result.ok q (W.putObj (D + 1) (.loop { r .ready none with state := .exhausted }))) e
        have hgp := grownBy_putObj' W (D + 1) (.loop { r .ready none with state := .exhausted })
        rw [← hWf] at hgp
        have hx4 := hx.kept hgp (by intro e; have := Option.some.inj e; omega)
        have hd4 := (hgp.block _ (Array.getElem?_eq_some_iff.1 hd).1 (by intro e; have := Option.some.inj e; omega)).trans hd
        have hb4 : Below w.heap.size w Wf := hb.grown hgp hb.size (fun k e => by cases e; omega)
        refine ⟨none, Wf, he, ?_⟩
        clear he hl hd hx hb hgp hWf
        have hc4 := hx4.cell
        have hf4 := hx4.frozen
        have HALL := hide hall
        have HB4 := hide hb4
        have HX4 := hide hx4
        have HD4 := hide hd4
        clear hall hb4 hx4 hd4 hs hsz hbig hb
        gi_wp2
        have hgs := grownBy_setCell' Wf w.heap.size (.bool true)
        have hK' := (hgs.block _ (Array.getElem?_eq_some_iff.1 HD4.out).1 (by intro e; have := Option.some.inj e; omega)).trans HD4.out
        refine ⟨by simp, .inl ⟨_, _, rfl, run_takeDeferred hK', ?_⟩⟩
        have hc5 := ((HX4.out.set (.bool true)).kept (grownBy_putObj' _ D (.deferred none)) (by intro e; have := Option.some.inj e; omega)).cell
        refine ⟨.bool true, ?_, by rw [HALL.out], (HB4.out.setCell (p := ⟨w.heap.size, 0, none⟩) (Nat.le_refl _) (.bool true)).grown (grownBy_putObj' _ D (.deferred none)) (by have := HB4.out.size; simpa using this) (fun k e => by cases e; omega)⟩
        simp [results, Tryd.f17, go_sem, hc5]
      · obtain ⟨Wf, hWf⟩ : ∃ Wf, Wf = W.putObj (D + 1) (.loop { r .done (some .ret) with state := .exhausted }) := ⟨_, rfl⟩
        have he : (Instr.endLoop (D + 1)).run Tryd.prog W = .ok (some Code.ret) Wf := by
          have := run_endLoop (P := Tryd.prog) hl (by rw [HREC.out]; simp)
          have e : (r .done (some .ret)).pending = some Code.ret := by rw [HREC.out]
          rw [hWf, this]
          exact congrArg (fun q => Result.ok q (W.putObj (D + 1) (.loop { r .done (some .ret) with state := .exhausted }))) e
        have hgp := grownBy_putObj' W (D + 1) (.loop { r .done (some .ret) with state := .exhausted })
        rw [← hWf] at hgp
        have hx4 := hx.kept hgp (by intro e; have := Option.some.inj e; omega)
        have hd4 := (hgp.block _ (Array.getElem?_eq_some_iff.1 hd).1 (by intro e; have := Option.some.inj e; omega)).trans hd
        have hb4 : Below w.heap.size w Wf := hb.grown hgp hb.size (fun k e => by cases e; omega)
        refine ⟨some Code.ret, Wf, he, ?_⟩
        clear he hl hd hx hb hgp hWf
        have hc4 := hx4.cell
        have hf4 := hx4.frozen
        have HALL := hide hall
        have HB4 := hide hb4
        have HX4 := hide hx4
        have HD4 := hide hd4
        clear hall hb4 hx4 hd4 hs hsz hbig hb
        gi_wp2
        refine ⟨by simp, .inl ⟨_, _, rfl, run_takeDeferred HD4.out, ?_⟩⟩
        have hc5 := (HX4.out.kept (grownBy_putObj' _ D (.deferred none)) (by intro e; have := Option.some.inj e; omega)).cell
        refine ⟨.bool false, ?_, by rw [HALL.out], HB4.out.grown (grownBy_putObj' _ D (.deferred none)) HB4.out.size (fun k e => by cases e; omega)⟩
        simp [results, Tryd.f17, go_sem, hc5]
end Go.Proofs.YtpihgffcfoelbaaDoor
