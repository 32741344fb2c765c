/- Contract: the statements' awake: a child ahead of its parent waits, and is taken with it. -/
import Derived.Test.YtkbboddibgfjbaaGreatDoorDagMade
import Derived.Test.YtkbboddibgfjbaaGreatDoorDagPure
import Derived.Test.YtkbboddibgfjbaaGreatDoorDagHeads
namespace Go.Proofs.YtkbboddibgfjbaaGreatDoor
open Go.RowKit Go.Sort Go.Wire Go.Stamp Go.Opn Go.Nod Go.MapFun Go.Dag
attribute [local go_sem] Oper.semAt_some
/-- The two given nodes in memory. -/
theorem awGvs (w : World) : GvsAt ((w.alloc (.cells #[.int .i64 0] 3)).alloc (.cells #[.int .i64 0, .int .i64 0, .slice none 0 0, .int .i64 0, .int .i64 0, .int .i64 0, .int .i64 1, .slice (some ⟨w.heap.size, 0, none⟩) 1 1, .int .i64 0, .int .i64 0] 68)) (.slice (some ⟨w.heap.size + 1, 0, none⟩) 2 2) [g0, g1] := by
  have hr := heap_alloc_new (w.alloc (.cells #[.int .i64 0] 3)) (.cells #[.int .i64 0, .int .i64 0, .slice none 0 0, .int .i64 0, .int .i64 0, .int .i64 0, .int .i64 1, .slice (some ⟨w.heap.size, 0, none⟩) 1 1, .int .i64 0, .int .i64 0] 68)
  have e : (w.alloc (.cells #[.int .i64 0] 3)).heap.size = w.heap.size + 1 := by simp
  rw [e] at hr
  have h0 := heap_alloc2_old w (.cells #[.int .i64 0] 3) (.cells #[.int .i64 0, .int .i64 0, .slice none 0 0, .int .i64 0, .int .i64 0, .int .i64 0, .int .i64 1, .slice (some ⟨w.heap.size, 0, none⟩) 1 1, .int .i64 0, .int .i64 0] 68)
  refine .inr ⟨w.heap.size + 1, 0, 2, rfl, by simp, Nat.le_refl _, fun j g hj => ?_⟩
  match j, hj with
  | 0, hj =>
    cases hj
    refine ⟨.slice none 0 0, ?_, ?_, ?_, ?_, ?_, .inl ⟨⟨none, 0, rfl⟩, rfl⟩⟩ <;> (rw [cell_of_row _ _ _ _ _ _ hr]; rfl)
  | 1, hj =>
    cases hj
    refine ⟨.slice (some ⟨w.heap.size, 0, none⟩) 1 1, ?_, ?_, ?_, ?_, ?_, .inr ⟨w.heap.size, 0, 1, rfl, by simp; omega, Nat.le_refl _, fun j x hx => ?_⟩⟩
    iterate 5 (rw [cell_of_row _ _ _ _ _ _ hr]; rfl)
    match j, hx with
    | 0, hx => cases hx; rw [cell_of_row _ _ _ _ _ _ h0]; rfl
set_option maxRecDepth 100000 in
set_option maxHeartbeats 8000000 in
theorem awake12_any (w : World) (hst : Steps w) (het : Ety w) :
    Calls Tryz.prog 10 #[] w fun e w' => e = .returned (.bool true) ∧ Below w.heap.size w w' := by
  have k0 : Below w.heap.size w ((w.alloc (.cells #[.int .i64 0] 3)).alloc (.cells #[.int .i64 0, .int .i64 0, .slice none 0 0, .int .i64 0, .int .i64 0, .int .i64 0, .int .i64 1, .slice (some ⟨w.heap.size, 0, none⟩) 1 1, .int .i64 0, .int .i64 0] 68)) := ((Below.refl _ w).alloc (Nat.le_refl _) _).alloc (by simp) _
  have HM := hide (lmade_any _ [g0, g1] _ (awGvs w) (by decide))
  rw [made01] at HM
  have HX := hide (And.intro hst (And.intro het k0))
  clear hst het k0
  go_enter Tryz.func10, Tryz.ntmps10
  go_upto_region 2 with (go_at_call 7; refine HM.out.mono ?_; rintro e w1 ⟨v1, rfl, h1, k1⟩; have H1 := hide (And.intro h1 (HX.out.2.2.trans (k1.mono HX.out.2.2.size))); clear h1 k1)
  obtain ⟨lb, lc, hv1⟩ : ∃ lb lc, v1 = .slice (some ⟨lb, 0, none⟩) 2 lc := by
    rcases H1.out.1.2 with ⟨_, e⟩ | ⟨g, c, _, e, _⟩
    · cases e
    · exact ⟨g, c, e⟩
  subst hv1
  have hlc : Hid ((2 : Int) ≤ lc ∧ lb < w1.heap.size ∧ w1.cell? ⟨lb, 0, none⟩ = some (.string n0.bytesB) ∧ w1.cell? ⟨lb, 1, none⟩ = some (.string n1.bytesB)) := by
    have h := H1.out.1
    have e0 := h.cells (g := lb) rfl 0 (.string n0.bytesB) rfl
    have e1 := h.cells (g := lb) rfl 1 (.string n1.bytesB) rfl
    rw [add_at] at e0 e1
    refine ⟨?_, (h.lt lb rfl).2, e0, e1⟩
    rcases h.2 with ⟨_, e⟩ | ⟨g, c, _, e, _, _, h4, _⟩
    · cases e
    · simp only [Value.slice.injEq] at e
      have h4' : 2 ≤ c := h4
      rw [e.2.2]
      omega
  have HRg : Hid (∀ w', Below w.heap.size w w' → Calls Tryz.prog 9 #[.string ⟨#[115, 101, 101, 100]⟩, .int .i64 4] w' fun e w2 => ∃ v, e = .returned v ∧ Mac.RingAt w2 v (Mac.keysOf seedB 4) ∧ Below w'.heap.size w' w2) := fun w' k => ring11_any seedB 4 w' (by decide) (by decide) (HX.out.1.below k HX.out.1.pos)
  have hks : ∀ k ∈ Mac.keysOf seedB 4, k.size ≤ 1000000 := fun k hk => by
    obtain ⟨i, _, rfl⟩ := List.mem_map.1 hk
    rw [Mac.keyOf_size]
    decide
  go_upto_region 3 with (first
    | (go_at_call 9; refine (HRg.out _ H1.out.2).mono ?_; rintro e w2 ⟨rv, rfl, ⟨rb, sv, rfl, hrc, hrr⟩, k2⟩; have H2 := hide (And.intro (H1.out.2.trans (k2.mono H1.out.2.size)) k2); clear k2)
    | (go_at_call 8; refine (newDag_any rb sv (Mac.keysOf seedB 4) w2 hrc hrr).mono ?_; rintro e w3 ⟨F, sl, rfl, hD, k3⟩; have H3 := hide (And.intro hD (And.intro (H2.out.1.trans (k3.mono H2.out.1.size)) (H2.out.2.trans (k3.mono H2.out.2.size)))); clear hD k3 hrc hrr))
  have hb2 : w1.heap.size ≤ w2.heap.size := H2.out.2.size
  have hb1 : w.heap.size ≤ w2.heap.size := H2.out.1.size
  have HS3 := hide (And.intro (HX.out.1.below H3.out.2.1 HX.out.1.pos) (HX.out.2.1.below H3.out.2.1 HX.out.2.1.pos))
  have hgb : 0 < w2.heap.size := Nat.lt_of_lt_of_le HX.out.2.1.pos hb1
  have hA1 : n1.bytesB.size ≤ 281474976710656 := by have := good1.size; have h2 := good1.tag; rw [← bytesB_eq, ByteArray.size_append]; omega
  have hA0 : n0.bytesB.size ≤ 281474976710656 := by have := good0.size; have h2 := good0.tag; rw [← bytesB_eq, ByteArray.size_append]; omega
  have HAd := hide (add12_any n1.bytesB w3 H3.out.1 hks hA1 HS3.out.1 HS3.out.2 hgb (by decide))
  rw [add1 (by decide)] at HAd
  dsimp only at HAd
  have c31 : w3.cell? ⟨lb, 1, none⟩ = some (.string n1.bytesB) := (H3.out.2.2.cell (p := ⟨lb, 1, none⟩) hlc.out.2.1).trans hlc.out.2.2.2
  have hl2 := hlc.out.1
  go_upto_region 6 with (go_at_call 12; refine HAd.out.mono ?_; rintro e w4 ⟨v4, rfl, HQ⟩)
  obtain ⟨F4, sl4, Q4⟩ := HQ.out
  have Q4 := hide Q4
  have k4 := Q4.out.tn.below H3.out.1.r.hasBase H3.out.1.r.size
  have B4 := hide (And.intro (H3.out.2.1.trans (k4.mono hb1)) (H3.out.2.2.trans (k4.mono hb2)))
  have HAe := hide (add12_any n0.bytesB w4 Q4.out.d hks hA0 (HX.out.1.below B4.out.1 HX.out.1.pos) (HX.out.2.1.below B4.out.1 HX.out.2.1.pos) hgb (by show ([] : Ns).length + [(h1, Go.Dag.n1)].length ≤ 90000; decide))
  rw [Q4.out.b, add0 (by decide)] at HAe
  dsimp only at HAe
  have c40 : w4.cell? ⟨lb, 0, none⟩ = some (.string n0.bytesB) := (B4.out.2.cell (p := ⟨lb, 0, none⟩) hlc.out.2.1).trans hlc.out.2.2.1
  clear HAd c31 HQ k4 HM
  go_upto_region 7 with (go_at_call 12; refine HAe.out.mono ?_; rintro e w5 ⟨v5, rfl, HQ5⟩)
  obtain ⟨F5, sl5, Q5⟩ := HQ5.out
  have Q5 := hide Q5
  have k5 := Q5.out.tn.below Q4.out.d.r.hasBase Q4.out.d.r.size
  have B5 := hide (B4.out.1.trans (k5.mono hb1))
  have hbb : F5.b = F.b := Q5.out.b.trans Q4.out.b
  obtain ⟨va, vc, hv5⟩ : ∃ va vc, v5 = .slice va 2 vc := own_slice Q5.out.own
  subst hv5
  have HLn := hide (lenDag_any w5 Q5.out.d.r)
  have HHd := hide (heads_any w5 Q5.out.d.r (by show (hds [(h0, n0), (h1, Go.Dag.n1)]).length ≤ 100000; rw [hds01]; decide))
  have hraw : (Dg.raw ⟨[(h0, n0), (h1, Go.Dag.n1)], []⟩).H.length = 1 := hds01
  rw [hraw] at HHd
  rw [hbb] at HLn HHd
  have hnl : (Dg.raw ⟨[(h0, n0), (h1, Go.Dag.n1)], []⟩).N.length = 2 := rfl
  rw [hnl] at HLn
  clear HQ5 k5 HAe c40 hraw hnl
  go_wp2_with (first
    | (go_at_call 23; refine HLn.out.mono ?_; rintro e w6 ⟨rfl, hw6⟩; subst hw6)
    | (go_at_call 24; refine HHd.out.mono ?_; rintro e w7 ⟨v7, rfl, h7, k7⟩; obtain ⟨ya, yc, rfl⟩ := own_slice h7; have H7 := hide k7; clear h7 k7))
  go_ret
  exact ⟨rfl, B5.out.trans (H7.out.mono B5.out.size)⟩
end Go.Proofs.YtkbboddibgfjbaaGreatDoor
