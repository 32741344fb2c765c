/- Contracts: an operation off a reader, the document's: one kind. -/
import Derived.Test.YtdcgemaaohldmaaOpRefTake0
namespace Go.Proofs.Ytdcgemaaohldmaa
open Go.RowKit Go.Wire Go.Stamp Go.Opn Go.Sort
set_option maxRecDepth 100000 in
set_option maxHeartbeats 4000000 in
theorem rtake_1 (q r1 r2 r3 r4 r5 r6 : St) (d : Bool) (p : Nat) (n : ByteArray) (t : Tm) (th : Nat) (w : World)
    (HN1 : Hid (∀ w, Calls Try.prog 15 #[q.v, .int .i64 1] w fun e w' => e = .returned (.tuple #[r1.v, .int .u64 1]) ∧ Below w.heap.size w w'))
    (HST : Hid (∀ w, Calls Try.prog 16 #[r1.v] w fun e w' => e = .returned (.tuple #[r2.v, t.v]) ∧ Below w.heap.size w w'))
    (HN8 : Hid (∀ w, Calls Try.prog 15 #[r2.v, .int .i64 8] w fun e w' => e = .returned (.tuple #[r3.v, .int .u64 th]) ∧ Below w.heap.size w w'))
    (HBo : Hid (∀ w, Calls Try.prog 17 #[r3.v] w fun e w' => e = .returned (.tuple #[r4.v, .bool d]) ∧ Below w.heap.size w w'))
    (HP8 : Hid (∀ w, Calls Try.prog 15 #[r4.v, .int .i64 8] w fun e w' => e = .returned (.tuple #[r5.v, .int .u64 p]) ∧ Below w.heap.size w w'))
    (HTx : Hid (∀ w, Calls Try.prog 18 #[r5.v, .int .i64 32] w fun e w' => e = .returned (.tuple #[r6.v, .string n]) ∧ Below w.heap.size w w'))
    (e0 : Int) (HC : Hid (∀ w, Calls Try.prog 21 #[(Ob.mk 1 t th p n d ⟨#[]⟩ 0).v] w fun e w' => e = .returned (.int .i64 e0) ∧ Below w.heap.size w w')) :
    Calls Try.prog 6 #[q.v] w fun e w' => e = .returned (.tuple #[(r6.fail e0).v, (if (r6.fail e0).err = 0 then Ob.mk 1 t th p n d ⟨#[]⟩ 0 else Ob.zero).v]) ∧ Below w.heap.size w w' := by
  obtain ⟨c, k⟩ := t
  unfold Tm.v at HST
  unfold Ob.v at HC
  unfold St.v at HN1 HST HN8 HBo HP8 HTx
  dsimp only at HST HC ⊢
  by_cases hr : r6.err = 0
  · have hs : r6 = ⟨r6.s, r6.pos, 0⟩ := by rw [← hr]
    generalize r6.s = rs at hs
    generalize r6.pos = rp at hs
    subst hs
    clear hr
    by_cases he : e0 = 0
    · subst he
      rw [fail_0, if_pos rfl]
      unfold Ob.v St.v
      dsimp only
      go_enter Try.func6, Try.ntmps6
      go_upto_region 18 with (first
        | (go_at_call_of 15 (Value.int IntKind.i64 1); refine (HN1.out _).mono ?_; rintro e w1 ⟨rfl, k1⟩; have I : Hid (RtAt 31 34 w.heap.size w q (Ob.zero) w1) := RtAt.start k1; clear k1; obtain ⟨a0, a1, a2, a3, a4, a5⟩ := cells3 I.out.b0; obtain ⟨c0, c1, c2, c3, c4, c5, c6, c7, c8⟩ := cells9 I.out.b3; have f0 := frozen9 I.out.b3 0)
        | (go_at_call 16; refine (HST.out _).mono ?_; clear HST; rintro e w2 ⟨rfl, k2⟩; replace I : Hid (RtAt 31 34 w.heap.size w r1 (Ob.mk 1 ⟨0, 0⟩ 0 0 ⟨#[]⟩ false ⟨#[]⟩ 0) w2) := ((I.out.setR r1).setO 0 (.int .i64 1) (Ob.mk 1 ⟨0, 0⟩ 0 0 ⟨#[]⟩ false ⟨#[]⟩ 0) (by rw [heap_setCell_same _ _ _ _ _ _ ((I.out.setR r1)).b3]; rfl)).step k2; clear a0 a1 a2 a3 a4 a5 c0 c1 c2 c3 c4 c5 c6 c7 c8; clear f0; clear k2; obtain ⟨a0, a1, a2, a3, a4, a5⟩ := cells3 I.out.b0; obtain ⟨c0, c1, c2, c3, c4, c5, c6, c7, c8⟩ := cells9 I.out.b3; have f1 := frozen9 I.out.b3 1; have f2 := frozen9 I.out.b3 2)
        | (go_at_call_of 15 (Value.int IntKind.i64 8); refine (HN8.out _).mono ?_; clear HN8; rintro e w3 ⟨rfl, k3⟩; replace I : Hid (RtAt 31 34 w.heap.size w r2 (Ob.mk 1 ⟨c, k⟩ 0 0 ⟨#[]⟩ false ⟨#[]⟩ 0) w3) := ((I.out.setR r2).setTm c k).step k3; clear a0 a1 a2 a3 a4 a5 c0 c1 c2 c3 c4 c5 c6 c7 c8; clear f1; clear f2; clear k3; obtain ⟨a0, a1, a2, a3, a4, a5⟩ := cells3 I.out.b0; obtain ⟨c0, c1, c2, c3, c4, c5, c6, c7, c8⟩ := cells9 I.out.b3; have f3 := frozen9 I.out.b3 3)
        | (go_at_call 17; refine (HBo.out _).mono ?_; clear HBo; rintro e w4 ⟨rfl, k4⟩; replace I : Hid (RtAt 31 34 w.heap.size w r3 (Ob.mk 1 ⟨c, k⟩ th 0 ⟨#[]⟩ false ⟨#[]⟩ 0) w4) := ((I.out.setR r3).setO 3 (.int .u64 th) (Ob.mk 1 ⟨c, k⟩ th 0 ⟨#[]⟩ false ⟨#[]⟩ 0) (by rw [heap_setCell_same _ _ _ _ _ _ ((I.out.setR r3)).b3]; rfl)).step k4; clear a0 a1 a2 a3 a4 a5 c0 c1 c2 c3 c4 c5 c6 c7 c8; clear f3; clear k4; obtain ⟨a0, a1, a2, a3, a4, a5⟩ := cells3 I.out.b0; obtain ⟨c0, c1, c2, c3, c4, c5, c6, c7, c8⟩ := cells9 I.out.b3; have f6 := frozen9 I.out.b3 6)
        | (go_at_call_of 15 (Value.int IntKind.i64 8); refine (HP8.out _).mono ?_; clear HP8; rintro e w5 ⟨rfl, k5⟩; replace I : Hid (RtAt 31 34 w.heap.size w r4 (Ob.mk 1 ⟨c, k⟩ th 0 ⟨#[]⟩ d ⟨#[]⟩ 0) w5) := ((I.out.setR r4).setO 6 (.bool d) (Ob.mk 1 ⟨c, k⟩ th 0 ⟨#[]⟩ d ⟨#[]⟩ 0) (by rw [heap_setCell_same _ _ _ _ _ _ ((I.out.setR r4)).b3]; rfl)).step k5; clear a0 a1 a2 a3 a4 a5 c0 c1 c2 c3 c4 c5 c6 c7 c8; clear f6; clear k5; obtain ⟨a0, a1, a2, a3, a4, a5⟩ := cells3 I.out.b0; obtain ⟨c0, c1, c2, c3, c4, c5, c6, c7, c8⟩ := cells9 I.out.b3; have f4 := frozen9 I.out.b3 4)
        | (go_at_call 18; refine (HTx.out _).mono ?_; clear HTx; rintro e w6 ⟨rfl, k6⟩; replace I : Hid (RtAt 31 34 w.heap.size w r5 (Ob.mk 1 ⟨c, k⟩ th p ⟨#[]⟩ d ⟨#[]⟩ 0) w6) := ((I.out.setR r5).setO 4 (.int .u64 p) (Ob.mk 1 ⟨c, k⟩ th p ⟨#[]⟩ d ⟨#[]⟩ 0) (by rw [heap_setCell_same _ _ _ _ _ _ ((I.out.setR r5)).b3]; rfl)).step k6; clear a0 a1 a2 a3 a4 a5 c0 c1 c2 c3 c4 c5 c6 c7 c8; clear f4; clear k6; obtain ⟨a0, a1, a2, a3, a4, a5⟩ := cells3 I.out.b0; obtain ⟨c0, c1, c2, c3, c4, c5, c6, c7, c8⟩ := cells9 I.out.b3; have f5 := frozen9 I.out.b3 5)
        | (go_at_call 21; refine (HC.out _).mono ?_; rintro e w7 ⟨rfl, k7⟩; replace I : Hid (RtAt 31 34 w.heap.size w ⟨rs, rp, 0⟩ (Ob.mk 1 ⟨c, k⟩ th p n d ⟨#[]⟩ 0) w7) := ((I.out.setR ⟨rs, rp, 0⟩).setO 5 (.string n) (Ob.mk 1 ⟨c, k⟩ th p n d ⟨#[]⟩ 0) (by rw [heap_setCell_same _ _ _ _ _ _ ((I.out.setR ⟨rs, rp, 0⟩)).b3]; rfl)).step k7; clear a0 a1 a2 a3 a4 a5 c0 c1 c2 c3 c4 c5 c6 c7 c8; clear f5; clear k7; obtain ⟨a0, a1, a2, a3, a4, a5⟩ := cells3 I.out.b0; obtain ⟨c0, c1, c2, c3, c4, c5, c6, c7, c8⟩ := cells9 I.out.b3))
      obtain ⟨W, hW⟩ : ∃ W, W = w7.setCell ⟨w.heap.size, 2, none⟩ (.int .i64 0) := ⟨_, rfl⟩
      rw [← hW]
      replace I : Hid (RtAt 31 34 w.heap.size w ⟨rs, rp, 0⟩ (Ob.mk 1 ⟨c, k⟩ th p n d ⟨#[]⟩ 0) W) := by rw [hW]; exact I.out.setErr 0
      clear hW a0 a1 a2 a3 a4 a5 c0 c1 c2 c3 c4 c5 c6 c7 c8
      obtain ⟨a0, a1, a2, a3, a4, a5⟩ := cells3 I.out.b0
      obtain ⟨b0, b1, b2, b3, b4, b5⟩ := cells3 I.out.b1
      obtain ⟨c0, c1, c2, c3, c4, c5, c6, c7, c8⟩ := cells9 I.out.b3
      obtain ⟨d0, d1, d2, d3, d4, d5, d6, d7, d8⟩ := cells9 I.out.b2
      have f0 := frozen9 I.out.b2 0
      have f1 := frozen9 I.out.b2 1
      have f2 := frozen9 I.out.b2 2
      have f3 := frozen9 I.out.b2 3
      have f4 := frozen9 I.out.b2 4
      have f5 := frozen9 I.out.b2 5
      have f6 := frozen9 I.out.b2 6
      have f7 := frozen9 I.out.b2 7
      have f8 := frozen9 I.out.b2 8
      go_region
      go_wp2

      obtain ⟨z1, z2, z3⟩ := I.out.laid ⟨rs, rp, 0⟩ (Ob.mk 1 ⟨c, k⟩ th p n d ⟨#[]⟩ 0) rfl
      exact bodyPost_ret (results_cells2 Try.results6 _ _ _ _ _ (0, 0) _ rfl z1 Try.underlying31 rfl infoRef _ _ _ (0, 0) _ rfl z2 Try.underlying34 rfl infoROp) rfl ⟨rfl, z3⟩
    · have e1 : (St.mk rs rp 0).fail e0 = ⟨rs, rp, e0⟩ := by unfold St.fail; rw [if_pos rfl]
      rw [e1, if_neg he]
      have g1 : (e0 == 0) = false := beq_eq_false_iff_ne.2 he
      clear he e1
      unfold Ob.v St.v Ob.zero
      dsimp only
      go_enter Try.func6, Try.ntmps6
      go_upto_region 17 with (first
        | (go_at_call_of 15 (Value.int IntKind.i64 1); refine (HN1.out _).mono ?_; rintro e w1 ⟨rfl, k1⟩; have I : Hid (RtAt 31 34 w.heap.size w q (Ob.zero) w1) := RtAt.start k1; clear k1; obtain ⟨a0, a1, a2, a3, a4, a5⟩ := cells3 I.out.b0; obtain ⟨c0, c1, c2, c3, c4, c5, c6, c7, c8⟩ := cells9 I.out.b3; have f0 := frozen9 I.out.b3 0)
        | (go_at_call 16; refine (HST.out _).mono ?_; clear HST; rintro e w2 ⟨rfl, k2⟩; replace I : Hid (RtAt 31 34 w.heap.size w r1 (Ob.mk 1 ⟨0, 0⟩ 0 0 ⟨#[]⟩ false ⟨#[]⟩ 0) w2) := ((I.out.setR r1).setO 0 (.int .i64 1) (Ob.mk 1 ⟨0, 0⟩ 0 0 ⟨#[]⟩ false ⟨#[]⟩ 0) (by rw [heap_setCell_same _ _ _ _ _ _ ((I.out.setR r1)).b3]; rfl)).step k2; clear a0 a1 a2 a3 a4 a5 c0 c1 c2 c3 c4 c5 c6 c7 c8; clear f0; clear k2; obtain ⟨a0, a1, a2, a3, a4, a5⟩ := cells3 I.out.b0; obtain ⟨c0, c1, c2, c3, c4, c5, c6, c7, c8⟩ := cells9 I.out.b3; have f1 := frozen9 I.out.b3 1; have f2 := frozen9 I.out.b3 2)
        | (go_at_call_of 15 (Value.int IntKind.i64 8); refine (HN8.out _).mono ?_; clear HN8; rintro e w3 ⟨rfl, k3⟩; replace I : Hid (RtAt 31 34 w.heap.size w r2 (Ob.mk 1 ⟨c, k⟩ 0 0 ⟨#[]⟩ false ⟨#[]⟩ 0) w3) := ((I.out.setR r2).setTm c k).step k3; clear a0 a1 a2 a3 a4 a5 c0 c1 c2 c3 c4 c5 c6 c7 c8; clear f1; clear f2; clear k3; obtain ⟨a0, a1, a2, a3, a4, a5⟩ := cells3 I.out.b0; obtain ⟨c0, c1, c2, c3, c4, c5, c6, c7, c8⟩ := cells9 I.out.b3; have f3 := frozen9 I.out.b3 3)
        | (go_at_call 17; refine (HBo.out _).mono ?_; clear HBo; rintro e w4 ⟨rfl, k4⟩; replace I : Hid (RtAt 31 34 w.heap.size w r3 (Ob.mk 1 ⟨c, k⟩ th 0 ⟨#[]⟩ false ⟨#[]⟩ 0) w4) := ((I.out.setR r3).setO 3 (.int .u64 th) (Ob.mk 1 ⟨c, k⟩ th 0 ⟨#[]⟩ false ⟨#[]⟩ 0) (by rw [heap_setCell_same _ _ _ _ _ _ ((I.out.setR r3)).b3]; rfl)).step k4; clear a0 a1 a2 a3 a4 a5 c0 c1 c2 c3 c4 c5 c6 c7 c8; clear f3; clear k4; obtain ⟨a0, a1, a2, a3, a4, a5⟩ := cells3 I.out.b0; obtain ⟨c0, c1, c2, c3, c4, c5, c6, c7, c8⟩ := cells9 I.out.b3; have f6 := frozen9 I.out.b3 6)
        | (go_at_call_of 15 (Value.int IntKind.i64 8); refine (HP8.out _).mono ?_; clear HP8; rintro e w5 ⟨rfl, k5⟩; replace I : Hid (RtAt 31 34 w.heap.size w r4 (Ob.mk 1 ⟨c, k⟩ th 0 ⟨#[]⟩ d ⟨#[]⟩ 0) w5) := ((I.out.setR r4).setO 6 (.bool d) (Ob.mk 1 ⟨c, k⟩ th 0 ⟨#[]⟩ d ⟨#[]⟩ 0) (by rw [heap_setCell_same _ _ _ _ _ _ ((I.out.setR r4)).b3]; rfl)).step k5; clear a0 a1 a2 a3 a4 a5 c0 c1 c2 c3 c4 c5 c6 c7 c8; clear f6; clear k5; obtain ⟨a0, a1, a2, a3, a4, a5⟩ := cells3 I.out.b0; obtain ⟨c0, c1, c2, c3, c4, c5, c6, c7, c8⟩ := cells9 I.out.b3; have f4 := frozen9 I.out.b3 4)
        | (go_at_call 18; refine (HTx.out _).mono ?_; clear HTx; rintro e w6 ⟨rfl, k6⟩; replace I : Hid (RtAt 31 34 w.heap.size w r5 (Ob.mk 1 ⟨c, k⟩ th p ⟨#[]⟩ d ⟨#[]⟩ 0) w6) := ((I.out.setR r5).setO 4 (.int .u64 p) (Ob.mk 1 ⟨c, k⟩ th p ⟨#[]⟩ d ⟨#[]⟩ 0) (by rw [heap_setCell_same _ _ _ _ _ _ ((I.out.setR r5)).b3]; rfl)).step k6; clear a0 a1 a2 a3 a4 a5 c0 c1 c2 c3 c4 c5 c6 c7 c8; clear f4; clear k6; obtain ⟨a0, a1, a2, a3, a4, a5⟩ := cells3 I.out.b0; obtain ⟨c0, c1, c2, c3, c4, c5, c6, c7, c8⟩ := cells9 I.out.b3; have f5 := frozen9 I.out.b3 5)
        | (go_at_call 21; refine (HC.out _).mono ?_; rintro e w7 ⟨rfl, k7⟩; replace I : Hid (RtAt 31 34 w.heap.size w ⟨rs, rp, 0⟩ (Ob.mk 1 ⟨c, k⟩ th p n d ⟨#[]⟩ 0) w7) := ((I.out.setR ⟨rs, rp, 0⟩).setO 5 (.string n) (Ob.mk 1 ⟨c, k⟩ th p n d ⟨#[]⟩ 0) (by rw [heap_setCell_same _ _ _ _ _ _ ((I.out.setR ⟨rs, rp, 0⟩)).b3]; rfl)).step k7; clear a0 a1 a2 a3 a4 a5 c0 c1 c2 c3 c4 c5 c6 c7 c8; clear f5; clear k7; obtain ⟨a0, a1, a2, a3, a4, a5⟩ := cells3 I.out.b0; obtain ⟨c0, c1, c2, c3, c4, c5, c6, c7, c8⟩ := cells9 I.out.b3))
      obtain ⟨W, hW⟩ : ∃ W, W = w7.setCell ⟨w.heap.size, 2, none⟩ (.int .i64 e0) := ⟨_, rfl⟩
      rw [← hW]
      have HZ : Hid (RtAt 31 34 w.heap.size w ⟨rs, rp, e0⟩ (Ob.mk 1 ⟨c, k⟩ th p n d ⟨#[]⟩ 0) W) := by rw [hW]; exact I.out.setErr e0
      clear hW a0 a1 a2 a3 a4 a5 c0 c1 c2 c3 c4 c5 c6 c7 c8 I
      obtain ⟨a0, a1, a2, a3, a4, a5⟩ := cells3 HZ.out.b0
      go_wp2_with (first
        | (refine wpList_store_row rfl 31 _ _ rfl (w.heap.size + 1) _ rfl rfl 31 _ HZ.out.b1 infoRef rfl (by simp [Value.oneCell']) ?_)
        | (refine wpList_store_row rfl 34 _ _ rfl (w.heap.size + 2) _ rfl rfl 34 _ ((setRow_other _ _ _ _ (by omega)).trans HZ.out.b2) infoROp rfl (by simp [Value.oneCell']) ?_))
      obtain ⟨z1, z2, z3⟩ := HZ.out.done (rcs ⟨rs, rp, e0⟩) Ob.zero.cs
      exact bodyPost_ret (results_cells2 Try.results6 _ _ _ _ _ (0, 0) _ rfl z1 Try.underlying31 rfl infoRef _ _ _ (0, 0) _ rfl z2 Try.underlying34 rfl infoROp) rfl ⟨rfl, z3⟩
  · have e1 : r6.fail e0 = r6 := by unfold St.fail; rw [if_neg hr]
    rw [e1, if_neg hr]
    have g1 : (r6.err == 0) = false := beq_eq_false_iff_ne.2 hr
    clear hr e1
    unfold Ob.v St.v Ob.zero
    dsimp only
    go_enter Try.func6, Try.ntmps6
    go_upto_region 17 with (first
      | (go_at_call_of 15 (Value.int IntKind.i64 1); refine (HN1.out _).mono ?_; rintro e w1 ⟨rfl, k1⟩; have I : Hid (RtAt 31 34 w.heap.size w q (Ob.zero) w1) := RtAt.start k1; clear k1; obtain ⟨a0, a1, a2, a3, a4, a5⟩ := cells3 I.out.b0; obtain ⟨c0, c1, c2, c3, c4, c5, c6, c7, c8⟩ := cells9 I.out.b3; have f0 := frozen9 I.out.b3 0)
      | (go_at_call 16; refine (HST.out _).mono ?_; clear HST; rintro e w2 ⟨rfl, k2⟩; replace I : Hid (RtAt 31 34 w.heap.size w r1 (Ob.mk 1 ⟨0, 0⟩ 0 0 ⟨#[]⟩ false ⟨#[]⟩ 0) w2) := ((I.out.setR r1).setO 0 (.int .i64 1) (Ob.mk 1 ⟨0, 0⟩ 0 0 ⟨#[]⟩ false ⟨#[]⟩ 0) (by rw [heap_setCell_same _ _ _ _ _ _ ((I.out.setR r1)).b3]; rfl)).step k2; clear a0 a1 a2 a3 a4 a5 c0 c1 c2 c3 c4 c5 c6 c7 c8; clear f0; clear k2; obtain ⟨a0, a1, a2, a3, a4, a5⟩ := cells3 I.out.b0; obtain ⟨c0, c1, c2, c3, c4, c5, c6, c7, c8⟩ := cells9 I.out.b3; have f1 := frozen9 I.out.b3 1; have f2 := frozen9 I.out.b3 2)
      | (go_at_call_of 15 (Value.int IntKind.i64 8); refine (HN8.out _).mono ?_; clear HN8; rintro e w3 ⟨rfl, k3⟩; replace I : Hid (RtAt 31 34 w.heap.size w r2 (Ob.mk 1 ⟨c, k⟩ 0 0 ⟨#[]⟩ false ⟨#[]⟩ 0) w3) := ((I.out.setR r2).setTm c k).step k3; clear a0 a1 a2 a3 a4 a5 c0 c1 c2 c3 c4 c5 c6 c7 c8; clear f1; clear f2; clear k3; obtain ⟨a0, a1, a2, a3, a4, a5⟩ := cells3 I.out.b0; obtain ⟨c0, c1, c2, c3, c4, c5, c6, c7, c8⟩ := cells9 I.out.b3; have f3 := frozen9 I.out.b3 3)
      | (go_at_call 17; refine (HBo.out _).mono ?_; clear HBo; rintro e w4 ⟨rfl, k4⟩; replace I : Hid (RtAt 31 34 w.heap.size w r3 (Ob.mk 1 ⟨c, k⟩ th 0 ⟨#[]⟩ false ⟨#[]⟩ 0) w4) := ((I.out.setR r3).setO 3 (.int .u64 th) (Ob.mk 1 ⟨c, k⟩ th 0 ⟨#[]⟩ false ⟨#[]⟩ 0) (by rw [heap_setCell_same _ _ _ _ _ _ ((I.out.setR r3)).b3]; rfl)).step k4; clear a0 a1 a2 a3 a4 a5 c0 c1 c2 c3 c4 c5 c6 c7 c8; clear f3; clear k4; obtain ⟨a0, a1, a2, a3, a4, a5⟩ := cells3 I.out.b0; obtain ⟨c0, c1, c2, c3, c4, c5, c6, c7, c8⟩ := cells9 I.out.b3; have f6 := frozen9 I.out.b3 6)
      | (go_at_call_of 15 (Value.int IntKind.i64 8); refine (HP8.out _).mono ?_; clear HP8; rintro e w5 ⟨rfl, k5⟩; replace I : Hid (RtAt 31 34 w.heap.size w r4 (Ob.mk 1 ⟨c, k⟩ th 0 ⟨#[]⟩ d ⟨#[]⟩ 0) w5) := ((I.out.setR r4).setO 6 (.bool d) (Ob.mk 1 ⟨c, k⟩ th 0 ⟨#[]⟩ d ⟨#[]⟩ 0) (by rw [heap_setCell_same _ _ _ _ _ _ ((I.out.setR r4)).b3]; rfl)).step k5; clear a0 a1 a2 a3 a4 a5 c0 c1 c2 c3 c4 c5 c6 c7 c8; clear f6; clear k5; obtain ⟨a0, a1, a2, a3, a4, a5⟩ := cells3 I.out.b0; obtain ⟨c0, c1, c2, c3, c4, c5, c6, c7, c8⟩ := cells9 I.out.b3; have f4 := frozen9 I.out.b3 4)
      | (go_at_call 18; refine (HTx.out _).mono ?_; clear HTx; rintro e w6 ⟨rfl, k6⟩; replace I : Hid (RtAt 31 34 w.heap.size w r5 (Ob.mk 1 ⟨c, k⟩ th p ⟨#[]⟩ d ⟨#[]⟩ 0) w6) := ((I.out.setR r5).setO 4 (.int .u64 p) (Ob.mk 1 ⟨c, k⟩ th p ⟨#[]⟩ d ⟨#[]⟩ 0) (by rw [heap_setCell_same _ _ _ _ _ _ ((I.out.setR r5)).b3]; rfl)).step k6; clear a0 a1 a2 a3 a4 a5 c0 c1 c2 c3 c4 c5 c6 c7 c8; clear f4; clear k6; obtain ⟨a0, a1, a2, a3, a4, a5⟩ := cells3 I.out.b0; obtain ⟨c0, c1, c2, c3, c4, c5, c6, c7, c8⟩ := cells9 I.out.b3; have f5 := frozen9 I.out.b3 5))
    obtain ⟨W, hW⟩ : ∃ W, W = (((w6.setCell ⟨w.heap.size, 0, none⟩ (.string r6.s)).setCell ⟨w.heap.size, 1, none⟩ (.int .i64 r6.pos)).setCell ⟨w.heap.size, 2, none⟩ (.int .i64 r6.err)).setCell ⟨w.heap.size + 1 + 1 + 1, 5, none⟩ (.string n) := ⟨_, rfl⟩
    rw [← hW]
    have HZ : Hid (RtAt 31 34 w.heap.size w r6 (Ob.mk 1 ⟨c, k⟩ th p n d ⟨#[]⟩ 0) W) := by rw [hW]; exact ((I.out.setR r6).setO 5 (.string n) (Ob.mk 1 ⟨c, k⟩ th p n d ⟨#[]⟩ 0) (by rw [heap_setCell_same _ _ _ _ _ _ ((I.out.setR r6)).b3]; rfl))
    clear hW a0 a1 a2 a3 a4 a5 c0 c1 c2 c3 c4 c5 c6 c7 c8 f5 I
    obtain ⟨a0, a1, a2, a3, a4, a5⟩ := cells3 HZ.out.b0
    go_wp2_with (first
      | (refine wpList_store_row rfl 31 _ _ rfl (w.heap.size + 1) _ rfl rfl 31 _ HZ.out.b1 infoRef rfl (by simp [Value.oneCell']) ?_)
      | (refine wpList_store_row rfl 34 _ _ rfl (w.heap.size + 2) _ rfl rfl 34 _ ((setRow_other _ _ _ _ (by omega)).trans HZ.out.b2) infoROp rfl (by simp [Value.oneCell']) ?_))
    obtain ⟨z1, z2, z3⟩ := HZ.out.done (rcs r6) Ob.zero.cs
    exact bodyPost_ret (results_cells2 Try.results6 _ _ _ _ _ (0, 0) _ rfl z1 Try.underlying31 rfl infoRef _ _ _ (0, 0) _ rfl z2 Try.underlying34 rfl infoROp) rfl ⟨rfl, z3⟩
end Go.Proofs.Ytdcgemaaohldmaa
