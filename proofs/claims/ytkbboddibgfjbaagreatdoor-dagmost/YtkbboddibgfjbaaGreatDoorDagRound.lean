/- Contract: once over those that wait. -/
import Derived.Test.YtkbboddibgfjbaaGreatDoorDagRoundMem
namespace Go.Dag
open Go.RowKit Go.Nod Go.MapFun
theorem lk_mid {A B : Ns} {x : ByteArray × Nd} (h : ((A ++ x :: B).map (·.1)).Nodup) : lk (A ++ x :: B) x.1 = some x.2 := lk_of_mem h (by simp)
theorem cut_mid {A B : Ns} {x : ByteArray × Nd} (h : ((A ++ x :: B).map (·.1)).Nodup) : cut (A ++ x :: B) x.1 = A ++ B := by
  rw [List.map_append, List.map_cons, List.nodup_append] at h
  obtain ⟨_, h2, h3⟩ := h
  rw [List.nodup_cons] at h2
  unfold cut
  rw [List.filter_append, List.filter_cons_of_neg (by simp)]
  congr 1
  · refine List.filter_eq_self.2 fun y hy => ?_
    have := h3 y.1 (List.mem_map.2 ⟨y, hy, rfl⟩) x.1 (by simp)
    simpa using this
  · refine List.filter_eq_self.2 fun y hy => ?_
    have : y.1 ≠ x.1 := fun e => h2.1 (e ▸ List.mem_map.2 ⟨y, hy, rfl⟩)
    simpa using this
/-- What is held where i of those that wait were looked at. -/
def rwAt (T W : Ns) (i : Nat) : Rw := ⟨(rnd T (W.take i)).1, (rnd T (W.take i)).1.map (·.1), hds (rnd T (W.take i)).1, (rnd T (W.take i)).2.1 ++ W.drop i, W.map (·.1)⟩
theorem hds_none {T : Ns} {h : ByteArray} (hn : lk T h = none) : lk (hds T) h = none := lk_none.2 fun y hy e => by
  obtain ⟨x, hx, e1, _⟩ := hds_in T hy
  exact lk_none.1 hn x hx (e1.trans e)
theorem step_wait {T S : Ns} {O : List ByteArray} {x : ByteArray × Nd} (h : unfit T x.2 = 123) : step (T, S, O) x = (T, S ++ [x], O) := if_pos h
theorem step_take {T S : Ns} {O : List ByteArray} {x : ByteArray × Nd} (h : unfit T x.2 = 0) : step (T, S, O) x = (T ++ [x], S, O ++ [x.1]) := by
  unfold step
  rw [if_neg (by dsimp only; omega), if_pos h]
theorem step_go {T S : Ns} {O : List ByteArray} {x : ByteArray × Nd} (h : unfit T x.2 = 122) : step (T, S, O) x = (T, S, O) := by
  unfold step
  rw [if_neg (by dsimp only; omega), if_neg (by dsimp only; omega)]
end Go.Dag
namespace Go.Proofs.YtkbboddibgfjbaaGreatDoor
open Go.RowKit Go.Sort Go.Nod Go.MapFun Go.Dag Go.AppendAt
attribute [local go_sem] Oper.semAt_some
theorem erIfaceNil (t : TypeId) (u : Value) (w : World) : (binOp .eql 79 (.iface t u) .nilIface).run Tryz.prog w = .ok (.bool false) w := by kernel_rfl
theorem erNilNil (w : World) : (binOp .eql 79 .nilIface .nilIface).run Tryz.prog w = .ok (.bool true) w := by kernel_rfl
theorem got_nxF (sl : ByteArray → Sl) (h : ByteArray) (l : Ns) (n : Nd) (hl : lk l h = some n) : got false (Nd.zero.v (.slice none 0 0)) ndE (lk (told sl l) h) = .agg (n.cs (sl h).v) := by
  rw [lk_told, hl]
  rfl
set_option maxRecDepth 100000 in
set_option maxHeartbeats 4000000 in
theorem round_any {base : Nat} {F : Fp} {ks : List ByteArray} {sl : ByteArray → Sl} {d : Dg} (w : World) (hD : DagAt Tryz.prog 75 base F ks sl d w) (hK : d.taken.length + d.waits.length ≤ 100000) :
    Calls Tryz.prog 88 #[.pointer (some ⟨F.b, 0, none⟩)] w fun e w' => ∃ v F2, e = .returned v ∧ w'.ownsRow w.heap.size 9 1 v d.got.length (d.got.map Value.string) ∧ (F2.b = F.b ∧ F2.wm = F.wm) ∧ DagAt Tryz.prog 75 base F2 ks sl d.round w' ∧ Tn F w w' ∧ F.to F2 w ∧ ∀ x, v.ownBlock = some x → ¬ F2.has x := by
  obtain ⟨i9, hi9, hz0, hz1, hz2⟩ := info_parts dgInfo9
  obtain ⟨T, W⟩ := d
  have hok : Go.Dag.Ok (T ++ W) := hD.ok
  dsimp only at hK
  have hbase : base ≤ w.heap.size := hD.r.size
  have J0 := hide (Rn.start hD.r)
  obtain ⟨c0, c1, c2, c3, c4, c5⟩ := hD.r.cells
  obtain ⟨ca, cc, hcv⟩ := own_slice hD.r.came
  rw [hcv] at c5
  have HCV := hide hcv
  have hWl : (Dg.raw ⟨T, W⟩).C.length = W.length := by simp [Dg.raw]
  rw [hWl] at c5 HCV
  clear c0 c1 c2 c3 c4 hcv hWl hD
  go_enter Tryz.func88, Tryz.ntmps88
  go_wp2_with fail
  clear c5
  go_loopw [3, 4, 14] (fun tv sv vi wr => ∃ i : Nat, i ≤ W.length ∧ vi = .int .i64 i ∧ Hid (∃ ov, Rn Tryz.prog 75 base F { F with ov := ov } ks sl (rwAt T W i) tv (rnd T (W.take i)).2.2 sv ((rnd T (W.take i)).2.1.map (·.1)) w wr)) (fun _ _ vi _ => 1000000 - (intOf vi).toNat)
  case atStart => exact ⟨0, Nat.zero_le _, rfl, F.ov, J0.out⟩
  case round =>
    obtain ⟨i, hi, rfl, ov, J⟩ := hrel
    have hokI := rnd_ok hok i hi
    have hlenI := rnd_length T W i hi
    have hlessI := rnd_less T W i hi
    replace J := hide J
    by_cases hlt : i < W.length
    · have hlt' : (i : Int) < W.length := by omega
      have hx : W[i]? = some W[i] := List.getElem?_eq_getElem hlt
      have HSt := hide (rnd_take T W hx)
      have hdr : W.drop i = W[i] :: W.drop (i + 1) := List.drop_eq_getElem_cons hlt
      generalize W[i] = x at *
      have hrd : StrRow.Reads wr ({ F with ov := ov } : Fp).cv (W.map (·.1)) := StrRow.Reads.of_own J.out.d.came
      unfold rwAt at J
      rw [hdr] at J hokI
      obtain ⟨R, hR⟩ : ∃ R, R = W.drop (i + 1) := ⟨_, rfl⟩
      rw [← hR] at J hokI
      have HR := hide hR
      clear hR hdr
      generalize rnd T (W.take i) = st at *
      obtain ⟨T1, S1, O1⟩ := st
      obtain ⟨h, n⟩ := x
      dsimp only at J hokI hlenI hlessI
      have hcw : (W.map (·.1))[i]? = some h := by rw [List.getElem?_map, hx]; rfl
      have hcv : ({ F with ov := ov } : Fp).cv = .slice ca W.length cc := HCV.out
      rw [hcv] at hrd
      obtain ⟨b', off, cap, hv, hcap, hbl⟩ := hrd.at (by intro h; rw [h] at hcw; cases hcw)
      simp only [Value.slice.injEq, List.length_map, true_and] at hv hcap
      obtain ⟨rfl, rfl⟩ := hv
      have hcell := hrd.cell hcw
      have hgn := hokI.good (h, n) (by simp)
      have h32 : h.size = 32 := hgn.1
      have hs : h.size ≤ maxLen := by unfold maxLen; omega
      have hg : n.Good := hgn.2
      have hnd : ((S1 ++ (h, n) :: R).map (·.1)).Nodup := (hokI.sub (List.sublist_append_right _ _)).nodup
      have hlkW := lk_mid hnd
      have hcutW := cut_mid hnd
      have hpm : (h, n) ∈ T1 ++ (S1 ++ (h, n) :: R) := by simp
      obtain ⟨sa, sn, sc, hsl⟩ := (sl h).form
      obtain ⟨c0, c1, c2, c3, c4, c5⟩ := J.out.d.cells
      dsimp only at c4
      have hl := J.out.d.waiting.look Tryz.underlying9 dagMap1 (zeroNd wr) false h hs
      rw [got_nxF sl h _ n hlkW, hsl] at hl
      clear c0 c1 c2 c3 c5 hrd hcv hgn
      have hgF : ¬ ({ F with ov := ov } : Fp).has wr.heap.size := fun e => Nat.lt_irrefl _ (J.out.d.lt _ e)
      have k1 := (Below.refl wr.heap.size wr).alloc (Nat.le_refl _) (.cells (n.cs (.slice sa sn sc)) 60)
      have J1 := hide (J.out.step k1)
      have hrow1 : (wr.alloc (.cells (n.cs (.slice sa sn sc)) 60)).heap[wr.heap.size]? = some (.cells (n.cs (.slice sa sn sc)) 60 (0, 0)) := heap_alloc_new _ _
      go_upto_region 6 with fail
      generalize wr.alloc (.cells (n.cs (.slice sa sn sc)) 60) = w1 at *
      generalize wr.heap.size = g at *
      clear k1 hl c4 hcell J
      have HR1 : Hid (StrRow.Reads w1 (.slice sa sn sc) n.ps) := hsl ▸ J1.out.d.par.reads (h, n) hpm
      have HU := hide (unfit_any n _ w1 J1.out.d HR1.out hg)
      have hrow := hide hrow1
      have HP := hide (And.intro (J0.out.d.par.reads (h, n) (List.mem_append_right _ (List.mem_of_getElem? hx))) (J0.out.d.par.out (h, n) (List.mem_append_right _ (List.mem_of_getElem? hx))))
      dsimp only at HP
      have hT1 : lk T1 h = none := by
        refine lk_none.2 fun y hy e => ?_
        have hn := hokI.nodup
        rw [List.map_append, List.nodup_append] at hn
        exact hn.2.2 y.1 (List.mem_map.2 ⟨y, hy, rfl⟩) h (by simp) e
      unfold Nd.v at HU
      dsimp only at HU
      clear hrow1 hpm hlkW
      rcases unfit_is T1 n with hU | hU | hU
      · -- taken
        have HU0 : Hid (Calls Tryz.prog 76 #[.pointer (some ⟨F.b, 0, none⟩), .agg (n.cs (.slice sa sn sc))] w1 fun e w' => e = .returned .nilIface ∧ Below w1.heap.size w1 w') := HU.out.mono fun e w' ⟨v, e1, hw, k⟩ => by
          rcases hw with ⟨_, rfl⟩ | ⟨e2, _⟩ | ⟨e2, _⟩
          · exact ⟨e1, k⟩
          · omega
          · omega
        have HI := hide (isWait_any (k := 0) (v := .nilIface) (.inl ⟨rfl, rfl⟩))
        have hNil := erNilNil
        clear HU
        go_upto_region 7 with (first
          | (refine wpList_load_row rfl 60 _ rfl _ rfl _ _ _ _ hrow.out Tryz.underlying60 rfl infoNd ?_)
          | (go_at_call 76; refine HU0.out.mono ?_; rintro e w2 ⟨rfl, k2⟩; have hrow2 := hide ((k2.block _ (Array.getElem?_eq_some_iff.1 hrow.out).1).trans hrow.out); have J2 := hide (J1.out.step k2); clear k2))
        clear hrow HU0
        obtain ⟨c0, c1, c2, c3, c4, c5⟩ := J2.out.d.cells
        dsimp only at c4
        clear c0 c1 c2 c3 c5
        obtain ⟨w4, hdel, hm4, hg4⟩ := J2.out.d.waiting.del Tryz.underlying9 dagMap1 h hs 0
        dsimp only at hdel
        have J4 := hide (J2.out.turn (F2 := { F with ov := ov }) (r2 := ⟨T1, T1.map (·.1), hds T1, S1 ++ R, W.map (·.1)⟩) (by
          have := J2.out.d.setW (W := S1 ++ R) hg4 (by rw [told_cut] at hm4; rw [← hcutW]; exact hm4) (J2.out.d.par.sub fun y hy => by simp only [List.mem_append, List.mem_cons] at hy ⊢; rcases hy with hy | hy | hy <;> simp [hy])
          exact ⟨this.1, this.2, Fp.to_refl _ _⟩) (fun y hy => J2.out.par0 y (by simp only [List.mem_append, List.mem_cons] at hy ⊢; rcases hy with hy | hy | hy <;> simp [hy])))
        have hrow4 : Hid (w4.heap[g]? = some (.cells (n.cs (.slice sa sn sc)) 60 (0, 0))) := (hg4.block g (Array.getElem?_eq_some_iff.1 hrow2.out).1 fun e => hgF (by cases e; exact .inr (.inr (.inr (.inl rfl))))).trans hrow2.out
        clear hm4 hg4
        go_upto_region 11 with (go_at_call 56; refine (HI.out _).mono ?_; rintro e w3 ⟨rfl, hw3⟩; subst hw3)
        have HT : Hid (Calls Tryz.prog 57 #[.pointer (some ⟨F.b, 0, none⟩), .string h, .agg (n.cs (.slice sa sn sc))] w4 fun e w' => e = .returned (.tuple #[]) ∧ ∃ ov2, DagR Tryz.prog 75 base { F with ov := ov2 } ks sl ⟨T1 ++ [(h, n)], T1.map (·.1) ++ [h], hstep (hds T1) (h, n), S1 ++ R, W.map (·.1)⟩ w' ∧ Tn { F with ov := ov } w4 w' ∧ Fp.to { F with ov := ov } { F with ov := ov2 } w4) := by
          have := takeDag_any h n w4 J4.out.d (reads_kept HP.out.1 J4.out.tn.size fun a ha hl => J4.out.tn.block a hl (HP.out.2 a (by rw [← Sl.own]; exact ha)).2) (fun a ha => ⟨Nat.lt_of_lt_of_le (HP.out.2 a ha).1 J4.out.tn.size, fun e => by
            rcases J4.out.nw a e with e | e
            · exact (HP.out.2 a ha).2 e
            · have := (HP.out.2 a ha).1; omega⟩) hg h32 hT1 (hds_none hT1) (by have := hds_le T1; dsimp only; rw [List.length_map]; omega)
          rw [hsl] at this
          exact this
        go_upto_region 12 with (first
          | (refine wpList_load_row rfl 60 _ rfl _ rfl _ _ _ _ hrow4.out Tryz.underlying60 rfl infoNd ?_)
          | (go_at_call 57; refine HT.out.mono ?_; rintro e w5 ⟨rfl, ov2, h5⟩))
        have J5 := hide (J4.out.turn h5 (fun y hy => by
          simp only [List.mem_append, List.mem_singleton] at hy
          rcases hy with (hy | rfl) | hy | hy
          · exact J4.out.par0 y (by simp [hy])
          · exact fun a ha => (HP.out.2 a ha).1
          · exact J4.out.par0 y (by simp [hy])
          · exact J4.out.par0 y (by simp [hy])))
        clear h5 HT hrow4 hrow2 J2 c4 hdel HI hNil J4
        go_wp2_with (at_builtin; refine wpList_append_at rfl _ _ 24 rfl w.heap.size 9 i9 (.string ⟨#[]⟩) 16 Tryz.underlying24 hi9 hz0 hz1 hz2 rfl _ _ _ rfl (J5.out.tak.alloc _) ⟨w5.heap.size, 0, none⟩ 1 1 [.string h] rfl rfl (cell_one_new _ _ _) ?a2 ?a3 ?a4 (Nat.le_trans J5.out.tn.size (by simp)) ?_)
        case a2 => first | rfl | (intro u hu; simp at hu; subst hu; rfl)
        case a3 => show O1.length + 1 ≤ maxLen; unfold maxLen; omega
        case a4 => show (O1.length + 1) * 16 ≤ _; omega
        intro v' w8 hown hgrow hwh
        have J8 := hide ((J5.out.step ((Below.refl _ w5).alloc (Nat.le_refl _) (.cells #[.string h] 9))).addT hbase hgrow hown (by simpa using hwh))
        obtain ⟨ya, yc, hyv⟩ := own_slice hown
        clear hown hgrow hwh J5
        subst hyv
        go_wp2_with fail
        go_roundw
        case rel =>
          refine ⟨i + 1, by omega, by go_num, ov2, ?_⟩
          unfold rwAt
          rw [HSt.out, step_take hU, hds_append, List.map_append, ← HR.out]
          exact J8.out
        case measure => simp [intOf]; omega
      · -- it goes
        have HU0 : Hid (Calls Tryz.prog 76 #[.pointer (some ⟨F.b, 0, none⟩), .agg (n.cs (.slice sa sn sc))] w1 fun e w' => ∃ u, e = .returned (.iface 181 u) ∧ Below w1.heap.size w1 w') := HU.out.mono fun e w' ⟨v, e1, hw, k⟩ => by
          rcases hw with ⟨e2, _⟩ | ⟨_, u, rfl⟩ | ⟨e2, _⟩
          · omega
          · exact ⟨u, e1, k⟩
          · omega
        have HI := hide (fun u => isWait_any (k := 122) (v := .iface 181 u) (.inr (.inr (.inl ⟨rfl, u, rfl⟩))))
        have hNil := erIfaceNil
        clear HU
        go_upto_region 7 with (first
          | (refine wpList_load_row rfl 60 _ rfl _ rfl _ _ _ _ hrow.out Tryz.underlying60 rfl infoNd ?_)
          | (go_at_call 76; refine HU0.out.mono ?_; rintro e w2 ⟨lu, rfl, k2⟩; have hrow2 := hide ((k2.block _ (Array.getElem?_eq_some_iff.1 hrow.out).1).trans hrow.out); have J2 := hide (J1.out.step k2); clear k2))
        clear hrow HU0
        obtain ⟨c0, c1, c2, c3, c4, c5⟩ := J2.out.d.cells
        dsimp only at c4
        clear c0 c1 c2 c3 c5
        obtain ⟨w4, hdel, hm4, hg4⟩ := J2.out.d.waiting.del Tryz.underlying9 dagMap1 h hs 0
        dsimp only at hdel
        have J4 := hide (J2.out.turn (F2 := { F with ov := ov }) (r2 := ⟨T1, T1.map (·.1), hds T1, S1 ++ R, W.map (·.1)⟩) (by
          have := J2.out.d.setW (W := S1 ++ R) hg4 (by rw [told_cut] at hm4; rw [← hcutW]; exact hm4) (J2.out.d.par.sub fun y hy => by simp only [List.mem_append, List.mem_cons] at hy ⊢; rcases hy with hy | hy | hy <;> simp [hy])
          exact ⟨this.1, this.2, Fp.to_refl _ _⟩) (fun y hy => J2.out.par0 y (by simp only [List.mem_append, List.mem_cons] at hy ⊢; rcases hy with hy | hy | hy <;> simp [hy])))
        have hrow4 : Hid (w4.heap[g]? = some (.cells (n.cs (.slice sa sn sc)) 60 (0, 0))) := (hg4.block g (Array.getElem?_eq_some_iff.1 hrow2.out).1 fun e => hgF (by cases e; exact .inr (.inr (.inr (.inl rfl))))).trans hrow2.out
        clear hm4 hg4
        go_wp2_with (go_at_call 56; refine (HI.out lu _).mono ?_; rintro e w3 ⟨rfl, hw3⟩; subst hw3)
        go_roundw
        case rel =>
          refine ⟨i + 1, by omega, by go_num, ov, ?_⟩
          unfold rwAt
          rw [HSt.out, step_go hU, ← HR.out]
          exact J4.out
        case measure => simp [intOf]; omega
      · -- it waits
        have HU0 : Hid (Calls Tryz.prog 76 #[.pointer (some ⟨F.b, 0, none⟩), .agg (n.cs (.slice sa sn sc))] w1 fun e w' => ∃ u, e = .returned (.iface 133 u) ∧ Below w1.heap.size w1 w') := HU.out.mono fun e w' ⟨v, e1, hw, k⟩ => by
          rcases hw with ⟨e2, _⟩ | ⟨e2, _⟩ | ⟨_, g2, sv2, rfl, _⟩
          · omega
          · omega
          · exact ⟨_, e1, k⟩
        have HI := hide (fun u => isWait_any (k := 123) (v := .iface 133 u) (.inr (.inr (.inr ⟨rfl, u, rfl⟩))))
        clear HU
        go_upto_region 7 with (first
          | (refine wpList_load_row rfl 60 _ rfl _ rfl _ _ _ _ hrow.out Tryz.underlying60 rfl infoNd ?_)
          | (go_at_call 76; refine HU0.out.mono ?_; rintro e w2 ⟨lu, rfl, k2⟩; have hrow2 := hide ((k2.block _ (Array.getElem?_eq_some_iff.1 hrow.out).1).trans hrow.out); have J2 := hide (J1.out.step k2); clear k2))
        clear hrow HU0
        have hlm : Hid ((S1.map (·.1)).length = S1.length) := List.length_map ..
        obtain ⟨L1, hL1⟩ : ∃ L1, L1 = S1.map (·.1) := ⟨_, rfl⟩
        rw [← hL1] at J2 hlm
        have HL1 := hide hL1
        clear hL1
        go_upto_region 8 with (go_at_call 56; refine (HI.out lu _).mono ?_; rintro e w3 ⟨rfl, hw3⟩; subst hw3)
        clear HI hrow2
        go_wp2_with (at_builtin; refine wpList_append_at rfl _ _ 24 rfl w.heap.size 9 i9 (.string ⟨#[]⟩) 16 Tryz.underlying24 hi9 hz0 hz1 hz2 rfl _ _ _ rfl (J2.out.stl.alloc _) ⟨w3.heap.size, 0, none⟩ 1 1 [.string h] rfl rfl (cell_one_new _ _ _) ?a2 ?a3 ?a4 (Nat.le_trans J2.out.tn.size (by simp)) ?_)
        case a2 => first | rfl | (intro u hu; simp at hu; subst hu; rfl)
        case a3 => show L1.length + 1 ≤ maxLen; rw [hlm.out]; unfold maxLen; omega
        case a4 => show (L1.length + 1) * 16 ≤ _; rw [hlm.out]; omega
        intro v' w8 hown hgrow hwh
        have J8 := hide ((J2.out.step ((Below.refl _ w3).alloc (Nat.le_refl _) (.cells #[.string h] 9))).addS hbase hgrow hown (by simpa using hwh))
        obtain ⟨ya, yc, hyv⟩ := own_slice hown
        clear hown hgrow hwh J2
        subst hyv
        go_wp2_with fail
        go_roundw
        case rel =>
          refine ⟨i + 1, by omega, by go_num, ov, ?_⟩
          unfold rwAt
          rw [HSt.out, step_wait hU, List.map_append, ← HR.out, List.append_assoc, ← HL1.out]
          exact J8.out
        case measure => simp [intOf]; omega
    · have hlt' : ¬ ((i : Int) < W.length) := by omega
      have hin : i = W.length := by omega
      subst hin
      unfold rwAt at J
      rw [List.take_length, List.drop_length, List.append_nil] at J
      obtain ⟨L1, hL1⟩ : ∃ L1, L1 = (rnd T W).2.1.map (·.1) := ⟨_, rfl⟩
      rw [← hL1] at J
      have HL1 := hide hL1
      clear hL1
      obtain ⟨c0, c1, c2, c3, c4, c5⟩ := J.out.d.cells
      dsimp only at c5
      have f5 : wr.frozen? ⟨F.b, 5, none⟩ = false := J.out.d.frozen 5
      obtain ⟨ya, yc, hyv⟩ := own_slice J.out.stl
      clear c0 c1 c2 c3 c4
      have L := hide (J.out.lay hbase)
      have hD2 := Dg.Ok.round (d := ⟨T, W⟩) hok
      subst hyv
      go_wp2_with fail
      go_ret
      obtain ⟨h1, h2, h3, h4, h5⟩ := L.out
      refine ⟨_, rfl, h4, { F with ov := ov, cv := .slice ya L1.length yc }, ⟨rfl, rfl⟩, ⟨?_, hD2⟩, h2, h3, h5⟩
      show DagR _ _ _ _ _ _ ⟨(rnd T W).1, (rnd T W).1.map (·.1), hds (rnd T W).1, (rnd T W).2.1, (rnd T W).2.1.map (·.1)⟩ _
      rw [← HL1.out]
      exact h1
end Go.Proofs.YtkbboddibgfjbaaGreatDoor
