/- Several texts in one: DiskHit. -/
import Derived.Test.YtoineobjmllicaaGreatDoorDkThree
/- Contract: a fall that was laid takes the power. -/
namespace Go.Dk
variable {M : Nat → Prop}
theorem setRow_self {w : World} {g : Nat} {cs : Array Value} {t : TypeId} {fr : Nat × Nat} (h : w.heap[g]? = some (.cells cs t fr)) : w.setRow g cs = w := by
  have : (w.setRow g cs).heap = w.heap := by
    unfold World.setRow
    apply Array.ext_getElem?
    intro i
    simp only [Array.getElem?_modify]
    split
    · rename_i e
      subst e
      rw [h]
      rfl
    · rfl
  obtain ⟨hp, tp, dr, os, out⟩ := w
  simp only [World.setRow] at this ⊢
  rw [this]
end Go.Dk
namespace Go.Proofs.YtoineobjmllicaaGreatDoor
open Go.RowKit Go.Dk
variable {M : Nat → Prop}
theorem infoF : (Tryz.prog.info? 34).map (fun i => (i.zero, i.size, i.bytes)) = some (some (.agg #[.int .i64 0, .int .i64 0, .int .i64 0]), 3, 24) := by kernel_rfl
set_option maxRecDepth 5000 in
set_option maxHeartbeats 1000000 in
theorem del_one (p cap : Nat) (cur : Array Value) (w : World) (hg : w.heap[p]? = some (.cells cur 34 (0, 0))) (hcap : 1 ≤ cap) (hm : cap ≤ maxLen) (hsz : cur.size = cap * 3) :
    Calls Tryz.prog 131 #[.slice (some ⟨p, 0, none⟩) 1 cap, .int .i64 0, .int .i64 1] w fun e w' => e = .returned (.slice (some ⟨p, 0, none⟩) 0 cap) ∧ (∃ cur', w'.heap[p]? = some (.cells cur' 34 (0, 0)) ∧ cur'.size = cap * 3) ∧ Tch (· = p) w w' := by
  obtain ⟨i1, hj, hy0, hy1, hy2⟩ := info_parts infoF
  unfold maxLen at hm
  have hcapi : (1 : Int) ≤ (cap : Int) := by omega
  have hap : ∀ q ty (ad : Addr) (c : Nat), (Builtin.append_ #[48, 48] ty #[.slice (some ⟨p, 0, none⟩) 0 cap, .slice (some ad) 0 c]).run Tryz.prog (w.drewN q) = .ok (.slice (some ⟨p, 0, none⟩) 0 cap) (w.drewN q) := fun q ty ad c => by
    have hr := run_append_room (P := Tryz.prog) (w.drewN q) 48 ty 34 i1 Tryz.underlying48 hj p 0 cap cur hg ad 0 c [] (by simp) (by simp) (by simp) (by omega) (by simp)
    rw [hr]
    have : (w.drewN q).setRow p (cur.toList.take (0 * i1.size) ++ ([] : List Value) ++ cur.toList.drop (0 * i1.size + ([] : List Value).length)).toArray = w.drewN q := by
      have e : (cur.toList.take (0 * i1.size) ++ ([] : List Value) ++ cur.toList.drop (0 * i1.size + ([] : List Value).length)).toArray = cur := by simp
      rw [e]
      exact Dk.setRow_self (w := w.drewN q) hg
    rw [this]
  have hcl : ∀ q ty, (Builtin.clear_ #[48] ty #[.slice (some ⟨p, 0, none⟩) 1 cap]).run Tryz.prog (w.drewN q) = .ok (.tuple #[]) ((w.drewN q).setRow p ([Value.int .i64 0, Value.int .i64 0, Value.int .i64 0] ++ cur.toList.drop 3).toArray) := fun q ty => by
    have hst := run_storeCells_at Tryz.prog p 0 34 [.int .i64 0, .int .i64 0, .int .i64 0] 0 cur (w.drewN q) hg (by simp; omega) (by simp [Value.oneCell'])
    have hzv := Tryz.zeroValue34 (w.drewN q)
    simp only [Nat.add_zero, List.take_zero, List.nil_append] at hst
    have hzc : (Builtin.zeroCells (Value.agg #[.int .i64 0, .int .i64 0, .int .i64 0]).cells 1).toList = [.int .i64 0, .int .i64 0, .int .i64 0] := by kernel_rfl
    simp only [Builtin.clear_, Sem.run_bind, run_underlying Tryz.underlying48, Result.andThen_ok, hzv, List.getElem?_toArray, List.getElem?_cons_zero, hzc]
    rw [hst]
    rfl
  have HG := hide hg
  have HSZ := hide hsz
  clear hg hsz hj hy0 hy1 hy2
  by_cases hc1 : cap = 1
  · subst hc1
    go_enter Tryz.func131, Tryz.ntmps131
    go_wp2
    refine QTail.wp_region_tail (fun w' => ∃ n, w' = w.drewN n) 6 (by kernel_rfl) (by kernel_rfl) ⟨1, rfl⟩ ?_
    simp only [List.take_succ_cons, List.take_zero, List.drop_succ_cons, List.drop_zero]
    repeat (first | go_big_quiet_step (fail) | quiet_step (fail))
    refine wpQuiet_nil ?_
    rintro _ ⟨nq, rfl⟩
    go_wp2
    go_ret
    refine ⟨rfl, ⟨_, setRow_heap _ _ _ _ _ _ HG.out, ?_⟩, ⟨rfl, rfl, rfl, by simp, fun b _ hb => setRow_other _ _ _ _ (fun e => hb (by first | exact e | exact e.symm))⟩⟩
    have := HSZ.out
    simp
    omega
  · have hc2 : (cap = 1) = False := eq_false hc1
    go_enter Tryz.func131, Tryz.ntmps131
    go_wp2
    refine QTail.wp_region_tail (fun w' => ∃ n, w' = w.drewN n) 6 (by kernel_rfl) (by kernel_rfl) ⟨1, rfl⟩ ?_
    simp only [List.take_succ_cons, List.take_zero, List.drop_succ_cons, List.drop_zero]
    repeat (first | go_big_quiet_step (fail) | quiet_step (fail))
    refine wpQuiet_nil ?_
    rintro _ ⟨nq, rfl⟩
    go_wp2
    go_ret
    refine ⟨rfl, ⟨_, setRow_heap _ _ _ _ _ _ HG.out, ?_⟩, ⟨rfl, rfl, rfl, by simp, fun b _ hb => setRow_other _ _ _ _ (fun e => hb (by first | exact e | exact e.symm))⟩⟩
    have := HSZ.out
    simp
    omega
set_option maxRecDepth 5000 in
set_option maxHeartbeats 2000000 in
theorem strike_hit (base K d : Nat) (S : WD) (w : World) (h : DiskAt Tryz.prog M base K d w S) (hbase : base ≤ w.heap.size) (hd : S.a.down = false) (f : Fall) (hh : S.a.hit = some f) :
    Calls Tryz.prog 106 #[.pointer (some ⟨d, 0, none⟩)] w fun e w' => e = .returned (.bool true) ∧ ∃ T : WD, T.a = ({ S.a with fall := none } : A).crash f.keep f.torn ∧ DiskAt Tryz.prog M base K d w' T ∧ Dsk M base w w' := by
  have hfall : S.a.fall = some f ∧ f.on = S.a.changes := by
    unfold A.hit at hh
    cases hf : S.a.fall with
    | none => rw [hf] at hh; cases hh
    | some g =>
      rw [hf] at hh
      simp only at hh
      split at hh
      · rename_i e; cases hh; exact ⟨rfl, e⟩
      · cases hh
  have hrow := h.row
  unfold drow at hrow
  obtain ⟨-, c1, c2, -, -, -, fz⟩ := cells6 hrow
  have f1 := fz 1
  have hdl := h.lt
  have hd' : d ≠ w.heap.size := Nat.ne_of_lt hdl
  have hd'' : d ≠ w.heap.size + 1 := by omega
  have hplan := h.plan
  rw [hfall.1] at hplan
  simp only [flen, fcells] at hplan
  rcases hplan.2 with ⟨_, h0⟩ | ⟨p, cap, cur, hv, hbp, hg, hle, hmx, hsz, htk⟩
  · omega
  rw [hv] at c1
  have hp := block_lt hg
  have hp' : p ≠ w.heap.size := Nat.ne_of_lt hp
  have cell : ∀ i u, i < 3 → [Value.int .i64 f.on, .int .i64 f.keep, .int .i64 f.torn][i]? = some u → w.cell? ⟨p, i, none⟩ = some u := fun i u hi hu => by
    rw [cell_of_row _ _ _ _ _ _ hg, ← Array.getElem?_toList]
    rw [← htk, List.getElem?_take_of_lt (by omega)] at hu
    exact hu
  have q0 := cell 0 _ (by decide) rfl
  have q1 := cell 1 _ (by decide) rfl
  have q2 := cell 2 _ (by decide) rfl
  have HI := hide (idx_one p cap w.heap.size d f S.a.changes (w.alloc (.cells #[.pointer (some ⟨d, 0, none⟩)] 23)) (Lib.cell?_alloc_some _ q0) (Lib.cell?_alloc_some _ q1) (Lib.cell?_alloc_some _ q2) (by rw [cell_of_row _ _ _ _ _ _ (heap_alloc_new w _)]; rfl) (Lib.cell?_alloc_some _ c2))
  rw [if_pos hfall.2] at HI
  have HFin : Hid (∀ w1 w2 w3 : World, Below w.heap.size w w1 → (∃ cur', w2.heap[p]? = some (.cells cur' 34 (0, 0)) ∧ cur'.size = cap * 3) → Tch (· = p) w1 w2 → w3 = w2.setCell ⟨d, 1, none⟩ (.slice (some ⟨p, 0, none⟩) 0 cap) →
      DiskAt Tryz.prog M base K d w3 { S with a := { S.a with fall := none }, pv := .slice (some ⟨p, 0, none⟩) 0 cap } ∧ Dsk M base w w3) := fun w1 w2 w3 hb hc t e => by
    subst e
    obtain ⟨cur', hc1, hc2⟩ := hc
    have h1 := h.below hb
    have hg1 : w1.heap[p]? = some (.cells cur 34 (0, 0)) := (hb.block p hp).trans hg
    have hdp : d ≠ p := fun e => by have := h1.row; rw [e, hg1] at this; cases this
    have hrow2 : w2.heap[d]? = some (.cells (drow S) 67 (0, 0)) := (t.block d h1.lt hdp).trans h1.row
    have t3 : Tch (fun b => b = p ∨ b = d) w1 (w2.setCell ⟨d, 1, none⟩ (.slice (some ⟨p, 0, none⟩) 0 cap)) := (t.mono fun _ e => .inl e).and (.set _ _ _ _ (.inr rfl))
    have hnot : ∀ F ∈ S.fs, ∀ b, F.foot b → ¬ (b = p ∨ b = d) := fun F hF b hb' hx => by
      rcases hx with rfl | rfl
      · exact (h1.files.files F hF).not_fall hg1 hb'
      · exact (h1.files.files F hF).not_d h1.row hb'
    refine ⟨⟨?_, h.ge, h.rm, ?_, ?_, h1.files.touch t3 hnot, h.same, h.small, h.count, h.chg, h.lim, (fun b e => e.elim (fun e => h.own b (.inl e)) fun e => h.own b (.inr (by rw [hv]; exact e)))⟩, Dsk.trans (.of_below hb) (t3.mono fun b e => ?_)⟩
    · rw [heap_setCell_same _ _ _ _ _ _ hrow2]
      rfl
    · refine ⟨rfl, .inr ⟨p, cap, cur', rfl, hbp, ?_, Nat.zero_le _, hmx, hc2, by simp [fcells, flen]⟩⟩
      rw [Deep.blk_setCell_other _ _ _ _ (Ne.symm hdp)]
      exact hc1
    · refine h1.map.kept fun b hb' => ?_
      obtain ⟨_, es, cl, h2⟩ := h1.map.kind hb'
      refine t3.block b (block_lt h2) fun hx => ?_
      rcases hx with rfl | rfl
      · rw [hg1] at h2; cases h2
      · rw [h1.row] at h2; cases h2
    · rcases e with rfl | rfl
      · exact ⟨hbp, _, hg1, .inr (.inl ⟨rfl, h.own _ (.inr (by rw [hv]; rfl))⟩)⟩
      · exact h1.mine_d
  have HP : Hid (∀ w1 : World, Below w.heap.size w w1 → w1.heap[p]? = some (.cells cur 34 (0, 0)) ∧ w1.heap[d]? = some (.cells (drow S) 67 (0, 0))) := fun w1 hb => ⟨(hb.block p hp).trans hg, (hb.block d hdl).trans h.row⟩
  have HR : Hid (∀ w1 : World, w1.heap[p]? = some (.cells cur 34 (0, 0)) → w1.cell? ⟨p, 0, none⟩ = some (.int .i64 f.on) ∧ w1.cell? ⟨p, 1, none⟩ = some (.int .i64 f.keep) ∧ w1.cell? ⟨p, 2, none⟩ = some (.int .i64 f.torn)) := fun w1 hx => by
    have e : ∀ i, w1.cell? ⟨p, i, none⟩ = w.cell? ⟨p, i, none⟩ := fun i => by rw [cell_of_row _ _ _ _ _ _ hx, cell_of_row _ _ _ _ _ _ hg]
    exact ⟨(e 0).trans q0, (e 1).trans q1, (e 2).trans q2⟩
  have HDl : Hid (∀ w1 : World, w1.heap[p]? = some (.cells cur 34 (0, 0)) → Calls Tryz.prog 131 #[.slice (some ⟨p, 0, none⟩) 1 cap, .int .i64 0, .int .i64 1] w1 fun e w' => e = .returned (.slice (some ⟨p, 0, none⟩) 0 cap) ∧ (∃ cur', w'.heap[p]? = some (.cells cur' 34 (0, 0)) ∧ cur'.size = cap * 3) ∧ Tch (· = p) w1 w') := fun w1 hx => del_one p cap cur w1 hx hle hmx hsz
  have HC : Hid (∀ w3, DiskAt Tryz.prog M base K d w3 { S with a := { S.a with fall := none }, pv := .slice (some ⟨p, 0, none⟩) 0 cap } → Dsk M base w w3 → Calls Tryz.prog 16 #[.pointer (some ⟨d, 0, none⟩), .int .i64 f.keep, .int .i64 f.torn] w3 fun e w' => e = .returned (.tuple #[]) ∧ ∃ T : WD, T.a = ({ S.a with fall := none } : A).crash f.keep f.torn ∧ DiskAt Tryz.prog M base K d w' T ∧ Dsk M base w3 w') := fun w3 h3 k3 =>
    crash_live base K d _ f.keep f.torn w3 h3 (Nat.le_trans hbase k3.size) hd
  clear h hrow hplan hv hg hsz htk cell hh hfall fz hmx
  go_enter Tryz.func106, Tryz.ntmps106
  go_upto_region 2 with (go_at_call 129; refine HI.out.mono ?_; rintro e w1 ⟨rfl, k1⟩)
  have kb : Below w.heap.size w w1 := ((Below.refl _ _).alloc (Nat.le_refl _) _).trans (k1.mono (by simp))
  have hbox : w1.heap[w.heap.size]? = some (.cells #[.pointer (some ⟨d, 0, none⟩)] 23 (0, 0)) := (k1.block _ (by simp)).trans (heap_alloc_new w _)
  obtain ⟨hp1, hd1⟩ := HP.out w1 kb
  obtain ⟨u0, u1, u2⟩ := HR.out w1 hp1
  have v0 : w1.cell? ⟨w.heap.size, 0, none⟩ = some (.pointer (some ⟨d, 0, none⟩)) := by rw [cell_of_row _ _ _ _ _ _ hbox]; rfl
  have v1 : w1.cell? ⟨d, 1, none⟩ = some (.slice (some ⟨p, 0, none⟩) 1 cap) := (kb.cell (p := ⟨d, 1, none⟩) hdl).trans c1
  have hsz1 := kb.size
  have hwlt : w.heap.size < w1.heap.size := block_lt hbox
  clear k1 q0 q1 q2 c1 c2 f1 HI
  go_upto_region 5 with fail
  have ka : Below w1.heap.size w1 (w1.alloc (.cells #[.int .i64 f.on, .int .i64 f.keep, .int .i64 f.torn] 34)) := (Below.refl _ _).alloc (Nat.le_refl _) _
  have hG := heap_alloc_new w1 (.cells #[.int .i64 f.on, .int .i64 f.keep, .int .i64 f.torn] 34)
  generalize w1.alloc (.cells #[.int .i64 f.on, .int .i64 f.keep, .int .i64 f.torn] 34) = W at *
  have kW : Below w.heap.size w W := kb.trans (ka.mono hsz1)
  have hboxW := (ka.block _ hwlt).trans hbox
  obtain ⟨hpW, hdW⟩ := HP.out W kW
  have v0 : W.cell? ⟨w.heap.size, 0, none⟩ = some (.pointer (some ⟨d, 0, none⟩)) := by rw [cell_of_row _ _ _ _ _ _ hboxW]; rfl
  have v1 : W.cell? ⟨d, 1, none⟩ = some (.slice (some ⟨p, 0, none⟩) 1 cap) := (ka.cell (p := ⟨d, 1, none⟩) (by show d < w1.heap.size; omega)).trans v1
  have HX : Hid (∀ W2, Tch (· = p) W W2 → W2.cell? ⟨w.heap.size, 0, none⟩ = some (.pointer (some ⟨d, 0, none⟩)) ∧ W2.cell? ⟨d, 1, none⟩ = some (.slice (some ⟨p, 0, none⟩) 1 cap) ∧ W2.frozen? ⟨d, 1, none⟩ = false ∧ w1.heap.size ≠ d ∧ (w1.heap.size ≠ p → W2.cell? ⟨w1.heap.size, 1, none⟩ = some (.int .i64 f.keep) ∧ W2.cell? ⟨w1.heap.size, 2, none⟩ = some (.int .i64 f.torn))) := fun W2 t => by
    have hdp : d ≠ p := fun e => by rw [e, hpW] at hdW; cases hdW
    have hxp : w.heap.size ≠ p := by omega
    have e1 := (t.block _ (block_lt hboxW) hxp).trans hboxW
    have e2 := (t.block d (block_lt hdW) hdp)
    refine ⟨by rw [cell_of_row _ _ _ _ _ _ e1]; rfl, ?_, frozen_of_row _ _ _ _ _ (e2.trans hdW), by omega, fun hne => ?_⟩
    · have : W2.cell? ⟨d, 1, none⟩ = W.cell? ⟨d, 1, none⟩ := World.cell?_of_block e2
      rw [this]; exact v1
    · have e3 := (t.block _ (block_lt hG) hne).trans hG
      exact ⟨by rw [cell_of_row _ _ _ _ _ _ e3]; rfl, by rw [cell_of_row _ _ _ _ _ _ e3]; rfl⟩
  have HD2 := hide (fun W' (hx : W'.heap[p]? = some (.cells cur 34 (0, 0))) => HDl.out W' hx)
  have HPW := hide hpW
  have hGp : w1.heap.size ≠ p := by omega
  clear hbox hp1 hd1 u0 u1 u2 hboxW hpW hdW HP HR HDl ka hG
  go_region_with (go_at_call 131; refine (HD2.out _ (by exact HPW.out)).mono ?_; rintro e W2 ⟨rfl, hcur, t2⟩; have t2' : Tch (· = p) W W2 := ⟨t2.os, t2.tape, t2.output, t2.size, t2.block⟩; obtain ⟨y0, y1, y2, y3, y4⟩ := HX.out W2 t2'; obtain ⟨y5, y6⟩ := y4 hGp)
  all_goals
    have HF3 := hide (HFin.out W W2 _ kW hcur t2' rfl)
    clear hcur t2 t2' HX HD2 HPW HFin
    go_wp2_with (go_at_call 16; refine (HC.out _ HF3.out.1 HF3.out.2).mono ?_; rintro e w4 ⟨rfl, T, hT, hD, hk⟩)
    go_ret
    exact ⟨rfl, T, hT, hD, Dsk.trans HF3.out.2 hk⟩
end Go.Proofs.YtoineobjmllicaaGreatDoor
