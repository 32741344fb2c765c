/- Contract: the disk has just what the document has. -/
import Derived.Test.YtnjkahoaogeecaaDiskBoth
namespace Go.Dk
open Go.RowKit
theorem Both.files {P : Program} {base K d : Nat} {w : World} {S : WD} {D : RD} (h : Both P base K d w S D) : S.fs.map WF.a = D.rs.map RF.a := by
  rw [h.disk.same, h.same, h.ref.same]
theorem Both.len {P : Program} {base K d : Nat} {w : World} {S : WD} {D : RD} (h : Both P base K d w S D) : S.fs.length = D.rs.length := by
  have := congrArg List.length h.files
  simpa using this
theorem Both.at {P : Program} {base K d : Nat} {w : World} {S : WD} {D : RD} (h : Both P base K d w S D) {i : Nat} {r : RF} (hr : D.rs[i]? = some r) : ∃ F, S.fs[i]? = some F ∧ F.a = r.a := by
  have := congrArg (fun l => l[i]?) h.files
  simp only [List.getElem?_map, hr, Option.map_some] at this
  cases hF : S.fs[i]? with
  | none => rw [hF] at this; cases this
  | some F => rw [hF] at this; exact ⟨F, rfl, Option.some.inj this⟩
end Go.Dk
namespace Go.Proofs.Ytnjkahoaogeecaa
open Go.RowKit Go.Dk
set_option maxRecDepth 100000 in
set_option maxHeartbeats 4000000 in
theorem alike_any (base K d : Nat) (S : WD) (D : RD) (w : World) (h : Both Try.prog base K d w S D) : Calls Try.prog 10 #[sideV d D] w fun e w' => e = .returned (.bool true) ∧ Below w.heap.size w w' := by
  obtain ⟨la, lc, hlv⟩ := Sees.form h.ref.falls
  obtain ⟨fa, fc, hfv⟩ := Sees.form h.ref.files
  have HV : D.v = .agg #[.slice fa D.rs.length fc, .int .i64 D.a.room, .slice la (flen D.a.fall) lc, .int .i64 D.a.changes, .bool D.a.down] := by unfold RD.v RD.cs; rw [hfv, hlv]
  have HNAMES : Hid (∀ w1, Below w.heap.size w w1 → Calls Try.prog 21 #[.pointer (some ⟨d, 0, none⟩)] w1 fun e w' => ∃ v, e = .returned v ∧ w'.ownsRow w1.heap.size 9 1 v D.rs.length ((S.fs.map WF.nm).map encStr) ∧ Below w1.heap.size w1 w') := fun w1 hb => by
    have := names_any base K d S w1 (h.disk.below hb)
    rw [h.len] at this
    exact this
  have HUSED : Hid (∀ w1, Below w.heap.size w w1 → Calls Try.prog 22 #[.pointer (some ⟨d, 0, none⟩)] w1 fun e w' => e = .returned (.int .i64 (total D.a.files)) ∧ Below w1.heap.size w1 w') := fun w1 hb => by
    have := used_any base K d S w1 (h.disk.below hb)
    rw [h.same] at this
    exact this
  have HSIZE : Hid (∀ w1, Below w.heap.size w w1 → Calls Try.prog 34 #[.agg #[.slice fa D.rs.length fc, .int .i64 D.a.room, .slice la (flen D.a.fall) lc, .int .i64 D.a.changes, .bool D.a.down]] w1 fun e w' => e = .returned (.int .i64 (total D.a.files)) ∧ Below w1.heap.size w1 w') := fun w1 hb => by
    rw [← HV]
    exact rsize_any K D w1 (h.ref.below hb)
  have HDEAD : Hid (∀ w1, Below w.heap.size w w1 → Calls Try.prog 27 #[.pointer (some ⟨d, 0, none⟩)] w1 fun e w' => e = .returned (.bool D.a.down) ∧ Below w1.heap.size w1 w') := fun w1 hb => by
    have hr := (h.disk.below hb).row
    unfold drow at hr
    rw [← h.same]
    exact (dead_any d _ _ _ _ _ _ w1 hr).mono fun e w' ⟨he, hw⟩ => ⟨he, hw ▸ Below.refl _ _⟩
  have HCHG : Hid (∀ w1, Below w.heap.size w w1 → Calls Try.prog 29 #[.pointer (some ⟨d, 0, none⟩)] w1 fun e w' => e = .returned (.int .i64 D.a.changes) ∧ Below w1.heap.size w1 w') := fun w1 hb => by
    have hr := (h.disk.below hb).row
    unfold drow at hr
    rw [← h.same]
    exact (changes_any d _ _ _ _ _ _ w1 hr).mono fun e w' ⟨he, hw⟩ => ⟨he, hw ▸ Below.refl _ _⟩
  have HLOOSE : Hid (∀ w1, Below w.heap.size w w1 → Calls Try.prog 20 #[.pointer (some ⟨d, 0, none⟩)] w1 fun e w' => e = .returned (.int .i64 (looseOf D.a.files)) ∧ Below w1.heap.size w1 w') := fun w1 hb => by
    have := loose_any base K d S w1 (h.disk.below hb)
    rw [h.same] at this
    exact this
  have HRLOOSE : Hid (∀ w1, Below w.heap.size w w1 → Calls Try.prog 35 #[.agg #[.slice fa D.rs.length fc, .int .i64 D.a.room, .slice la (flen D.a.fall) lc, .int .i64 D.a.changes, .bool D.a.down]] w1 fun e w' => e = .returned (.int .i64 (looseOf D.a.files)) ∧ Below w1.heap.size w1 w') := fun w1 hb => by
    rw [← HV]
    exact rloose_any K D w1 (h.ref.below hb)
  have hlim := h.ref.lim
  have hcnt := h.ref.count
  have HF : Hid (∀ i, i < D.rs.length → ∃ r, D.rs[i]? = some r ∧ ((S.fs.map WF.nm).map encStr)[i]? = some (.string ⟨r.a.name.toArray⟩) ∧ (∃ b off cap, Value.slice fa D.rs.length fc = .slice (some ⟨b, off, none⟩) D.rs.length cap ∧ D.rs.length ≤ cap ∧ b < w.heap.size ∧ w.cell? ⟨b, off + i * 4, none⟩ = some (txt r.a.name) ∧ w.cell? ⟨b, off + i * 4 + 1, none⟩ = some (txt r.a.sure) ∧ w.cell? ⟨b, off + i * 4 + 2, none⟩ = some (.bool r.a.settled) ∧ w.cell? ⟨b, off + i * 4 + 3, none⟩ = some r.pv) ∧
      (∃ pa pc, r.pv = .slice pa r.a.puts.length pc ∧ ∀ w1, Below w.heap.size w w1 → Calls Try.prog 36 #[.agg #[.string ⟨r.a.name.toArray⟩, .string ⟨r.a.sure.toArray⟩, .bool r.a.settled, .slice pa r.a.puts.length pc]] w1 fun e w' => e = .returned (.string ⟨r.a.bytes.toArray⟩) ∧ Below w1.heap.size w1 w') ∧
      ∀ w1, Below w.heap.size w w1 → Calls Try.prog 19 #[.pointer (some ⟨d, 0, none⟩), .string ⟨r.a.name.toArray⟩] w1 fun e w' => e = .returned (.tuple #[.string (if D.a.down = true then ⟨#[]⟩ else ⟨r.a.bytes.toArray⟩), .int .i64 (if D.a.down = true then 7 else 0)]) ∧ Below w1.heap.size w1 w') := fun i hi => by
    have hr : D.rs[i]? = some D.rs[i] := List.getElem?_eq_getElem hi
    generalize D.rs[i] = r at hr
    have hm := List.mem_of_getElem? hr
    obtain ⟨F, hF, hFa⟩ := h.at hr
    have hsm := h.ref.small r hm
    have hpl := hsm.puts
    obtain ⟨pa, pc, hpv⟩ := Sees.form (h.ref.puts r hm)
    have hn : nameOk r.a.name = true := hsm.name
    have hnl : r.a.name.length ≤ 240 := by
      unfold nameOk at hn
      simp only [Bool.and_eq_true, decide_eq_true_eq] at hn
      exact hn.1.2
    have hsz : (⟨r.a.name.toArray⟩ : ByteArray).size ≤ maxLen := by rw [txt_size]; unfold maxLen; omega
    refine ⟨r, hr, ?_, ?_, ⟨pa, pc, hpv, fun w1 hb => ?_⟩, fun w1 hb => ?_⟩
    · rw [List.getElem?_map, List.getElem?_map, hF]
      show some (encStr F.a.name) = _
      rw [hFa]
    · rw [← hfv]
      exact h.ref.files.file hr
    · have := rbytes_any r w1 (Sees.below (h.ref.puts r hm) hb) (by omega) (hsm.after hlim)
      unfold RF.v RF.cs txt at this
      rw [hpv] at this
      exact this
    · cases hd : D.a.down with
      | true =>
        rw [if_pos rfl, if_pos rfl]
        exact (read_err base K d S ⟨r.a.name.toArray⟩ 7 w1 (h.disk.below hb) hsz (by unfold ableOf; rw [h.same, hd]; rfl) (by decide)).mono fun e w' ⟨he, hw⟩ => ⟨he, hw ▸ Below.refl _ _⟩
      | false =>
        rw [if_neg (by decide), if_neg (by decide)]
        have hmF := List.mem_of_getElem? hF
        have hsk : seek WF.nm r.a.name S.fs = some F := by
          have := seek_mem h.disk.files.rises hmF
          rw [show F.nm = r.a.name from congrArg AF.name hFa] at this
          exact this
        have := read_some base K d S ⟨r.a.name.toArray⟩ F w1 (h.disk.below hb) hsz (by unfold ableOf; rw [h.same, hd]; show (if nameOk r.a.name = true then _ else _) = _; rw [hn]; rfl) hsk
        rw [hFa] at this
        exact this.mono fun e w' ⟨he, hw⟩ => ⟨he, hw ▸ Below.refl _ _⟩
  have hlenS := h.len
  unfold sideV sideCs
  rw [hfv, hlv]
  clear h HV hfv hlv
  generalize hrs : D.rs.length = n at *
  go_enter Try.func10, Try.ntmps10
  go_upto_region 2 with (go_at_call 21; refine (HNAMES.out _ ((Below.refl w.heap.size w).alloc (Nat.le_refl _) _)).mono ?_; rintro e w1 ⟨v, rfl, hown, k1⟩; have x1 := row_kept (heap_alloc_new w (.cells #[.pointer (some ⟨d, 0, none⟩), .slice fa n fc, .int .i64 D.a.room, .slice la (flen D.a.fall) lc, .int .i64 D.a.changes, .bool D.a.down] 29)) k1; have HN := hide (And.intro hown (And.intro x1 (((Below.refl w.heap.size w).alloc (Nat.le_refl _) _).trans (k1.mono (by simp)) : Below w.heap.size w w1))); obtain ⟨va, vc, hv⟩ := RegionOwn.own_form hown; clear hown x1 k1; subst hv)
  obtain ⟨c0, c1, c2, c3, c4, c5⟩ := cells6s HN.out.2.1
  have e0 := cell_regrown c0
  have e1 := cell_regrown c1
  have e2 := cell_regrown c2
  have e3 := cell_regrown c3
  have e4 := cell_regrown c4
  have e5 := cell_regrown c5
  clear c0 c1 c2 c3 c4 c5
  refine QuietCalls.region (by kernel_rfl) (by kernel_rfl) ?_
  iterate 10 (first | go_big_quiet_step (fail) | quiet_step (fail))
  refine QuietCalls.call1 rfl rfl Try.call22 (fun w' hb => HUSED.out w' (HN.out.2.2.trans (hb.mono HN.out.2.2.size))) rfl ?_; simp only [Act.put, List.setIfInBounds_toArray, List.set_cons_succ, List.set_cons_zero]
  iterate 2 (first | go_big_quiet_step (fail) | quiet_step (fail))
  refine QuietCalls.call1 rfl rfl Try.call34 (fun w' hb => HSIZE.out w' (HN.out.2.2.trans (hb.mono HN.out.2.2.size))) rfl ?_; simp only [Act.put, List.setIfInBounds_toArray, List.set_cons_succ, List.set_cons_zero]
  iterate 5 (first | go_big_quiet_step (fail) | quiet_step (fail))
  refine QuietCalls.call1 rfl rfl Try.call27 (fun w' hb => HDEAD.out w' (HN.out.2.2.trans (hb.mono HN.out.2.2.size))) rfl ?_; simp only [Act.put, List.setIfInBounds_toArray, List.set_cons_succ, List.set_cons_zero]
  iterate 8 (first | go_big_quiet_step (fail) | quiet_step (fail))
  refine QuietCalls.call1 rfl rfl Try.call29 (fun w' hb => HCHG.out w' (HN.out.2.2.trans (hb.mono HN.out.2.2.size))) rfl ?_; simp only [Act.put, List.setIfInBounds_toArray, List.set_cons_succ, List.set_cons_zero]
  iterate 8 (first | go_big_quiet_step (fail) | quiet_step (fail))
  refine QuietCalls.call1 rfl rfl Try.call20 (fun w' hb => HLOOSE.out w' (HN.out.2.2.trans (hb.mono HN.out.2.2.size))) rfl ?_; simp only [Act.put, List.setIfInBounds_toArray, List.set_cons_succ, List.set_cons_zero]
  iterate 2 (first | go_big_quiet_step (fail) | quiet_step (fail))
  refine QuietCalls.call1 rfl rfl Try.call35 (fun w' hb => HRLOOSE.out w' (HN.out.2.2.trans (hb.mono HN.out.2.2.size))) rfl ?_; simp only [Act.put, List.setIfInBounds_toArray, List.set_cons_succ, List.set_cons_zero]
  iterate 2 (first | go_big_quiet_step (fail) | quiet_step (fail))
  refine wpQuiet_nil ?_
  intro w2 k
  clear e0 e1 e2 e3 e4 e5
  go_wp2
  go_loopw [4] (fun vi wr => ∃ i : Nat, i ≤ n ∧ vi = .int .i64 i ∧ Hid (Below w1.heap.size w1 wr)) (fun vi _ => n - (intOf vi).toNat)
  case atStart => exact ⟨0, Nat.zero_le _, rfl, k⟩
  case round =>
    obtain ⟨i, hi, rfl, HB⟩ := hrel
    have HBw : Hid (Below w.heap.size w wr) := HN.out.2.2.trans (HB.out.mono HN.out.2.2.size)
    by_cases hlt : i < n
    · obtain ⟨r, hr, hnm, ⟨b, off, cap, hv, hcap, hbw, d0, d1, d2, d3⟩, ⟨pa, pc, hpv, hbytes⟩, hread⟩ := HF.out i hlt
      cases hv
      rw [hpv] at d3
      unfold txt at d0 d1
      have e : ∀ k u, w.cell? ⟨b, k, none⟩ = some u → wr.cell? ⟨b, k, none⟩ = some u := fun k u hu => (HBw.out.cell (p := ⟨b, k, none⟩) hbw).trans hu
      have q0 := e _ _ d0
      have q1 := e _ _ d1
      have q2 := e _ _ d2
      have q3 := e _ _ d3
      obtain ⟨g, hva, hvc, hgw1, hm1⟩ : ∃ g, va = some ⟨g, 0, none⟩ ∧ n ≤ vc ∧ g < w1.heap.size ∧ w1.cell? ⟨g, i, none⟩ = some (.string ⟨r.a.name.toArray⟩) := by
        rcases HN.out.1.2 with ⟨_, h0⟩ | ⟨g, cap', cur, h1, _, h3, h4, _, _, _⟩
        · omega
        · cases h1
          refine ⟨g, rfl, h4, block_lt h3, ?_⟩
          have := HN.out.1.cells (g := g) rfl i _ hnm
          rw [add_lit, Nat.zero_add] at this
          exact this
      subst hva
      have hgw : g < wr.heap.size := Nat.lt_of_lt_of_le hgw1 HB.out.size
      have m0 := (HB.out.cell (p := ⟨g, i, none⟩) hgw1).trans hm1
      have x1 := row_kept HN.out.2.1 HB.out
      have HBY := hide hbytes
      clear e d0 d1 d2 d3 hr hnm hpv hbytes hm1
      cases hd : D.a.down with
      | true =>
        rw [hd] at x1 hread
        rw [hd] at HN
        rw [if_pos rfl, if_pos rfl] at hread
        have HREAD := hide hread
        clear hread
        obtain ⟨c0, c1, c2, c3, c4, c5⟩ := cells6s x1
        clear x1
        go_upto_region 7 with fail
        have e0 := cell_regrown c0
        have en := cell_regrown m0
        refine QuietCalls.region (by kernel_rfl) (by kernel_rfl) ?_
        iterate 6 (first | go_big_quiet_step (fail) | quiet_step (fail))
        refine QuietCalls.call2 rfl rfl Try.call19 (fun w' hb => HREAD.out w' (HBw.out.trans (hb.mono HBw.out.size))) rfl rfl ?_; simp only [Act.put, List.setIfInBounds_toArray, List.set_cons_succ, List.set_cons_zero]
        iterate 5 (first | go_big_quiet_step (fail) | quiet_step (fail))
        refine wpQuiet_nil ?_
        intro w2 k2
        clear e0 en
        have HB2 : Hid (Below w1.heap.size w1 w2) := HB.out.trans (k2.mono HB.out.size)
        obtain ⟨e0, e1, e2, e3, e4, e5⟩ := cells6s (row_kept HN.out.2.1 HB2.out)
        have m0' := (k2.cell (p := ⟨g, i, none⟩) hgw).trans m0
        have hbw2 : b < wr.heap.size := Nat.lt_of_lt_of_le hbw HBw.out.size
        have q0' := (k2.cell (p := ⟨b, off + i * 4, none⟩) hbw2).trans q0
        have q1' := (k2.cell (p := ⟨b, off + i * 4 + 1, none⟩) hbw2).trans q1
        have q2' := (k2.cell (p := ⟨b, off + i * 4 + 2, none⟩) hbw2).trans q2
        have q3' := (k2.cell (p := ⟨b, off + i * 4 + 3, none⟩) hbw2).trans q3
        have HBw2 : Hid (Below w.heap.size w w2) := HBw.out.trans (k2.mono HBw.out.size)
        clear k2 c0 c1 c2 c3 c4 c5 m0 q0 q1 q2 q3
        go_upto_region 8 with fail
        have z1 := cell_regrown e1
        have z5 := cell_regrown e5
        have zn := cell_regrown m0'
        have y0 := cell_regrown q0'
        have y1 := cell_regrown q1'
        have y2 := cell_regrown q2'
        have y3 := cell_regrown q3'
        clear e0 e1 e2 e3 e4 e5 m0' q0' q1' q2' q3'
        refine QuietCalls.region (by kernel_rfl) (by kernel_rfl) ?_
        iterate 42 (first | go_big_quiet_step (fail) | quiet_step (fail))
        refine wpQuiet_nil ?_
        intro w3 k3
        clear z1 z5 zn y0 y1 y2 y3
        go_wp2
        refine ⟨⟨i + 1, by omega, by go_num, HB2.out.trans (k3.mono HB2.out.size)⟩, by simp [intOf]; omega⟩
      | false =>
        rw [hd] at x1 hread
        rw [hd] at HN
        rw [if_neg (by decide), if_neg (by decide)] at hread
        have HREAD := hide hread
        clear hread
        obtain ⟨c0, c1, c2, c3, c4, c5⟩ := cells6s x1
        clear x1
        go_upto_region 7 with fail
        have e0 := cell_regrown c0
        have en := cell_regrown m0
        refine QuietCalls.region (by kernel_rfl) (by kernel_rfl) ?_
        iterate 6 (first | go_big_quiet_step (fail) | quiet_step (fail))
        refine QuietCalls.call2 rfl rfl Try.call19 (fun w' hb => HREAD.out w' (HBw.out.trans (hb.mono HBw.out.size))) rfl rfl ?_; simp only [Act.put, List.setIfInBounds_toArray, List.set_cons_succ, List.set_cons_zero]
        iterate 5 (first | go_big_quiet_step (fail) | quiet_step (fail))
        refine wpQuiet_nil ?_
        intro w2 k2
        clear e0 en
        have HB2 : Hid (Below w1.heap.size w1 w2) := HB.out.trans (k2.mono HB.out.size)
        obtain ⟨e0, e1, e2, e3, e4, e5⟩ := cells6s (row_kept HN.out.2.1 HB2.out)
        have m0' := (k2.cell (p := ⟨g, i, none⟩) hgw).trans m0
        have hbw2 : b < wr.heap.size := Nat.lt_of_lt_of_le hbw HBw.out.size
        have q0' := (k2.cell (p := ⟨b, off + i * 4, none⟩) hbw2).trans q0
        have q1' := (k2.cell (p := ⟨b, off + i * 4 + 1, none⟩) hbw2).trans q1
        have q2' := (k2.cell (p := ⟨b, off + i * 4 + 2, none⟩) hbw2).trans q2
        have q3' := (k2.cell (p := ⟨b, off + i * 4 + 3, none⟩) hbw2).trans q3
        have HBw2 : Hid (Below w.heap.size w w2) := HBw.out.trans (k2.mono HBw.out.size)
        clear k2 c0 c1 c2 c3 c4 c5 m0 q0 q1 q2 q3
        go_upto_region 8 with fail
        have z1 := cell_regrown e1
        have z5 := cell_regrown e5
        have zn := cell_regrown m0'
        have y0 := cell_regrown q0'
        have y1 := cell_regrown q1'
        have y2 := cell_regrown q2'
        have y3 := cell_regrown q3'
        clear e0 e1 e2 e3 e4 e5 m0' q0' q1' q2' q3'
        refine QuietCalls.region (by kernel_rfl) (by kernel_rfl) ?_
        iterate 37 (first | go_big_quiet_step (fail) | quiet_step (fail))
        refine QuietCalls.call1 rfl rfl Try.call36 (fun w' hb => HBY.out w' (HBw2.out.trans (hb.mono HBw2.out.size))) rfl ?_; simp only [Act.put, List.setIfInBounds_toArray, List.set_cons_succ, List.set_cons_zero]
        iterate 4 (first | go_big_quiet_step (fail) | quiet_step (fail))
        refine wpQuiet_nil ?_
        intro w3 k3
        clear z1 z5 zn y0 y1 y2 y3
        go_wp2
        refine ⟨⟨i + 1, by omega, by go_num, HB2.out.trans (k3.mono HB2.out.size)⟩, by simp [intOf]; omega⟩
    · have : i = n := by omega
      subst this
      go_wp2
      go_ret
      exact ⟨rfl, HBw.out⟩
end Go.Proofs.Ytnjkahoaogeecaa
