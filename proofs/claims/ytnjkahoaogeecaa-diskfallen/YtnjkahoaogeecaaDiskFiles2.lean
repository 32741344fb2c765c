/- Contract: a change of files is done to both disks: bytes that are put. -/
import Derived.Test.YtnjkahoaogeecaaDiskFiles
import Derived.Test.YtnjkahoaogeecaaRegionAll
namespace Go.Proofs.Ytnjkahoaogeecaa
open Go.RowKit Go.Dk
set_option maxRecDepth 100000 in
set_option maxHeartbeats 4000000 in
theorem files_1 (base K d : Nat) (S : WD) (D : RD) (a : Ac) (w : World) (h : Both Try.prog base K d w S D) (hf : a.Fits) (hK : K + 1 ≤ 100000) (hk : a.kind = 1) : Calls Try.prog 33 #[sideV d D, a.v] w (Filed Try.prog base K d w D (D.a.doPut a.name.data.toList ⟨(few60 a.s).data.toList, true⟩)) := by
  obtain ⟨la, lc, hlv⟩ := Sees.form h.ref.falls
  obtain ⟨fa, fc, hfv⟩ := Sees.form h.ref.files
  have HV : D.v = .agg #[.slice fa D.rs.length fc, .int .i64 D.a.room, .slice la (flen D.a.fall) lc, .int .i64 D.a.changes, .bool D.a.down] := by unfold RD.v RD.cs; rw [hfv, hlv]
  have hname : a.name.size ≤ maxLen := by unfold maxLen; exact hf.name
  have hss : a.s.size ≤ maxLen := by unfold maxLen; exact hf.s
  have hfew : (few60 a.s).size ≤ 100 := Nat.le_trans (few60_size a.s) (by decide)
  have HW : Hid ((((w.alloc (.cells #[.pointer (some ⟨d, 0, none⟩), .slice fa D.rs.length fc, .int .i64 D.a.room, .slice la (flen D.a.fall) lc, .int .i64 D.a.changes, .bool D.a.down] 29)).alloc (.cells #[.int .i64 1, .string a.name, .string a.dst, .string a.s, .int .i64 a.n, .int .i64 a.f.on, .int .i64 a.f.keep, .int .i64 a.f.torn] 36)).alloc (.cells #[Value.pointer none, Value.slice none 0 0, Value.int IntKind.i64 0, Value.slice none 0 0, Value.int IntKind.i64 0, Value.bool false] 29)).heap[w.heap.size]? = some (.cells #[.pointer (some ⟨d, 0, none⟩), .slice fa D.rs.length fc, .int .i64 D.a.room, .slice la (flen D.a.fall) lc, .int .i64 D.a.changes, .bool D.a.down] 29 (0, 0)) ∧ (((w.alloc (.cells #[.pointer (some ⟨d, 0, none⟩), .slice fa D.rs.length fc, .int .i64 D.a.room, .slice la (flen D.a.fall) lc, .int .i64 D.a.changes, .bool D.a.down] 29)).alloc (.cells #[.int .i64 1, .string a.name, .string a.dst, .string a.s, .int .i64 a.n, .int .i64 a.f.on, .int .i64 a.f.keep, .int .i64 a.f.torn] 36)).alloc (.cells #[Value.pointer none, Value.slice none 0 0, Value.int IntKind.i64 0, Value.slice none 0 0, Value.int IntKind.i64 0, Value.bool false] 29)).heap[w.heap.size + 1]? = some (.cells #[.int .i64 1, .string a.name, .string a.dst, .string a.s, .int .i64 a.n, .int .i64 a.f.on, .int .i64 a.f.keep, .int .i64 a.f.torn] 36 (0, 0)) ∧ (((w.alloc (.cells #[.pointer (some ⟨d, 0, none⟩), .slice fa D.rs.length fc, .int .i64 D.a.room, .slice la (flen D.a.fall) lc, .int .i64 D.a.changes, .bool D.a.down] 29)).alloc (.cells #[.int .i64 1, .string a.name, .string a.dst, .string a.s, .int .i64 a.n, .int .i64 a.f.on, .int .i64 a.f.keep, .int .i64 a.f.torn] 36)).alloc (.cells #[Value.pointer none, Value.slice none 0 0, Value.int IntKind.i64 0, Value.slice none 0 0, Value.int IntKind.i64 0, Value.bool false] 29)).heap[w.heap.size + 2]? = some (.cells #[Value.pointer none, Value.slice none 0 0, Value.int IntKind.i64 0, Value.slice none 0 0, Value.int IntKind.i64 0, Value.bool false] 29 (0, 0)) ∧ Below w.heap.size w (((w.alloc (.cells #[.pointer (some ⟨d, 0, none⟩), .slice fa D.rs.length fc, .int .i64 D.a.room, .slice la (flen D.a.fall) lc, .int .i64 D.a.changes, .bool D.a.down] 29)).alloc (.cells #[.int .i64 1, .string a.name, .string a.dst, .string a.s, .int .i64 a.n, .int .i64 a.f.on, .int .i64 a.f.keep, .int .i64 a.f.torn] 36)).alloc (.cells #[Value.pointer none, Value.slice none 0 0, Value.int IntKind.i64 0, Value.slice none 0 0, Value.int IntKind.i64 0, Value.bool false] 29))) := three_below (Below.refl _ _)
  have hW := h.below HW.out.2.2.2
  have HPROG : Hid (∀ U, Below (((w.alloc (.cells #[.pointer (some ⟨d, 0, none⟩), .slice fa D.rs.length fc, .int .i64 D.a.room, .slice la (flen D.a.fall) lc, .int .i64 D.a.changes, .bool D.a.down] 29)).alloc (.cells #[.int .i64 1, .string a.name, .string a.dst, .string a.s, .int .i64 a.n, .int .i64 a.f.on, .int .i64 a.f.keep, .int .i64 a.f.torn] 36)).alloc (.cells #[Value.pointer none, Value.slice none 0 0, Value.int IntKind.i64 0, Value.slice none 0 0, Value.int IntKind.i64 0, Value.bool false] 29)).heap.size (((w.alloc (.cells #[.pointer (some ⟨d, 0, none⟩), .slice fa D.rs.length fc, .int .i64 D.a.room, .slice la (flen D.a.fall) lc, .int .i64 D.a.changes, .bool D.a.down] 29)).alloc (.cells #[.int .i64 1, .string a.name, .string a.dst, .string a.s, .int .i64 a.n, .int .i64 a.f.on, .int .i64 a.f.keep, .int .i64 a.f.torn] 36)).alloc (.cells #[Value.pointer none, Value.slice none 0 0, Value.int IntKind.i64 0, Value.slice none 0 0, Value.int IntKind.i64 0, Value.bool false] 29)) U → Calls Try.prog 12 #[.pointer (some ⟨d, 0, none⟩), .string a.name, .string (few60 a.s)] U (Did Try.prog base (K + 1) d U (D.a.doPut a.name.data.toList ⟨(few60 a.s).data.toList, true⟩))) := fun U hU => by
    have hB := hW.below hU
    have := write_op base K d S a.name (few60 a.s) U hB.disk hB.start hK hname hfew
    rw [h.same] at this
    exact this
  have HREF : Hid (∀ w1, Dsk base (((w.alloc (.cells #[.pointer (some ⟨d, 0, none⟩), .slice fa D.rs.length fc, .int .i64 D.a.room, .slice la (flen D.a.fall) lc, .int .i64 D.a.changes, .bool D.a.down] 29)).alloc (.cells #[.int .i64 1, .string a.name, .string a.dst, .string a.s, .int .i64 a.n, .int .i64 a.f.on, .int .i64 a.f.keep, .int .i64 a.f.torn] 36)).alloc (.cells #[Value.pointer none, Value.slice none 0 0, Value.int IntKind.i64 0, Value.slice none 0 0, Value.int IntKind.i64 0, Value.bool false] 29)) w1 → Calls Try.prog 54 #[.agg #[.slice fa D.rs.length fc, .int .i64 D.a.room, .slice la (flen D.a.fall) lc, .int .i64 D.a.changes, .bool D.a.down], .string a.name, .agg #[.string (few60 a.s), .bool true]] w1 fun e w' => ∃ D' : RD, e = .returned (.tuple #[D'.v, .int .i64 (D.a.doPut a.name.data.toList ⟨(few60 a.s).data.toList, true⟩).2]) ∧ D'.a = (D.a.doPut a.name.data.toList ⟨(few60 a.s).data.toList, true⟩).1 ∧ RefAt (K + 1) w' D' ∧ Below w1.heap.size w1 w') := fun w1 hk1 => by
    rw [← HV]
    exact rput_any K D a.name (few60 a.s) true w1 (hW.ref.dsk hk1) hK hname hfew h.room
  have HMAKE : Hid (∀ (T : WD) (D' : RD) w1 w2, T.a = (D.a.doPut a.name.data.toList ⟨(few60 a.s).data.toList, true⟩).1 → DiskAt Try.prog base (K + 1) d w1 T → D'.a = (D.a.doPut a.name.data.toList ⟨(few60 a.s).data.toList, true⟩).1 → RefAt (K + 1) w2 D' → Below w1.heap.size w1 w2 → Dsk base (((w.alloc (.cells #[.pointer (some ⟨d, 0, none⟩), .slice fa D.rs.length fc, .int .i64 D.a.room, .slice la (flen D.a.fall) lc, .int .i64 D.a.changes, .bool D.a.down] 29)).alloc (.cells #[.int .i64 1, .string a.name, .string a.dst, .string a.s, .int .i64 a.n, .int .i64 a.f.on, .int .i64 a.f.keep, .int .i64 a.f.torn] 36)).alloc (.cells #[Value.pointer none, Value.slice none 0 0, Value.int IntKind.i64 0, Value.slice none 0 0, Value.int IntKind.i64 0, Value.bool false] 29)) w1 → Both Try.prog base (K + 1) d w2 T D') := fun T D' w1 w2 h1 h2 h3 h4 h5 h6 => ⟨h2.below h5, h4, h1.trans h3.symm, Nat.le_trans hW.start (Nat.le_trans h6.size h5.size), by rw [h3, doPut_room]; exact h.room⟩
  have HEND : Hid (∀ (T : WD) (D' : RD) w', Both Try.prog base (K + 1) d w' T D' → D'.a = (D.a.doPut a.name.data.toList ⟨(few60 a.s).data.toList, true⟩).1 → Dsk base w w' → Filed Try.prog base K d w D (D.a.doPut a.name.data.toList ⟨(few60 a.s).data.toList, true⟩) (.returned (.tuple #[sideV d D', .int .i64 (D.a.doPut a.name.data.toList ⟨(few60 a.s).data.toList, true⟩).2, .int .i64 (D.a.doPut a.name.data.toList ⟨(few60 a.s).data.toList, true⟩).2])) w') := fun T D' w' h1 h2 h3 => ⟨T, D', rfl, h1, h2, h3⟩
  generalize D.a.doPut a.name.data.toList ⟨(few60 a.s).data.toList, true⟩ = R at *
  generalize hX : Filed Try.prog base K d w D R = X at *
  clear hX HV h hW
  unfold sideV sideCs Ac.v Ac.cs
  rw [hfv, hlv, hk]
  clear hfv hlv hk
  unfold Did at HPROG
  go_enter Try.func33, Try.ntmps33
  go_upto_block 0 with fail
  go_cut [7, 8] from 9 to 125 (fun u v wx => u = .int .i64 R.2 ∧ v = .int .i64 R.2 ∧ Hid (∃ (T : WD) (D' : RD), D'.a = R.1 ∧ Both Try.prog base (K + 1) d wx T D' ∧ Dsk base w wx ∧ wx.heap[w.heap.size]? = some (.cells #[.pointer (some ⟨d, 0, none⟩), D'.fv, .int .i64 D'.a.room, D'.lv, .int .i64 D'.a.changes, .bool D'.a.down] 29 (0, 0)) ∧ wx.heap[w.heap.size + 2]? = some (.cells #[Value.pointer none, Value.slice none 0 0, Value.int IntKind.i64 0, Value.slice none 0 0, Value.int IntKind.i64 0, Value.bool false] 29 (0, 0))))
  case rest =>
    obtain ⟨rfl, rfl, HC⟩ := hcut
    obtain ⟨T, D', ha, hB, hk, r2, r4⟩ := HC.out
    obtain ⟨fa', fc', hfv'⟩ := Sees.form hB.ref.files
    obtain ⟨la', lc', hlv'⟩ := Sees.form hB.ref.falls
    rw [hfv', hlv'] at r2
    obtain ⟨c0, c1, c2, c3, c4, c5⟩ := cells6s r2
    obtain ⟨d0, d1, d2, d3, d4, d5⟩ := cells6s r4
    obtain ⟨e0, e1, e2, e3, e4, e5⟩ := frozen6s r4
    have HZ := hide (And.intro ha (And.intro hB (And.intro hk (And.intro r2 r4))))
    clear ha hB hk r2 r4 HC HW HPROG HREF HMAKE
    go_wp2
    have t2 := tch_set6 wc (w.heap.size + 2) (.pointer (some ⟨d, 0, none⟩)) (Value.slice fa' D'.rs.length fc') (.int .i64 D'.a.room) (.slice la' (flen D'.a.fall) lc') (.int .i64 D'.a.changes) (.bool D'.a.down)
    refine bodyPost_ret (results_three Try.results33 _ _ _ 29 _ (0, 0) _ rfl (set6 HZ.out.2.2.2.2 _ _ _ _ _ _) Try.underlying29 rfl infoSide) rfl ?_
    have := HEND.out T D' _ (HZ.out.2.1.turned HZ.out.2.2.2.2 t2) HZ.out.1 (HZ.out.2.2.1.own (Nat.le_add_right _ 2) t2)
    unfold sideV sideCs at this
    rw [hfv', hlv'] at this
    exact this
  case first =>
  rename_i J K' hJ hK'
  go_upto_region 6 with fail
  have q0 := cell_regrown (cells6s HW.out.1).1
  have q1 := cell_regrown (cells8 HW.out.2.1).2.1
  have q3 := cell_regrown (cells8 HW.out.2.1).2.2.2.1
  refine QTail.wp_region_tail (fun w' => ∃ p : Regrown, w' = Sort.grow (redrawn (((w.alloc (.cells #[.pointer (some ⟨d, 0, none⟩), .slice fa D.rs.length fc, .int .i64 D.a.room, .slice la (flen D.a.fall) lc, .int .i64 D.a.changes, .bool D.a.down] 29)).alloc (.cells #[.int .i64 1, .string a.name, .string a.dst, .string a.s, .int .i64 a.n, .int .i64 a.f.on, .int .i64 a.f.keep, .int .i64 a.f.torn] 36)).alloc (.cells #[Value.pointer none, Value.slice none 0 0, Value.int IntKind.i64 0, Value.slice none 0 0, Value.int IntKind.i64 0, Value.bool false] 29)) p.d) p.os) 7 (by kernel_rfl) (by kernel_rfl) ⟨⟨(((w.alloc (.cells #[.pointer (some ⟨d, 0, none⟩), .slice fa D.rs.length fc, .int .i64 D.a.room, .slice la (flen D.a.fall) lc, .int .i64 D.a.changes, .bool D.a.down] 29)).alloc (.cells #[.int .i64 1, .string a.name, .string a.dst, .string a.s, .int .i64 a.n, .int .i64 a.f.on, .int .i64 a.f.keep, .int .i64 a.f.torn] 36)).alloc (.cells #[Value.pointer none, Value.slice none 0 0, Value.int IntKind.i64 0, Value.slice none 0 0, Value.int IntKind.i64 0, Value.bool false] 29)).drawn + 1, #[]⟩, by rw [Sort.grow_empty]; rfl⟩ ?_
  simp only [List.take_succ_cons, List.take_zero, List.drop_succ_cons, List.drop_zero]
  iterate 6 (first | go_big_quiet_step (fail) | quiet_step (fail))
  refine QuietCalls.call1 rfl rfl Try.call53 (fun w' _ => (few_any a.s w' hss).mono fun e w'' ⟨he, hw⟩ => ⟨he, hw ▸ Below.refl _ _⟩) rfl ?_; simp only [Act.put, List.setIfInBounds_toArray, List.set_cons_succ, List.set_cons_zero]
  refine wpQuiet_nil ?_
  rintro _ ⟨⟨dq, osq⟩, rfl⟩
  have hbl' := below_regrown (((w.alloc (.cells #[.pointer (some ⟨d, 0, none⟩), .slice fa D.rs.length fc, .int .i64 D.a.room, .slice la (flen D.a.fall) lc, .int .i64 D.a.changes, .bool D.a.down] 29)).alloc (.cells #[.int .i64 1, .string a.name, .string a.dst, .string a.s, .int .i64 a.n, .int .i64 a.f.on, .int .i64 a.f.keep, .int .i64 a.f.torn] 36)).alloc (.cells #[Value.pointer none, Value.slice none 0 0, Value.int IntKind.i64 0, Value.slice none 0 0, Value.int IntKind.i64 0, Value.bool false] 29)) dq osq
  clear q0 q1 q3
  generalize Sort.grow (redrawn (((w.alloc (.cells #[.pointer (some ⟨d, 0, none⟩), .slice fa D.rs.length fc, .int .i64 D.a.room, .slice la (flen D.a.fall) lc, .int .i64 D.a.changes, .bool D.a.down] 29)).alloc (.cells #[.int .i64 1, .string a.name, .string a.dst, .string a.s, .int .i64 a.n, .int .i64 a.f.on, .int .i64 a.f.keep, .int .i64 a.f.torn] 36)).alloc (.cells #[Value.pointer none, Value.slice none 0 0, Value.int IntKind.i64 0, Value.slice none 0 0, Value.int IntKind.i64 0, Value.bool false] 29)) dq) osq = U at hbl'
  have HU := hide hbl'
  clear hbl'
  go_upto_region 7 with (go_at_call 12; refine (HPROG.out _ HU.out).mono ?_; rintro e w1 ⟨rfl, T, hT, hD1, hk1⟩; have hk1 := Dsk.trans (Dsk.of_below HU.out) hk1; have HQ := hide (And.intro (box_kept hk1 HW.out.1 (by simp [dkind])) (And.intro (box_kept hk1 HW.out.2.1 (by simp [dkind])) (And.intro (box_kept hk1 HW.out.2.2.1 (by simp [dkind])) (And.intro hT (And.intro hD1 hk1))))); clear hT hD1 hk1)
  · refine RegionOwn.regionKF 12 126 11 (.int .i64 R.2) (fun j => match j with
          | 0 => RegionOwn.val (.pointer (some ⟨w.heap.size, 1, none⟩))
          | 1 => RegionOwn.val (.agg #[.slice fa D.rs.length fc, .int .i64 D.a.room, .slice la (flen D.a.fall) lc, .int .i64 D.a.changes, .bool D.a.down])
          | 2 => RegionOwn.val (.pointer (some ⟨w.heap.size + 1, 1, none⟩))
          | 3 => RegionOwn.val (.string a.name)
          | 4 => RegionOwn.val (.pointer (some ⟨w.heap.size + 1, 3, none⟩))
          | 5 => RegionOwn.val (.string a.s)
          | 6 => RegionOwn.val (.string (few60 a.s))
          | 7 => RegionOwn.val (.agg #[.string (few60 a.s), .bool true])
          | 8 => RegionOwn.fact (fun x v => ∃ D' : RD, v = .tuple #[D'.v, .int .i64 R.2] ∧ D'.a = R.1 ∧ RefAt (K + 1) x D')
          | 9 => RegionOwn.fact (fun x v => ∃ D' : RD, v = .tuple #[D'.v, .int .i64 R.2] ∧ D'.a = R.1 ∧ RefAt (K + 1) x D')
          | 10 => RegionOwn.fact (fun x v => ∃ D' : RD, v = D'.v ∧ D'.a = R.1 ∧ RefAt (K + 1) x D')
          | 11 => RegionOwn.val (.int .i64 R.2)
          | _ => RegionOwn.val undef) ?_ rfl (by kernel_rfl) rfl (by kernel_rfl) ?_ (fun _ _ _ h => h) ?_ ?_ ?_
    · intro j hj
      match j, hj with
      | 0, _ | 1, _ | 2, _ | 3, _ | 4, _ | 5, _ | 6, _ | 7, _ | 8, _ | 9, _ | 10, _ | 11, _ => rfl
      | j + 12, h => exact absurd h (by omega)
    · intro j p hj h
      match j, hj, h with
      | 0, _, h | 1, _, h | 2, _, h | 3, _, h | 4, _, h | 5, _, h | 6, _, h | 7, _, h | 11, _, h => cases h
      | 8, _, h | 9, _, h | 10, _, h => cases h; exact fun x y v ⟨E, e1, e2, e3⟩ hb => ⟨E, e1, e2, e3.below hb⟩
      | j + 12, h, _ => exact absurd h (by omega)
    · intro o ho y x hfr hbx hD
      cases ho
      obtain ⟨D', q, _, _⟩ : ∃ D' : RD, RegionOwn.T y 42 = .tuple #[D'.v, .int .i64 R.2] ∧ D'.a = R.1 ∧ RefAt (K + 1) x D' := hD 9 42 (by decide) rfl (by kernel_rfl)
      refine .inl ⟨rfl, fun w' => ?_⟩
      clear hD hfr hJ hK'
      unfold RegionOwn.T at q
      go_simp
    · intro j hj hjf y x hfr hbx hD K' hK
      have e2 : RegionOwn.T y 2 = .pointer (some ⟨w.heap.size, 0, none⟩) := hfr.at (by kernel_rfl) rfl
      have e3 : RegionOwn.T y 3 = .pointer (some ⟨w.heap.size + 1, 0, none⟩) := hfr.at (by kernel_rfl) rfl
      match j, hj with
        | 0, _ =>
          refine RegionOwn.quiet rfl rfl hK rfl rfl ?_
          clear hK hD hfr
          unfold RegionOwn.T at e2
          go_simp
        | 1, _ =>
          refine RegionOwn.quiet rfl rfl hK rfl rfl ?_
          have q : RegionOwn.T y 43 = .pointer (some ⟨w.heap.size, 1, none⟩) := hD 0 43 (by decide) rfl (by kernel_rfl)
          obtain ⟨c0, c1, c2, c3, c4, c5⟩ := cells6s (row_kept HQ.out.1 hbx)
          clear hK hD hfr
          unfold RegionOwn.T at q
          go_simp
        | 2, _ =>
          refine RegionOwn.quiet rfl rfl hK rfl rfl ?_
          clear hK hD hfr
          unfold RegionOwn.T at e3
          go_simp
        | 3, _ =>
          refine RegionOwn.quiet rfl rfl hK rfl rfl ?_
          have q : RegionOwn.T y 45 = .pointer (some ⟨w.heap.size + 1, 1, none⟩) := hD 2 45 (by decide) rfl (by kernel_rfl)
          obtain ⟨g0, g1, g2, g3, g4, g5, g6, g7⟩ := cells8 (row_kept HQ.out.2.1 hbx)
          clear hK hD hfr
          unfold RegionOwn.T at q
          go_simp
        | 4, _ =>
          refine RegionOwn.quiet rfl rfl hK rfl rfl ?_
          clear hK hD hfr
          unfold RegionOwn.T at e3
          go_simp
        | 5, _ =>
          refine RegionOwn.quiet rfl rfl hK rfl rfl ?_
          have q : RegionOwn.T y 47 = .pointer (some ⟨w.heap.size + 1, 3, none⟩) := hD 4 47 (by decide) rfl (by kernel_rfl)
          obtain ⟨g0, g1, g2, g3, g4, g5, g6, g7⟩ := cells8 (row_kept HQ.out.2.1 hbx)
          clear hK hD hfr
          unfold RegionOwn.T at q
          go_simp
        | 6, _ =>
          have q : RegionOwn.T y 48 = .string a.s := hD 5 48 (by decide) rfl (by kernel_rfl)
          have qq : [RegionOwn.T y 48] = [.string a.s] := by rw [q]
          refine RegionOwn.called rfl rfl hK rfl (RegionOwn.enter rfl Try.call53 qq) ?_
          refine (few_any a.s x hss).mono ?_
          rintro e w' ⟨he, rfl⟩
          exact ⟨_, he, Below.refl _ _, rfl⟩
        | 7, _ =>
          refine RegionOwn.quiet rfl rfl hK rfl rfl ?_
          have q : RegionOwn.T y 49 = .string (few60 a.s) := hD 6 49 (by decide) rfl (by kernel_rfl)
          clear hK hD hfr
          unfold RegionOwn.T at q
          have q' := q
          rw [Array.getD_eq_getD_getElem?] at q'
          go_simp
        | 8, _ =>
          have q : RegionOwn.T y 44 = .agg #[.slice fa D.rs.length fc, .int .i64 D.a.room, .slice la (flen D.a.fall) lc, .int .i64 D.a.changes, .bool D.a.down] := hD 1 44 (by decide) rfl (by kernel_rfl)
          have q1 : RegionOwn.T y 46 = .string a.name := hD 3 46 (by decide) rfl (by kernel_rfl)
          have q2 : RegionOwn.T y 50 = .agg #[.string (few60 a.s), .bool true] := hD 7 50 (by decide) rfl (by kernel_rfl)
          have qq : [RegionOwn.T y 44, RegionOwn.T y 46, RegionOwn.T y 50] = [.agg #[.slice fa D.rs.length fc, .int .i64 D.a.room, .slice la (flen D.a.fall) lc, .int .i64 D.a.changes, .bool D.a.down], .string a.name, .agg #[.string (few60 a.s), .bool true]] := by rw [q, q1, q2]
          refine RegionOwn.called rfl rfl hK rfl (RegionOwn.enter rfl Try.call54 qq) ?_
          refine (HREF.out x (HQ.out.2.2.2.2.2.trans (Dsk.of_below hbx))).mono ?_
          rintro e w' ⟨D', he, ha, hr, hb'⟩
          exact ⟨_, he, hb', D', rfl, ha, hr⟩
        | 9, _ =>
          obtain ⟨D', q, ha, hr⟩ : ∃ D' : RD, RegionOwn.T y 51 = .tuple #[D'.v, .int .i64 R.2] ∧ D'.a = R.1 ∧ RefAt (K + 1) x D' := hD 8 51 (by decide) rfl (by kernel_rfl)
          refine RegionOwn.quiet rfl rfl hK rfl ⟨D', rfl, ha, hr⟩ ?_
          clear hK hD hfr
          unfold RegionOwn.T at q
          go_simp
        | 10, _ =>
          obtain ⟨D', q, ha, hr⟩ : ∃ D' : RD, RegionOwn.T y 42 = .tuple #[D'.v, .int .i64 R.2] ∧ D'.a = R.1 ∧ RefAt (K + 1) x D' := hD 9 42 (by decide) rfl (by kernel_rfl)
          refine RegionOwn.quiet rfl rfl hK rfl ⟨D', rfl, ha, hr⟩ ?_
          clear hK hD hfr
          unfold RegionOwn.T at q
          go_simp
        | 11, _ =>
          exact absurd rfl hjf
        | j + 12, h => exact absurd h (by omega)
    · intro y x hfr hbx hD
      obtain ⟨D', q, ha, hr⟩ : ∃ D' : RD, RegionOwn.T y 52 = D'.v ∧ D'.a = R.1 ∧ RefAt (K + 1) x D' := hD 10 52 (by decide) rfl
      have q1 : RegionOwn.T y 53 = .int .i64 R.2 := hD 11 53 (by decide) rfl
      have e2 : RegionOwn.T y 2 = .pointer (some ⟨w.heap.size, 0, none⟩) := hfr.at (by kernel_rfl) rfl
      have hsz : y.tmps.size = 126 := hfr.size
      have xr := row_kept HQ.out.1 hbx
      obtain ⟨c0, c1, c2, c3, c4, c5⟩ := cells6s xr
      obtain ⟨f0, f1, f2, f3, f4, f5⟩ := frozen6s xr
      obtain ⟨fa', fc', hfv'⟩ := Sees.form hr.files
      obtain ⟨la', lc', hlv'⟩ := Sees.form hr.falls
      refine RegionOwn.list_value (v := .pointer (some ⟨w.heap.size, 1, none⟩)) (y := x) rfl ?_ ?_
      · clear hD hfr xr hJ hK' ha hr
        unfold RegionOwn.T at e2
        go_simp
      have q2 : RegionOwn.T (y.put (some 54) (.pointer (some ⟨w.heap.size, 1, none⟩))) 52 = D'.v := (RegionOwn.T_put_ne (by decide)).trans q
      have q3 : RegionOwn.T (y.put (some 54) (.pointer (some ⟨w.heap.size, 1, none⟩))) 54 = .pointer (some ⟨w.heap.size, 1, none⟩) := RegionOwn.T_put_eq (by rw [hsz]; decide)
      refine RegionOwn.list_skip (y := put5 x w.heap.size D'.fv (.int .i64 D'.a.room) D'.lv (.int .i64 D'.a.changes) (.bool D'.a.down)) rfl ?_ ?_
      · unfold RD.v RD.cs at q2
        rw [hfv', hlv'] at q2 ⊢
        show (execOp (Act.eval (y.put (some 54) (.pointer (some ⟨w.heap.size, 1, none⟩)))) _).run _ _ = _
        generalize (y.put (some 54) (.pointer (some ⟨w.heap.size, 1, none⟩))) = y2 at q2 q3
        clear hD hfr xr hJ hK' ha hr q q1 e2 hsz
        unfold RegionOwn.T at q2 q3
        have q' := q2
        rw [Array.getD_eq_getD_getElem?] at q'
        go_simp
      · refine RegionOwn.list_value (v := .int .i64 R.2) (y := put5 x w.heap.size D'.fv (.int .i64 D'.a.room) D'.lv (.int .i64 D'.a.changes) (.bool D'.a.down)) rfl ?_ ?_
        · exact congrArg (fun u => Result.ok (Next.value u) _) ((RegionOwn.T_put_ne (by decide)).trans q1)
        · refine hK' _ _ (Met.intro (hJ _ _ ?_))
          (repeat apply Exists.intro)
          refine ⟨?rel, ?eq⟩
          case eq =>
            have e0z : RegionOwn.T ((y.put (some 54) (.pointer (some ⟨w.heap.size, 1, none⟩))).put (some 8) (.int .i64 R.2)) 0 = _ := ((RegionOwn.T_put_ne (by decide)).trans (RegionOwn.T_put_ne (by decide))).trans (hfr.at (k := 0) (by kernel_rfl) rfl)
            have e1z : RegionOwn.T ((y.put (some 54) (.pointer (some ⟨w.heap.size, 1, none⟩))).put (some 8) (.int .i64 R.2)) 1 = _ := ((RegionOwn.T_put_ne (by decide)).trans (RegionOwn.T_put_ne (by decide))).trans (hfr.at (k := 1) (by kernel_rfl) rfl)
            have e2z : RegionOwn.T ((y.put (some 54) (.pointer (some ⟨w.heap.size, 1, none⟩))).put (some 8) (.int .i64 R.2)) 2 = _ := ((RegionOwn.T_put_ne (by decide)).trans (RegionOwn.T_put_ne (by decide))).trans (hfr.at (k := 2) (by kernel_rfl) rfl)
            have e3z : RegionOwn.T ((y.put (some 54) (.pointer (some ⟨w.heap.size, 1, none⟩))).put (some 8) (.int .i64 R.2)) 3 = _ := ((RegionOwn.T_put_ne (by decide)).trans (RegionOwn.T_put_ne (by decide))).trans (hfr.at (k := 3) (by kernel_rfl) rfl)
            have e4z : RegionOwn.T ((y.put (some 54) (.pointer (some ⟨w.heap.size, 1, none⟩))).put (some 8) (.int .i64 R.2)) 4 = _ := ((RegionOwn.T_put_ne (by decide)).trans (RegionOwn.T_put_ne (by decide))).trans (hfr.at (k := 4) (by kernel_rfl) rfl)
            have e5z : RegionOwn.T ((y.put (some 54) (.pointer (some ⟨w.heap.size, 1, none⟩))).put (some 8) (.int .i64 R.2)) 5 = _ := ((RegionOwn.T_put_ne (by decide)).trans (RegionOwn.T_put_ne (by decide))).trans (hfr.at (k := 5) (by kernel_rfl) rfl)
            have e6z : RegionOwn.T ((y.put (some 54) (.pointer (some ⟨w.heap.size, 1, none⟩))).put (some 8) (.int .i64 R.2)) 6 = _ := ((RegionOwn.T_put_ne (by decide)).trans (RegionOwn.T_put_ne (by decide))).trans (hfr.at (k := 6) (by kernel_rfl) rfl)
            have e7z : RegionOwn.T ((y.put (some 54) (.pointer (some ⟨w.heap.size, 1, none⟩))).put (some 8) (.int .i64 R.2)) 7 = _ := ((RegionOwn.T_put_ne (by decide)).trans (RegionOwn.T_put_ne (by decide))).trans (hfr.at (k := 7) (by kernel_rfl) rfl)
            refine (RegionOwn.act_lit ((y.put (some 54) (.pointer (some ⟨w.heap.size, 1, none⟩))).put (some 8) (.int .i64 R.2)) 126 (by simp [Act.put, hsz])).trans ?_
            show Act.mk (List.toArray [RegionOwn.T ((y.put (some 54) (.pointer (some ⟨w.heap.size, 1, none⟩))).put (some 8) (.int .i64 R.2)) 0, RegionOwn.T ((y.put (some 54) (.pointer (some ⟨w.heap.size, 1, none⟩))).put (some 8) (.int .i64 R.2)) 1, RegionOwn.T ((y.put (some 54) (.pointer (some ⟨w.heap.size, 1, none⟩))).put (some 8) (.int .i64 R.2)) 2, RegionOwn.T ((y.put (some 54) (.pointer (some ⟨w.heap.size, 1, none⟩))).put (some 8) (.int .i64 R.2)) 3, RegionOwn.T ((y.put (some 54) (.pointer (some ⟨w.heap.size, 1, none⟩))).put (some 8) (.int .i64 R.2)) 4, RegionOwn.T ((y.put (some 54) (.pointer (some ⟨w.heap.size, 1, none⟩))).put (some 8) (.int .i64 R.2)) 5, RegionOwn.T ((y.put (some 54) (.pointer (some ⟨w.heap.size, 1, none⟩))).put (some 8) (.int .i64 R.2)) 6, RegionOwn.T ((y.put (some 54) (.pointer (some ⟨w.heap.size, 1, none⟩))).put (some 8) (.int .i64 R.2)) 7, RegionOwn.T ((y.put (some 54) (.pointer (some ⟨w.heap.size, 1, none⟩))).put (some 8) (.int .i64 R.2)) 8, RegionOwn.T ((y.put (some 54) (.pointer (some ⟨w.heap.size, 1, none⟩))).put (some 8) (.int .i64 R.2)) 9, RegionOwn.T ((y.put (some 54) (.pointer (some ⟨w.heap.size, 1, none⟩))).put (some 8) (.int .i64 R.2)) 10, RegionOwn.T ((y.put (some 54) (.pointer (some ⟨w.heap.size, 1, none⟩))).put (some 8) (.int .i64 R.2)) 11, RegionOwn.T ((y.put (some 54) (.pointer (some ⟨w.heap.size, 1, none⟩))).put (some 8) (.int .i64 R.2)) 12, RegionOwn.T ((y.put (some 54) (.pointer (some ⟨w.heap.size, 1, none⟩))).put (some 8) (.int .i64 R.2)) 13, RegionOwn.T ((y.put (some 54) (.pointer (some ⟨w.heap.size, 1, none⟩))).put (some 8) (.int .i64 R.2)) 14, RegionOwn.T ((y.put (some 54) (.pointer (some ⟨w.heap.size, 1, none⟩))).put (some 8) (.int .i64 R.2)) 15, RegionOwn.T ((y.put (some 54) (.pointer (some ⟨w.heap.size, 1, none⟩))).put (some 8) (.int .i64 R.2)) 16, RegionOwn.T ((y.put (some 54) (.pointer (some ⟨w.heap.size, 1, none⟩))).put (some 8) (.int .i64 R.2)) 17, RegionOwn.T ((y.put (some 54) (.pointer (some ⟨w.heap.size, 1, none⟩))).put (some 8) (.int .i64 R.2)) 18, RegionOwn.T ((y.put (some 54) (.pointer (some ⟨w.heap.size, 1, none⟩))).put (some 8) (.int .i64 R.2)) 19, RegionOwn.T ((y.put (some 54) (.pointer (some ⟨w.heap.size, 1, none⟩))).put (some 8) (.int .i64 R.2)) 20, RegionOwn.T ((y.put (some 54) (.pointer (some ⟨w.heap.size, 1, none⟩))).put (some 8) (.int .i64 R.2)) 21, RegionOwn.T ((y.put (some 54) (.pointer (some ⟨w.heap.size, 1, none⟩))).put (some 8) (.int .i64 R.2)) 22, RegionOwn.T ((y.put (some 54) (.pointer (some ⟨w.heap.size, 1, none⟩))).put (some 8) (.int .i64 R.2)) 23, RegionOwn.T ((y.put (some 54) (.pointer (some ⟨w.heap.size, 1, none⟩))).put (some 8) (.int .i64 R.2)) 24, RegionOwn.T ((y.put (some 54) (.pointer (some ⟨w.heap.size, 1, none⟩))).put (some 8) (.int .i64 R.2)) 25, RegionOwn.T ((y.put (some 54) (.pointer (some ⟨w.heap.size, 1, none⟩))).put (some 8) (.int .i64 R.2)) 26, RegionOwn.T ((y.put (some 54) (.pointer (some ⟨w.heap.size, 1, none⟩))).put (some 8) (.int .i64 R.2)) 27, RegionOwn.T ((y.put (some 54) (.pointer (some ⟨w.heap.size, 1, none⟩))).put (some 8) (.int .i64 R.2)) 28, RegionOwn.T ((y.put (some 54) (.pointer (some ⟨w.heap.size, 1, none⟩))).put (some 8) (.int .i64 R.2)) 29, RegionOwn.T ((y.put (some 54) (.pointer (some ⟨w.heap.size, 1, none⟩))).put (some 8) (.int .i64 R.2)) 30, RegionOwn.T ((y.put (some 54) (.pointer (some ⟨w.heap.size, 1, none⟩))).put (some 8) (.int .i64 R.2)) 31, RegionOwn.T ((y.put (some 54) (.pointer (some ⟨w.heap.size, 1, none⟩))).put (some 8) (.int .i64 R.2)) 32, RegionOwn.T ((y.put (some 54) (.pointer (some ⟨w.heap.size, 1, none⟩))).put (some 8) (.int .i64 R.2)) 33, RegionOwn.T ((y.put (some 54) (.pointer (some ⟨w.heap.size, 1, none⟩))).put (some 8) (.int .i64 R.2)) 34, RegionOwn.T ((y.put (some 54) (.pointer (some ⟨w.heap.size, 1, none⟩))).put (some 8) (.int .i64 R.2)) 35, RegionOwn.T ((y.put (some 54) (.pointer (some ⟨w.heap.size, 1, none⟩))).put (some 8) (.int .i64 R.2)) 36, RegionOwn.T ((y.put (some 54) (.pointer (some ⟨w.heap.size, 1, none⟩))).put (some 8) (.int .i64 R.2)) 37, RegionOwn.T ((y.put (some 54) (.pointer (some ⟨w.heap.size, 1, none⟩))).put (some 8) (.int .i64 R.2)) 38, RegionOwn.T ((y.put (some 54) (.pointer (some ⟨w.heap.size, 1, none⟩))).put (some 8) (.int .i64 R.2)) 39, RegionOwn.T ((y.put (some 54) (.pointer (some ⟨w.heap.size, 1, none⟩))).put (some 8) (.int .i64 R.2)) 40, RegionOwn.T ((y.put (some 54) (.pointer (some ⟨w.heap.size, 1, none⟩))).put (some 8) (.int .i64 R.2)) 41, RegionOwn.T ((y.put (some 54) (.pointer (some ⟨w.heap.size, 1, none⟩))).put (some 8) (.int .i64 R.2)) 42, RegionOwn.T ((y.put (some 54) (.pointer (some ⟨w.heap.size, 1, none⟩))).put (some 8) (.int .i64 R.2)) 43, RegionOwn.T ((y.put (some 54) (.pointer (some ⟨w.heap.size, 1, none⟩))).put (some 8) (.int .i64 R.2)) 44, RegionOwn.T ((y.put (some 54) (.pointer (some ⟨w.heap.size, 1, none⟩))).put (some 8) (.int .i64 R.2)) 45, RegionOwn.T ((y.put (some 54) (.pointer (some ⟨w.heap.size, 1, none⟩))).put (some 8) (.int .i64 R.2)) 46, RegionOwn.T ((y.put (some 54) (.pointer (some ⟨w.heap.size, 1, none⟩))).put (some 8) (.int .i64 R.2)) 47, RegionOwn.T ((y.put (some 54) (.pointer (some ⟨w.heap.size, 1, none⟩))).put (some 8) (.int .i64 R.2)) 48, RegionOwn.T ((y.put (some 54) (.pointer (some ⟨w.heap.size, 1, none⟩))).put (some 8) (.int .i64 R.2)) 49, RegionOwn.T ((y.put (some 54) (.pointer (some ⟨w.heap.size, 1, none⟩))).put (some 8) (.int .i64 R.2)) 50, RegionOwn.T ((y.put (some 54) (.pointer (some ⟨w.heap.size, 1, none⟩))).put (some 8) (.int .i64 R.2)) 51, RegionOwn.T ((y.put (some 54) (.pointer (some ⟨w.heap.size, 1, none⟩))).put (some 8) (.int .i64 R.2)) 52, RegionOwn.T ((y.put (some 54) (.pointer (some ⟨w.heap.size, 1, none⟩))).put (some 8) (.int .i64 R.2)) 53, RegionOwn.T ((y.put (some 54) (.pointer (some ⟨w.heap.size, 1, none⟩))).put (some 8) (.int .i64 R.2)) 54, RegionOwn.T ((y.put (some 54) (.pointer (some ⟨w.heap.size, 1, none⟩))).put (some 8) (.int .i64 R.2)) 55, RegionOwn.T ((y.put (some 54) (.pointer (some ⟨w.heap.size, 1, none⟩))).put (some 8) (.int .i64 R.2)) 56, RegionOwn.T ((y.put (some 54) (.pointer (some ⟨w.heap.size, 1, none⟩))).put (some 8) (.int .i64 R.2)) 57, RegionOwn.T ((y.put (some 54) (.pointer (some ⟨w.heap.size, 1, none⟩))).put (some 8) (.int .i64 R.2)) 58, RegionOwn.T ((y.put (some 54) (.pointer (some ⟨w.heap.size, 1, none⟩))).put (some 8) (.int .i64 R.2)) 59, RegionOwn.T ((y.put (some 54) (.pointer (some ⟨w.heap.size, 1, none⟩))).put (some 8) (.int .i64 R.2)) 60, RegionOwn.T ((y.put (some 54) (.pointer (some ⟨w.heap.size, 1, none⟩))).put (some 8) (.int .i64 R.2)) 61, RegionOwn.T ((y.put (some 54) (.pointer (some ⟨w.heap.size, 1, none⟩))).put (some 8) (.int .i64 R.2)) 62, RegionOwn.T ((y.put (some 54) (.pointer (some ⟨w.heap.size, 1, none⟩))).put (some 8) (.int .i64 R.2)) 63, RegionOwn.T ((y.put (some 54) (.pointer (some ⟨w.heap.size, 1, none⟩))).put (some 8) (.int .i64 R.2)) 64, RegionOwn.T ((y.put (some 54) (.pointer (some ⟨w.heap.size, 1, none⟩))).put (some 8) (.int .i64 R.2)) 65, RegionOwn.T ((y.put (some 54) (.pointer (some ⟨w.heap.size, 1, none⟩))).put (some 8) (.int .i64 R.2)) 66, RegionOwn.T ((y.put (some 54) (.pointer (some ⟨w.heap.size, 1, none⟩))).put (some 8) (.int .i64 R.2)) 67, RegionOwn.T ((y.put (some 54) (.pointer (some ⟨w.heap.size, 1, none⟩))).put (some 8) (.int .i64 R.2)) 68, RegionOwn.T ((y.put (some 54) (.pointer (some ⟨w.heap.size, 1, none⟩))).put (some 8) (.int .i64 R.2)) 69, RegionOwn.T ((y.put (some 54) (.pointer (some ⟨w.heap.size, 1, none⟩))).put (some 8) (.int .i64 R.2)) 70, RegionOwn.T ((y.put (some 54) (.pointer (some ⟨w.heap.size, 1, none⟩))).put (some 8) (.int .i64 R.2)) 71, RegionOwn.T ((y.put (some 54) (.pointer (some ⟨w.heap.size, 1, none⟩))).put (some 8) (.int .i64 R.2)) 72, RegionOwn.T ((y.put (some 54) (.pointer (some ⟨w.heap.size, 1, none⟩))).put (some 8) (.int .i64 R.2)) 73, RegionOwn.T ((y.put (some 54) (.pointer (some ⟨w.heap.size, 1, none⟩))).put (some 8) (.int .i64 R.2)) 74, RegionOwn.T ((y.put (some 54) (.pointer (some ⟨w.heap.size, 1, none⟩))).put (some 8) (.int .i64 R.2)) 75, RegionOwn.T ((y.put (some 54) (.pointer (some ⟨w.heap.size, 1, none⟩))).put (some 8) (.int .i64 R.2)) 76, RegionOwn.T ((y.put (some 54) (.pointer (some ⟨w.heap.size, 1, none⟩))).put (some 8) (.int .i64 R.2)) 77, RegionOwn.T ((y.put (some 54) (.pointer (some ⟨w.heap.size, 1, none⟩))).put (some 8) (.int .i64 R.2)) 78, RegionOwn.T ((y.put (some 54) (.pointer (some ⟨w.heap.size, 1, none⟩))).put (some 8) (.int .i64 R.2)) 79, RegionOwn.T ((y.put (some 54) (.pointer (some ⟨w.heap.size, 1, none⟩))).put (some 8) (.int .i64 R.2)) 80, RegionOwn.T ((y.put (some 54) (.pointer (some ⟨w.heap.size, 1, none⟩))).put (some 8) (.int .i64 R.2)) 81, RegionOwn.T ((y.put (some 54) (.pointer (some ⟨w.heap.size, 1, none⟩))).put (some 8) (.int .i64 R.2)) 82, RegionOwn.T ((y.put (some 54) (.pointer (some ⟨w.heap.size, 1, none⟩))).put (some 8) (.int .i64 R.2)) 83, RegionOwn.T ((y.put (some 54) (.pointer (some ⟨w.heap.size, 1, none⟩))).put (some 8) (.int .i64 R.2)) 84, RegionOwn.T ((y.put (some 54) (.pointer (some ⟨w.heap.size, 1, none⟩))).put (some 8) (.int .i64 R.2)) 85, RegionOwn.T ((y.put (some 54) (.pointer (some ⟨w.heap.size, 1, none⟩))).put (some 8) (.int .i64 R.2)) 86, RegionOwn.T ((y.put (some 54) (.pointer (some ⟨w.heap.size, 1, none⟩))).put (some 8) (.int .i64 R.2)) 87, RegionOwn.T ((y.put (some 54) (.pointer (some ⟨w.heap.size, 1, none⟩))).put (some 8) (.int .i64 R.2)) 88, RegionOwn.T ((y.put (some 54) (.pointer (some ⟨w.heap.size, 1, none⟩))).put (some 8) (.int .i64 R.2)) 89, RegionOwn.T ((y.put (some 54) (.pointer (some ⟨w.heap.size, 1, none⟩))).put (some 8) (.int .i64 R.2)) 90, RegionOwn.T ((y.put (some 54) (.pointer (some ⟨w.heap.size, 1, none⟩))).put (some 8) (.int .i64 R.2)) 91, RegionOwn.T ((y.put (some 54) (.pointer (some ⟨w.heap.size, 1, none⟩))).put (some 8) (.int .i64 R.2)) 92, RegionOwn.T ((y.put (some 54) (.pointer (some ⟨w.heap.size, 1, none⟩))).put (some 8) (.int .i64 R.2)) 93, RegionOwn.T ((y.put (some 54) (.pointer (some ⟨w.heap.size, 1, none⟩))).put (some 8) (.int .i64 R.2)) 94, RegionOwn.T ((y.put (some 54) (.pointer (some ⟨w.heap.size, 1, none⟩))).put (some 8) (.int .i64 R.2)) 95, RegionOwn.T ((y.put (some 54) (.pointer (some ⟨w.heap.size, 1, none⟩))).put (some 8) (.int .i64 R.2)) 96, RegionOwn.T ((y.put (some 54) (.pointer (some ⟨w.heap.size, 1, none⟩))).put (some 8) (.int .i64 R.2)) 97, RegionOwn.T ((y.put (some 54) (.pointer (some ⟨w.heap.size, 1, none⟩))).put (some 8) (.int .i64 R.2)) 98, RegionOwn.T ((y.put (some 54) (.pointer (some ⟨w.heap.size, 1, none⟩))).put (some 8) (.int .i64 R.2)) 99, RegionOwn.T ((y.put (some 54) (.pointer (some ⟨w.heap.size, 1, none⟩))).put (some 8) (.int .i64 R.2)) 100, RegionOwn.T ((y.put (some 54) (.pointer (some ⟨w.heap.size, 1, none⟩))).put (some 8) (.int .i64 R.2)) 101, RegionOwn.T ((y.put (some 54) (.pointer (some ⟨w.heap.size, 1, none⟩))).put (some 8) (.int .i64 R.2)) 102, RegionOwn.T ((y.put (some 54) (.pointer (some ⟨w.heap.size, 1, none⟩))).put (some 8) (.int .i64 R.2)) 103, RegionOwn.T ((y.put (some 54) (.pointer (some ⟨w.heap.size, 1, none⟩))).put (some 8) (.int .i64 R.2)) 104, RegionOwn.T ((y.put (some 54) (.pointer (some ⟨w.heap.size, 1, none⟩))).put (some 8) (.int .i64 R.2)) 105, RegionOwn.T ((y.put (some 54) (.pointer (some ⟨w.heap.size, 1, none⟩))).put (some 8) (.int .i64 R.2)) 106, RegionOwn.T ((y.put (some 54) (.pointer (some ⟨w.heap.size, 1, none⟩))).put (some 8) (.int .i64 R.2)) 107, RegionOwn.T ((y.put (some 54) (.pointer (some ⟨w.heap.size, 1, none⟩))).put (some 8) (.int .i64 R.2)) 108, RegionOwn.T ((y.put (some 54) (.pointer (some ⟨w.heap.size, 1, none⟩))).put (some 8) (.int .i64 R.2)) 109, RegionOwn.T ((y.put (some 54) (.pointer (some ⟨w.heap.size, 1, none⟩))).put (some 8) (.int .i64 R.2)) 110, RegionOwn.T ((y.put (some 54) (.pointer (some ⟨w.heap.size, 1, none⟩))).put (some 8) (.int .i64 R.2)) 111, RegionOwn.T ((y.put (some 54) (.pointer (some ⟨w.heap.size, 1, none⟩))).put (some 8) (.int .i64 R.2)) 112, RegionOwn.T ((y.put (some 54) (.pointer (some ⟨w.heap.size, 1, none⟩))).put (some 8) (.int .i64 R.2)) 113, RegionOwn.T ((y.put (some 54) (.pointer (some ⟨w.heap.size, 1, none⟩))).put (some 8) (.int .i64 R.2)) 114, RegionOwn.T ((y.put (some 54) (.pointer (some ⟨w.heap.size, 1, none⟩))).put (some 8) (.int .i64 R.2)) 115, RegionOwn.T ((y.put (some 54) (.pointer (some ⟨w.heap.size, 1, none⟩))).put (some 8) (.int .i64 R.2)) 116, RegionOwn.T ((y.put (some 54) (.pointer (some ⟨w.heap.size, 1, none⟩))).put (some 8) (.int .i64 R.2)) 117, RegionOwn.T ((y.put (some 54) (.pointer (some ⟨w.heap.size, 1, none⟩))).put (some 8) (.int .i64 R.2)) 118, RegionOwn.T ((y.put (some 54) (.pointer (some ⟨w.heap.size, 1, none⟩))).put (some 8) (.int .i64 R.2)) 119, RegionOwn.T ((y.put (some 54) (.pointer (some ⟨w.heap.size, 1, none⟩))).put (some 8) (.int .i64 R.2)) 120, RegionOwn.T ((y.put (some 54) (.pointer (some ⟨w.heap.size, 1, none⟩))).put (some 8) (.int .i64 R.2)) 121, RegionOwn.T ((y.put (some 54) (.pointer (some ⟨w.heap.size, 1, none⟩))).put (some 8) (.int .i64 R.2)) 122, RegionOwn.T ((y.put (some 54) (.pointer (some ⟨w.heap.size, 1, none⟩))).put (some 8) (.int .i64 R.2)) 123, RegionOwn.T ((y.put (some 54) (.pointer (some ⟨w.heap.size, 1, none⟩))).put (some 8) (.int .i64 R.2)) 124, RegionOwn.T ((y.put (some 54) (.pointer (some ⟨w.heap.size, 1, none⟩))).put (some 8) (.int .i64 R.2)) 125]) y.defers = _
            rw [e0z, e1z, e2z, e3z, e4z, e5z, e6z, hfr.defers]
            rfl
          case rel =>
            have e7z : RegionOwn.T ((y.put (some 54) (.pointer (some ⟨w.heap.size, 1, none⟩))).put (some 8) (.int .i64 R.2)) 7 = _ := ((RegionOwn.T_put_ne (by decide)).trans (RegionOwn.T_put_ne (by decide))).trans (hfr.at (k := 7) (by kernel_rfl) rfl)
            have t1 := tch_put5 x w.heap.size D'.fv (.int .i64 D'.a.room) D'.lv (.int .i64 D'.a.changes) (.bool D'.a.down)
            have hB : Both Try.prog base (K + 1) d x T D' := HMAKE.out T D' w1 x HQ.out.2.2.2.1 HQ.out.2.2.2.2.1 ha hr hbx HQ.out.2.2.2.2.2
            have hDsk : Dsk base w x := (Dsk.of_below HW.out.2.2.2).trans (HQ.out.2.2.2.2.2.trans (Dsk.of_below hbx))
            exact ⟨e7z, RegionOwn.T_put_eq (by simp [Act.put, hsz]), T, D', ha, hB.turned xr t1, hDsk.own (Nat.le_refl _) t1, put5_row xr _ _ _ _ _, tch_kept (row_kept HQ.out.2.2.1 hbx) t1 (by omega)⟩
set_option maxRecDepth 100000 in
set_option maxHeartbeats 4000000 in
theorem files_0 (base K d : Nat) (S : WD) (D : RD) (a : Ac) (w : World) (h : Both Try.prog base K d w S D) (hf : a.Fits) (hK : K + 1 ≤ 100000) (hk1 : (a.kind == 1) = false) (hk2 : (a.kind == 2) = false) (hk3 : (a.kind == 3) = false) (hk4 : (a.kind == 4) = false) (hk5 : (a.kind == 5) = false) : Calls Try.prog 33 #[sideV d D, a.v] w (Filed Try.prog base K d w D (D.a.doPut a.name.data.toList ⟨(few60 a.s).data.toList, false⟩)) := by
  obtain ⟨la, lc, hlv⟩ := Sees.form h.ref.falls
  obtain ⟨fa, fc, hfv⟩ := Sees.form h.ref.files
  have HV : D.v = .agg #[.slice fa D.rs.length fc, .int .i64 D.a.room, .slice la (flen D.a.fall) lc, .int .i64 D.a.changes, .bool D.a.down] := by unfold RD.v RD.cs; rw [hfv, hlv]
  have hname : a.name.size ≤ maxLen := by unfold maxLen; exact hf.name
  have hss : a.s.size ≤ maxLen := by unfold maxLen; exact hf.s
  have hfew : (few60 a.s).size ≤ 100 := Nat.le_trans (few60_size a.s) (by decide)
  have HW : Hid ((((w.alloc (.cells #[.pointer (some ⟨d, 0, none⟩), .slice fa D.rs.length fc, .int .i64 D.a.room, .slice la (flen D.a.fall) lc, .int .i64 D.a.changes, .bool D.a.down] 29)).alloc (.cells #[.int .i64 a.kind, .string a.name, .string a.dst, .string a.s, .int .i64 a.n, .int .i64 a.f.on, .int .i64 a.f.keep, .int .i64 a.f.torn] 36)).alloc (.cells #[Value.pointer none, Value.slice none 0 0, Value.int IntKind.i64 0, Value.slice none 0 0, Value.int IntKind.i64 0, Value.bool false] 29)).heap[w.heap.size]? = some (.cells #[.pointer (some ⟨d, 0, none⟩), .slice fa D.rs.length fc, .int .i64 D.a.room, .slice la (flen D.a.fall) lc, .int .i64 D.a.changes, .bool D.a.down] 29 (0, 0)) ∧ (((w.alloc (.cells #[.pointer (some ⟨d, 0, none⟩), .slice fa D.rs.length fc, .int .i64 D.a.room, .slice la (flen D.a.fall) lc, .int .i64 D.a.changes, .bool D.a.down] 29)).alloc (.cells #[.int .i64 a.kind, .string a.name, .string a.dst, .string a.s, .int .i64 a.n, .int .i64 a.f.on, .int .i64 a.f.keep, .int .i64 a.f.torn] 36)).alloc (.cells #[Value.pointer none, Value.slice none 0 0, Value.int IntKind.i64 0, Value.slice none 0 0, Value.int IntKind.i64 0, Value.bool false] 29)).heap[w.heap.size + 1]? = some (.cells #[.int .i64 a.kind, .string a.name, .string a.dst, .string a.s, .int .i64 a.n, .int .i64 a.f.on, .int .i64 a.f.keep, .int .i64 a.f.torn] 36 (0, 0)) ∧ (((w.alloc (.cells #[.pointer (some ⟨d, 0, none⟩), .slice fa D.rs.length fc, .int .i64 D.a.room, .slice la (flen D.a.fall) lc, .int .i64 D.a.changes, .bool D.a.down] 29)).alloc (.cells #[.int .i64 a.kind, .string a.name, .string a.dst, .string a.s, .int .i64 a.n, .int .i64 a.f.on, .int .i64 a.f.keep, .int .i64 a.f.torn] 36)).alloc (.cells #[Value.pointer none, Value.slice none 0 0, Value.int IntKind.i64 0, Value.slice none 0 0, Value.int IntKind.i64 0, Value.bool false] 29)).heap[w.heap.size + 2]? = some (.cells #[Value.pointer none, Value.slice none 0 0, Value.int IntKind.i64 0, Value.slice none 0 0, Value.int IntKind.i64 0, Value.bool false] 29 (0, 0)) ∧ Below w.heap.size w (((w.alloc (.cells #[.pointer (some ⟨d, 0, none⟩), .slice fa D.rs.length fc, .int .i64 D.a.room, .slice la (flen D.a.fall) lc, .int .i64 D.a.changes, .bool D.a.down] 29)).alloc (.cells #[.int .i64 a.kind, .string a.name, .string a.dst, .string a.s, .int .i64 a.n, .int .i64 a.f.on, .int .i64 a.f.keep, .int .i64 a.f.torn] 36)).alloc (.cells #[Value.pointer none, Value.slice none 0 0, Value.int IntKind.i64 0, Value.slice none 0 0, Value.int IntKind.i64 0, Value.bool false] 29))) := three_below (Below.refl _ _)
  have hW := h.below HW.out.2.2.2
  have HPROG : Hid (∀ U, Below (((w.alloc (.cells #[.pointer (some ⟨d, 0, none⟩), .slice fa D.rs.length fc, .int .i64 D.a.room, .slice la (flen D.a.fall) lc, .int .i64 D.a.changes, .bool D.a.down] 29)).alloc (.cells #[.int .i64 a.kind, .string a.name, .string a.dst, .string a.s, .int .i64 a.n, .int .i64 a.f.on, .int .i64 a.f.keep, .int .i64 a.f.torn] 36)).alloc (.cells #[Value.pointer none, Value.slice none 0 0, Value.int IntKind.i64 0, Value.slice none 0 0, Value.int IntKind.i64 0, Value.bool false] 29)).heap.size (((w.alloc (.cells #[.pointer (some ⟨d, 0, none⟩), .slice fa D.rs.length fc, .int .i64 D.a.room, .slice la (flen D.a.fall) lc, .int .i64 D.a.changes, .bool D.a.down] 29)).alloc (.cells #[.int .i64 a.kind, .string a.name, .string a.dst, .string a.s, .int .i64 a.n, .int .i64 a.f.on, .int .i64 a.f.keep, .int .i64 a.f.torn] 36)).alloc (.cells #[Value.pointer none, Value.slice none 0 0, Value.int IntKind.i64 0, Value.slice none 0 0, Value.int IntKind.i64 0, Value.bool false] 29)) U → Calls Try.prog 13 #[.pointer (some ⟨d, 0, none⟩), .string a.name, .string (few60 a.s)] U (Did Try.prog base (K + 1) d U (D.a.doPut a.name.data.toList ⟨(few60 a.s).data.toList, false⟩))) := fun U hU => by
    have hB := hW.below hU
    have := append_op base K d S a.name (few60 a.s) U hB.disk hB.start hK hname hfew
    rw [h.same] at this
    exact this
  have HREF : Hid (∀ w1, Dsk base (((w.alloc (.cells #[.pointer (some ⟨d, 0, none⟩), .slice fa D.rs.length fc, .int .i64 D.a.room, .slice la (flen D.a.fall) lc, .int .i64 D.a.changes, .bool D.a.down] 29)).alloc (.cells #[.int .i64 a.kind, .string a.name, .string a.dst, .string a.s, .int .i64 a.n, .int .i64 a.f.on, .int .i64 a.f.keep, .int .i64 a.f.torn] 36)).alloc (.cells #[Value.pointer none, Value.slice none 0 0, Value.int IntKind.i64 0, Value.slice none 0 0, Value.int IntKind.i64 0, Value.bool false] 29)) w1 → Calls Try.prog 54 #[.agg #[.slice fa D.rs.length fc, .int .i64 D.a.room, .slice la (flen D.a.fall) lc, .int .i64 D.a.changes, .bool D.a.down], .string a.name, .agg #[.string (few60 a.s), .bool false]] w1 fun e w' => ∃ D' : RD, e = .returned (.tuple #[D'.v, .int .i64 (D.a.doPut a.name.data.toList ⟨(few60 a.s).data.toList, false⟩).2]) ∧ D'.a = (D.a.doPut a.name.data.toList ⟨(few60 a.s).data.toList, false⟩).1 ∧ RefAt (K + 1) w' D' ∧ Below w1.heap.size w1 w') := fun w1 hk1 => by
    rw [← HV]
    exact rput_any K D a.name (few60 a.s) false w1 (hW.ref.dsk hk1) hK hname hfew h.room
  have HMAKE : Hid (∀ (T : WD) (D' : RD) w1 w2, T.a = (D.a.doPut a.name.data.toList ⟨(few60 a.s).data.toList, false⟩).1 → DiskAt Try.prog base (K + 1) d w1 T → D'.a = (D.a.doPut a.name.data.toList ⟨(few60 a.s).data.toList, false⟩).1 → RefAt (K + 1) w2 D' → Below w1.heap.size w1 w2 → Dsk base (((w.alloc (.cells #[.pointer (some ⟨d, 0, none⟩), .slice fa D.rs.length fc, .int .i64 D.a.room, .slice la (flen D.a.fall) lc, .int .i64 D.a.changes, .bool D.a.down] 29)).alloc (.cells #[.int .i64 a.kind, .string a.name, .string a.dst, .string a.s, .int .i64 a.n, .int .i64 a.f.on, .int .i64 a.f.keep, .int .i64 a.f.torn] 36)).alloc (.cells #[Value.pointer none, Value.slice none 0 0, Value.int IntKind.i64 0, Value.slice none 0 0, Value.int IntKind.i64 0, Value.bool false] 29)) w1 → Both Try.prog base (K + 1) d w2 T D') := fun T D' w1 w2 h1 h2 h3 h4 h5 h6 => ⟨h2.below h5, h4, h1.trans h3.symm, Nat.le_trans hW.start (Nat.le_trans h6.size h5.size), by rw [h3, doPut_room]; exact h.room⟩
  have HEND : Hid (∀ (T : WD) (D' : RD) w', Both Try.prog base (K + 1) d w' T D' → D'.a = (D.a.doPut a.name.data.toList ⟨(few60 a.s).data.toList, false⟩).1 → Dsk base w w' → Filed Try.prog base K d w D (D.a.doPut a.name.data.toList ⟨(few60 a.s).data.toList, false⟩) (.returned (.tuple #[sideV d D', .int .i64 (D.a.doPut a.name.data.toList ⟨(few60 a.s).data.toList, false⟩).2, .int .i64 (D.a.doPut a.name.data.toList ⟨(few60 a.s).data.toList, false⟩).2])) w') := fun T D' w' h1 h2 h3 => ⟨T, D', rfl, h1, h2, h3⟩
  generalize D.a.doPut a.name.data.toList ⟨(few60 a.s).data.toList, false⟩ = R at *
  generalize hX : Filed Try.prog base K d w D R = X at *
  clear hX HV h hW
  unfold sideV sideCs Ac.v Ac.cs
  rw [hfv, hlv]
  clear hfv hlv
  unfold Did at HPROG
  go_enter Try.func33, Try.ntmps33
  go_upto_block 0 with fail
  go_cut [7, 8] from 9 to 125 (fun u v wx => u = .int .i64 R.2 ∧ v = .int .i64 R.2 ∧ Hid (∃ (T : WD) (D' : RD), D'.a = R.1 ∧ Both Try.prog base (K + 1) d wx T D' ∧ Dsk base w wx ∧ wx.heap[w.heap.size]? = some (.cells #[.pointer (some ⟨d, 0, none⟩), D'.fv, .int .i64 D'.a.room, D'.lv, .int .i64 D'.a.changes, .bool D'.a.down] 29 (0, 0)) ∧ wx.heap[w.heap.size + 2]? = some (.cells #[Value.pointer none, Value.slice none 0 0, Value.int IntKind.i64 0, Value.slice none 0 0, Value.int IntKind.i64 0, Value.bool false] 29 (0, 0))))
  case rest =>
    obtain ⟨rfl, rfl, HC⟩ := hcut
    obtain ⟨T, D', ha, hB, hk, r2, r4⟩ := HC.out
    obtain ⟨fa', fc', hfv'⟩ := Sees.form hB.ref.files
    obtain ⟨la', lc', hlv'⟩ := Sees.form hB.ref.falls
    rw [hfv', hlv'] at r2
    obtain ⟨c0, c1, c2, c3, c4, c5⟩ := cells6s r2
    obtain ⟨d0, d1, d2, d3, d4, d5⟩ := cells6s r4
    obtain ⟨e0, e1, e2, e3, e4, e5⟩ := frozen6s r4
    have HZ := hide (And.intro ha (And.intro hB (And.intro hk (And.intro r2 r4))))
    clear ha hB hk r2 r4 HC HW HPROG HREF HMAKE
    go_wp2
    have t2 := tch_set6 wc (w.heap.size + 2) (.pointer (some ⟨d, 0, none⟩)) (Value.slice fa' D'.rs.length fc') (.int .i64 D'.a.room) (.slice la' (flen D'.a.fall) lc') (.int .i64 D'.a.changes) (.bool D'.a.down)
    refine bodyPost_ret (results_three Try.results33 _ _ _ 29 _ (0, 0) _ rfl (set6 HZ.out.2.2.2.2 _ _ _ _ _ _) Try.underlying29 rfl infoSide) rfl ?_
    have := HEND.out T D' _ (HZ.out.2.1.turned HZ.out.2.2.2.2 t2) HZ.out.1 (HZ.out.2.2.1.own (Nat.le_add_right _ 2) t2)
    unfold sideV sideCs at this
    rw [hfv', hlv'] at this
    exact this
  case first =>
  rename_i J K' hJ hK'
  go_upto_region 3 with fail
  have q0 := cell_regrown (cells6s HW.out.1).1
  have q1 := cell_regrown (cells8 HW.out.2.1).2.1
  have q3 := cell_regrown (cells8 HW.out.2.1).2.2.2.1
  refine QTail.wp_region_tail (fun w' => ∃ p : Regrown, w' = Sort.grow (redrawn (((w.alloc (.cells #[.pointer (some ⟨d, 0, none⟩), .slice fa D.rs.length fc, .int .i64 D.a.room, .slice la (flen D.a.fall) lc, .int .i64 D.a.changes, .bool D.a.down] 29)).alloc (.cells #[.int .i64 a.kind, .string a.name, .string a.dst, .string a.s, .int .i64 a.n, .int .i64 a.f.on, .int .i64 a.f.keep, .int .i64 a.f.torn] 36)).alloc (.cells #[Value.pointer none, Value.slice none 0 0, Value.int IntKind.i64 0, Value.slice none 0 0, Value.int IntKind.i64 0, Value.bool false] 29)) p.d) p.os) 7 (by kernel_rfl) (by kernel_rfl) ⟨⟨(((w.alloc (.cells #[.pointer (some ⟨d, 0, none⟩), .slice fa D.rs.length fc, .int .i64 D.a.room, .slice la (flen D.a.fall) lc, .int .i64 D.a.changes, .bool D.a.down] 29)).alloc (.cells #[.int .i64 a.kind, .string a.name, .string a.dst, .string a.s, .int .i64 a.n, .int .i64 a.f.on, .int .i64 a.f.keep, .int .i64 a.f.torn] 36)).alloc (.cells #[Value.pointer none, Value.slice none 0 0, Value.int IntKind.i64 0, Value.slice none 0 0, Value.int IntKind.i64 0, Value.bool false] 29)).drawn + 1, #[]⟩, by rw [Sort.grow_empty]; rfl⟩ ?_
  simp only [List.take_succ_cons, List.take_zero, List.drop_succ_cons, List.drop_zero]
  iterate 6 (first | go_big_quiet_step (fail) | quiet_step (fail))
  refine QuietCalls.call1 rfl rfl Try.call53 (fun w' _ => (few_any a.s w' hss).mono fun e w'' ⟨he, hw⟩ => ⟨he, hw ▸ Below.refl _ _⟩) rfl ?_; simp only [Act.put, List.setIfInBounds_toArray, List.set_cons_succ, List.set_cons_zero]
  refine wpQuiet_nil ?_
  rintro _ ⟨⟨dq, osq⟩, rfl⟩
  have hbl' := below_regrown (((w.alloc (.cells #[.pointer (some ⟨d, 0, none⟩), .slice fa D.rs.length fc, .int .i64 D.a.room, .slice la (flen D.a.fall) lc, .int .i64 D.a.changes, .bool D.a.down] 29)).alloc (.cells #[.int .i64 a.kind, .string a.name, .string a.dst, .string a.s, .int .i64 a.n, .int .i64 a.f.on, .int .i64 a.f.keep, .int .i64 a.f.torn] 36)).alloc (.cells #[Value.pointer none, Value.slice none 0 0, Value.int IntKind.i64 0, Value.slice none 0 0, Value.int IntKind.i64 0, Value.bool false] 29)) dq osq
  clear q0 q1 q3
  generalize Sort.grow (redrawn (((w.alloc (.cells #[.pointer (some ⟨d, 0, none⟩), .slice fa D.rs.length fc, .int .i64 D.a.room, .slice la (flen D.a.fall) lc, .int .i64 D.a.changes, .bool D.a.down] 29)).alloc (.cells #[.int .i64 a.kind, .string a.name, .string a.dst, .string a.s, .int .i64 a.n, .int .i64 a.f.on, .int .i64 a.f.keep, .int .i64 a.f.torn] 36)).alloc (.cells #[Value.pointer none, Value.slice none 0 0, Value.int IntKind.i64 0, Value.slice none 0 0, Value.int IntKind.i64 0, Value.bool false] 29)) dq) osq = U at hbl'
  have HU := hide hbl'
  clear hbl'
  go_upto_region 4 with (go_at_call 13; refine (HPROG.out _ HU.out).mono ?_; rintro e w1 ⟨rfl, T, hT, hD1, hk1⟩; have hk1 := Dsk.trans (Dsk.of_below HU.out) hk1; have HQ := hide (And.intro (box_kept hk1 HW.out.1 (by simp [dkind])) (And.intro (box_kept hk1 HW.out.2.1 (by simp [dkind])) (And.intro (box_kept hk1 HW.out.2.2.1 (by simp [dkind])) (And.intro hT (And.intro hD1 hk1))))); clear hT hD1 hk1)
  · refine RegionOwn.regionKF 12 126 11 (.int .i64 R.2) (fun j => match j with
          | 0 => RegionOwn.val (.pointer (some ⟨w.heap.size, 1, none⟩))
          | 1 => RegionOwn.val (.agg #[.slice fa D.rs.length fc, .int .i64 D.a.room, .slice la (flen D.a.fall) lc, .int .i64 D.a.changes, .bool D.a.down])
          | 2 => RegionOwn.val (.pointer (some ⟨w.heap.size + 1, 1, none⟩))
          | 3 => RegionOwn.val (.string a.name)
          | 4 => RegionOwn.val (.pointer (some ⟨w.heap.size + 1, 3, none⟩))
          | 5 => RegionOwn.val (.string a.s)
          | 6 => RegionOwn.val (.string (few60 a.s))
          | 7 => RegionOwn.val (.agg #[.string (few60 a.s), .bool false])
          | 8 => RegionOwn.fact (fun x v => ∃ D' : RD, v = .tuple #[D'.v, .int .i64 R.2] ∧ D'.a = R.1 ∧ RefAt (K + 1) x D')
          | 9 => RegionOwn.fact (fun x v => ∃ D' : RD, v = .tuple #[D'.v, .int .i64 R.2] ∧ D'.a = R.1 ∧ RefAt (K + 1) x D')
          | 10 => RegionOwn.fact (fun x v => ∃ D' : RD, v = D'.v ∧ D'.a = R.1 ∧ RefAt (K + 1) x D')
          | 11 => RegionOwn.val (.int .i64 R.2)
          | _ => RegionOwn.val undef) ?_ rfl (by kernel_rfl) rfl (by kernel_rfl) ?_ (fun _ _ _ h => h) ?_ ?_ ?_
    · intro j hj
      match j, hj with
      | 0, _ | 1, _ | 2, _ | 3, _ | 4, _ | 5, _ | 6, _ | 7, _ | 8, _ | 9, _ | 10, _ | 11, _ => rfl
      | j + 12, h => exact absurd h (by omega)
    · intro j p hj h
      match j, hj, h with
      | 0, _, h | 1, _, h | 2, _, h | 3, _, h | 4, _, h | 5, _, h | 6, _, h | 7, _, h | 11, _, h => cases h
      | 8, _, h | 9, _, h | 10, _, h => cases h; exact fun x y v ⟨E, e1, e2, e3⟩ hb => ⟨E, e1, e2, e3.below hb⟩
      | j + 12, h, _ => exact absurd h (by omega)
    · intro o ho y x hfr hbx hD
      cases ho
      obtain ⟨D', q, _, _⟩ : ∃ D' : RD, RegionOwn.T y 19 = .tuple #[D'.v, .int .i64 R.2] ∧ D'.a = R.1 ∧ RefAt (K + 1) x D' := hD 9 19 (by decide) rfl (by kernel_rfl)
      refine .inl ⟨rfl, fun w' => ?_⟩
      clear hD hfr hJ hK'
      unfold RegionOwn.T at q
      go_simp
    · intro j hj hjf y x hfr hbx hD K' hK
      have e2 : RegionOwn.T y 2 = .pointer (some ⟨w.heap.size, 0, none⟩) := hfr.at (by kernel_rfl) rfl
      have e3 : RegionOwn.T y 3 = .pointer (some ⟨w.heap.size + 1, 0, none⟩) := hfr.at (by kernel_rfl) rfl
      match j, hj with
        | 0, _ =>
          refine RegionOwn.quiet rfl rfl hK rfl rfl ?_
          clear hK hD hfr
          unfold RegionOwn.T at e2
          go_simp
        | 1, _ =>
          refine RegionOwn.quiet rfl rfl hK rfl rfl ?_
          have q : RegionOwn.T y 20 = .pointer (some ⟨w.heap.size, 1, none⟩) := hD 0 20 (by decide) rfl (by kernel_rfl)
          obtain ⟨c0, c1, c2, c3, c4, c5⟩ := cells6s (row_kept HQ.out.1 hbx)
          clear hK hD hfr
          unfold RegionOwn.T at q
          go_simp
        | 2, _ =>
          refine RegionOwn.quiet rfl rfl hK rfl rfl ?_
          clear hK hD hfr
          unfold RegionOwn.T at e3
          go_simp
        | 3, _ =>
          refine RegionOwn.quiet rfl rfl hK rfl rfl ?_
          have q : RegionOwn.T y 22 = .pointer (some ⟨w.heap.size + 1, 1, none⟩) := hD 2 22 (by decide) rfl (by kernel_rfl)
          obtain ⟨g0, g1, g2, g3, g4, g5, g6, g7⟩ := cells8 (row_kept HQ.out.2.1 hbx)
          clear hK hD hfr
          unfold RegionOwn.T at q
          go_simp
        | 4, _ =>
          refine RegionOwn.quiet rfl rfl hK rfl rfl ?_
          clear hK hD hfr
          unfold RegionOwn.T at e3
          go_simp
        | 5, _ =>
          refine RegionOwn.quiet rfl rfl hK rfl rfl ?_
          have q : RegionOwn.T y 24 = .pointer (some ⟨w.heap.size + 1, 3, none⟩) := hD 4 24 (by decide) rfl (by kernel_rfl)
          obtain ⟨g0, g1, g2, g3, g4, g5, g6, g7⟩ := cells8 (row_kept HQ.out.2.1 hbx)
          clear hK hD hfr
          unfold RegionOwn.T at q
          go_simp
        | 6, _ =>
          have q : RegionOwn.T y 25 = .string a.s := hD 5 25 (by decide) rfl (by kernel_rfl)
          have qq : [RegionOwn.T y 25] = [.string a.s] := by rw [q]
          refine RegionOwn.called rfl rfl hK rfl (RegionOwn.enter rfl Try.call53 qq) ?_
          refine (few_any a.s x hss).mono ?_
          rintro e w' ⟨he, rfl⟩
          exact ⟨_, he, Below.refl _ _, rfl⟩
        | 7, _ =>
          refine RegionOwn.quiet rfl rfl hK rfl rfl ?_
          have q : RegionOwn.T y 26 = .string (few60 a.s) := hD 6 26 (by decide) rfl (by kernel_rfl)
          clear hK hD hfr
          unfold RegionOwn.T at q
          have q' := q
          rw [Array.getD_eq_getD_getElem?] at q'
          go_simp
        | 8, _ =>
          have q : RegionOwn.T y 21 = .agg #[.slice fa D.rs.length fc, .int .i64 D.a.room, .slice la (flen D.a.fall) lc, .int .i64 D.a.changes, .bool D.a.down] := hD 1 21 (by decide) rfl (by kernel_rfl)
          have q1 : RegionOwn.T y 23 = .string a.name := hD 3 23 (by decide) rfl (by kernel_rfl)
          have q2 : RegionOwn.T y 27 = .agg #[.string (few60 a.s), .bool false] := hD 7 27 (by decide) rfl (by kernel_rfl)
          have qq : [RegionOwn.T y 21, RegionOwn.T y 23, RegionOwn.T y 27] = [.agg #[.slice fa D.rs.length fc, .int .i64 D.a.room, .slice la (flen D.a.fall) lc, .int .i64 D.a.changes, .bool D.a.down], .string a.name, .agg #[.string (few60 a.s), .bool false]] := by rw [q, q1, q2]
          refine RegionOwn.called rfl rfl hK rfl (RegionOwn.enter rfl Try.call54 qq) ?_
          refine (HREF.out x (HQ.out.2.2.2.2.2.trans (Dsk.of_below hbx))).mono ?_
          rintro e w' ⟨D', he, ha, hr, hb'⟩
          exact ⟨_, he, hb', D', rfl, ha, hr⟩
        | 9, _ =>
          obtain ⟨D', q, ha, hr⟩ : ∃ D' : RD, RegionOwn.T y 28 = .tuple #[D'.v, .int .i64 R.2] ∧ D'.a = R.1 ∧ RefAt (K + 1) x D' := hD 8 28 (by decide) rfl (by kernel_rfl)
          refine RegionOwn.quiet rfl rfl hK rfl ⟨D', rfl, ha, hr⟩ ?_
          clear hK hD hfr
          unfold RegionOwn.T at q
          go_simp
        | 10, _ =>
          obtain ⟨D', q, ha, hr⟩ : ∃ D' : RD, RegionOwn.T y 19 = .tuple #[D'.v, .int .i64 R.2] ∧ D'.a = R.1 ∧ RefAt (K + 1) x D' := hD 9 19 (by decide) rfl (by kernel_rfl)
          refine RegionOwn.quiet rfl rfl hK rfl ⟨D', rfl, ha, hr⟩ ?_
          clear hK hD hfr
          unfold RegionOwn.T at q
          go_simp
        | 11, _ =>
          exact absurd rfl hjf
        | j + 12, h => exact absurd h (by omega)
    · intro y x hfr hbx hD
      obtain ⟨D', q, ha, hr⟩ : ∃ D' : RD, RegionOwn.T y 29 = D'.v ∧ D'.a = R.1 ∧ RefAt (K + 1) x D' := hD 10 29 (by decide) rfl
      have q1 : RegionOwn.T y 30 = .int .i64 R.2 := hD 11 30 (by decide) rfl
      have e2 : RegionOwn.T y 2 = .pointer (some ⟨w.heap.size, 0, none⟩) := hfr.at (by kernel_rfl) rfl
      have hsz : y.tmps.size = 126 := hfr.size
      have xr := row_kept HQ.out.1 hbx
      obtain ⟨c0, c1, c2, c3, c4, c5⟩ := cells6s xr
      obtain ⟨f0, f1, f2, f3, f4, f5⟩ := frozen6s xr
      obtain ⟨fa', fc', hfv'⟩ := Sees.form hr.files
      obtain ⟨la', lc', hlv'⟩ := Sees.form hr.falls
      refine RegionOwn.list_value (v := .pointer (some ⟨w.heap.size, 1, none⟩)) (y := x) rfl ?_ ?_
      · clear hD hfr xr hJ hK' ha hr
        unfold RegionOwn.T at e2
        go_simp
      have q2 : RegionOwn.T (y.put (some 31) (.pointer (some ⟨w.heap.size, 1, none⟩))) 29 = D'.v := (RegionOwn.T_put_ne (by decide)).trans q
      have q3 : RegionOwn.T (y.put (some 31) (.pointer (some ⟨w.heap.size, 1, none⟩))) 31 = .pointer (some ⟨w.heap.size, 1, none⟩) := RegionOwn.T_put_eq (by rw [hsz]; decide)
      refine RegionOwn.list_skip (y := put5 x w.heap.size D'.fv (.int .i64 D'.a.room) D'.lv (.int .i64 D'.a.changes) (.bool D'.a.down)) rfl ?_ ?_
      · unfold RD.v RD.cs at q2
        rw [hfv', hlv'] at q2 ⊢
        show (execOp (Act.eval (y.put (some 31) (.pointer (some ⟨w.heap.size, 1, none⟩)))) _).run _ _ = _
        generalize (y.put (some 31) (.pointer (some ⟨w.heap.size, 1, none⟩))) = y2 at q2 q3
        clear hD hfr xr hJ hK' ha hr q q1 e2 hsz
        unfold RegionOwn.T at q2 q3
        have q' := q2
        rw [Array.getD_eq_getD_getElem?] at q'
        go_simp
      · refine RegionOwn.list_value (v := .int .i64 R.2) (y := put5 x w.heap.size D'.fv (.int .i64 D'.a.room) D'.lv (.int .i64 D'.a.changes) (.bool D'.a.down)) rfl ?_ ?_
        · exact congrArg (fun u => Result.ok (Next.value u) _) ((RegionOwn.T_put_ne (by decide)).trans q1)
        · refine hK' _ _ (Met.intro (hJ _ _ ?_))
          (repeat apply Exists.intro)
          refine ⟨?rel, ?eq⟩
          case eq =>
            have e0z : RegionOwn.T ((y.put (some 31) (.pointer (some ⟨w.heap.size, 1, none⟩))).put (some 8) (.int .i64 R.2)) 0 = _ := ((RegionOwn.T_put_ne (by decide)).trans (RegionOwn.T_put_ne (by decide))).trans (hfr.at (k := 0) (by kernel_rfl) rfl)
            have e1z : RegionOwn.T ((y.put (some 31) (.pointer (some ⟨w.heap.size, 1, none⟩))).put (some 8) (.int .i64 R.2)) 1 = _ := ((RegionOwn.T_put_ne (by decide)).trans (RegionOwn.T_put_ne (by decide))).trans (hfr.at (k := 1) (by kernel_rfl) rfl)
            have e2z : RegionOwn.T ((y.put (some 31) (.pointer (some ⟨w.heap.size, 1, none⟩))).put (some 8) (.int .i64 R.2)) 2 = _ := ((RegionOwn.T_put_ne (by decide)).trans (RegionOwn.T_put_ne (by decide))).trans (hfr.at (k := 2) (by kernel_rfl) rfl)
            have e3z : RegionOwn.T ((y.put (some 31) (.pointer (some ⟨w.heap.size, 1, none⟩))).put (some 8) (.int .i64 R.2)) 3 = _ := ((RegionOwn.T_put_ne (by decide)).trans (RegionOwn.T_put_ne (by decide))).trans (hfr.at (k := 3) (by kernel_rfl) rfl)
            have e4z : RegionOwn.T ((y.put (some 31) (.pointer (some ⟨w.heap.size, 1, none⟩))).put (some 8) (.int .i64 R.2)) 4 = _ := ((RegionOwn.T_put_ne (by decide)).trans (RegionOwn.T_put_ne (by decide))).trans (hfr.at (k := 4) (by kernel_rfl) rfl)
            have e5z : RegionOwn.T ((y.put (some 31) (.pointer (some ⟨w.heap.size, 1, none⟩))).put (some 8) (.int .i64 R.2)) 5 = _ := ((RegionOwn.T_put_ne (by decide)).trans (RegionOwn.T_put_ne (by decide))).trans (hfr.at (k := 5) (by kernel_rfl) rfl)
            have e6z : RegionOwn.T ((y.put (some 31) (.pointer (some ⟨w.heap.size, 1, none⟩))).put (some 8) (.int .i64 R.2)) 6 = _ := ((RegionOwn.T_put_ne (by decide)).trans (RegionOwn.T_put_ne (by decide))).trans (hfr.at (k := 6) (by kernel_rfl) rfl)
            have e7z : RegionOwn.T ((y.put (some 31) (.pointer (some ⟨w.heap.size, 1, none⟩))).put (some 8) (.int .i64 R.2)) 7 = _ := ((RegionOwn.T_put_ne (by decide)).trans (RegionOwn.T_put_ne (by decide))).trans (hfr.at (k := 7) (by kernel_rfl) rfl)
            refine (RegionOwn.act_lit ((y.put (some 31) (.pointer (some ⟨w.heap.size, 1, none⟩))).put (some 8) (.int .i64 R.2)) 126 (by simp [Act.put, hsz])).trans ?_
            show Act.mk (List.toArray [RegionOwn.T ((y.put (some 31) (.pointer (some ⟨w.heap.size, 1, none⟩))).put (some 8) (.int .i64 R.2)) 0, RegionOwn.T ((y.put (some 31) (.pointer (some ⟨w.heap.size, 1, none⟩))).put (some 8) (.int .i64 R.2)) 1, RegionOwn.T ((y.put (some 31) (.pointer (some ⟨w.heap.size, 1, none⟩))).put (some 8) (.int .i64 R.2)) 2, RegionOwn.T ((y.put (some 31) (.pointer (some ⟨w.heap.size, 1, none⟩))).put (some 8) (.int .i64 R.2)) 3, RegionOwn.T ((y.put (some 31) (.pointer (some ⟨w.heap.size, 1, none⟩))).put (some 8) (.int .i64 R.2)) 4, RegionOwn.T ((y.put (some 31) (.pointer (some ⟨w.heap.size, 1, none⟩))).put (some 8) (.int .i64 R.2)) 5, RegionOwn.T ((y.put (some 31) (.pointer (some ⟨w.heap.size, 1, none⟩))).put (some 8) (.int .i64 R.2)) 6, RegionOwn.T ((y.put (some 31) (.pointer (some ⟨w.heap.size, 1, none⟩))).put (some 8) (.int .i64 R.2)) 7, RegionOwn.T ((y.put (some 31) (.pointer (some ⟨w.heap.size, 1, none⟩))).put (some 8) (.int .i64 R.2)) 8, RegionOwn.T ((y.put (some 31) (.pointer (some ⟨w.heap.size, 1, none⟩))).put (some 8) (.int .i64 R.2)) 9, RegionOwn.T ((y.put (some 31) (.pointer (some ⟨w.heap.size, 1, none⟩))).put (some 8) (.int .i64 R.2)) 10, RegionOwn.T ((y.put (some 31) (.pointer (some ⟨w.heap.size, 1, none⟩))).put (some 8) (.int .i64 R.2)) 11, RegionOwn.T ((y.put (some 31) (.pointer (some ⟨w.heap.size, 1, none⟩))).put (some 8) (.int .i64 R.2)) 12, RegionOwn.T ((y.put (some 31) (.pointer (some ⟨w.heap.size, 1, none⟩))).put (some 8) (.int .i64 R.2)) 13, RegionOwn.T ((y.put (some 31) (.pointer (some ⟨w.heap.size, 1, none⟩))).put (some 8) (.int .i64 R.2)) 14, RegionOwn.T ((y.put (some 31) (.pointer (some ⟨w.heap.size, 1, none⟩))).put (some 8) (.int .i64 R.2)) 15, RegionOwn.T ((y.put (some 31) (.pointer (some ⟨w.heap.size, 1, none⟩))).put (some 8) (.int .i64 R.2)) 16, RegionOwn.T ((y.put (some 31) (.pointer (some ⟨w.heap.size, 1, none⟩))).put (some 8) (.int .i64 R.2)) 17, RegionOwn.T ((y.put (some 31) (.pointer (some ⟨w.heap.size, 1, none⟩))).put (some 8) (.int .i64 R.2)) 18, RegionOwn.T ((y.put (some 31) (.pointer (some ⟨w.heap.size, 1, none⟩))).put (some 8) (.int .i64 R.2)) 19, RegionOwn.T ((y.put (some 31) (.pointer (some ⟨w.heap.size, 1, none⟩))).put (some 8) (.int .i64 R.2)) 20, RegionOwn.T ((y.put (some 31) (.pointer (some ⟨w.heap.size, 1, none⟩))).put (some 8) (.int .i64 R.2)) 21, RegionOwn.T ((y.put (some 31) (.pointer (some ⟨w.heap.size, 1, none⟩))).put (some 8) (.int .i64 R.2)) 22, RegionOwn.T ((y.put (some 31) (.pointer (some ⟨w.heap.size, 1, none⟩))).put (some 8) (.int .i64 R.2)) 23, RegionOwn.T ((y.put (some 31) (.pointer (some ⟨w.heap.size, 1, none⟩))).put (some 8) (.int .i64 R.2)) 24, RegionOwn.T ((y.put (some 31) (.pointer (some ⟨w.heap.size, 1, none⟩))).put (some 8) (.int .i64 R.2)) 25, RegionOwn.T ((y.put (some 31) (.pointer (some ⟨w.heap.size, 1, none⟩))).put (some 8) (.int .i64 R.2)) 26, RegionOwn.T ((y.put (some 31) (.pointer (some ⟨w.heap.size, 1, none⟩))).put (some 8) (.int .i64 R.2)) 27, RegionOwn.T ((y.put (some 31) (.pointer (some ⟨w.heap.size, 1, none⟩))).put (some 8) (.int .i64 R.2)) 28, RegionOwn.T ((y.put (some 31) (.pointer (some ⟨w.heap.size, 1, none⟩))).put (some 8) (.int .i64 R.2)) 29, RegionOwn.T ((y.put (some 31) (.pointer (some ⟨w.heap.size, 1, none⟩))).put (some 8) (.int .i64 R.2)) 30, RegionOwn.T ((y.put (some 31) (.pointer (some ⟨w.heap.size, 1, none⟩))).put (some 8) (.int .i64 R.2)) 31, RegionOwn.T ((y.put (some 31) (.pointer (some ⟨w.heap.size, 1, none⟩))).put (some 8) (.int .i64 R.2)) 32, RegionOwn.T ((y.put (some 31) (.pointer (some ⟨w.heap.size, 1, none⟩))).put (some 8) (.int .i64 R.2)) 33, RegionOwn.T ((y.put (some 31) (.pointer (some ⟨w.heap.size, 1, none⟩))).put (some 8) (.int .i64 R.2)) 34, RegionOwn.T ((y.put (some 31) (.pointer (some ⟨w.heap.size, 1, none⟩))).put (some 8) (.int .i64 R.2)) 35, RegionOwn.T ((y.put (some 31) (.pointer (some ⟨w.heap.size, 1, none⟩))).put (some 8) (.int .i64 R.2)) 36, RegionOwn.T ((y.put (some 31) (.pointer (some ⟨w.heap.size, 1, none⟩))).put (some 8) (.int .i64 R.2)) 37, RegionOwn.T ((y.put (some 31) (.pointer (some ⟨w.heap.size, 1, none⟩))).put (some 8) (.int .i64 R.2)) 38, RegionOwn.T ((y.put (some 31) (.pointer (some ⟨w.heap.size, 1, none⟩))).put (some 8) (.int .i64 R.2)) 39, RegionOwn.T ((y.put (some 31) (.pointer (some ⟨w.heap.size, 1, none⟩))).put (some 8) (.int .i64 R.2)) 40, RegionOwn.T ((y.put (some 31) (.pointer (some ⟨w.heap.size, 1, none⟩))).put (some 8) (.int .i64 R.2)) 41, RegionOwn.T ((y.put (some 31) (.pointer (some ⟨w.heap.size, 1, none⟩))).put (some 8) (.int .i64 R.2)) 42, RegionOwn.T ((y.put (some 31) (.pointer (some ⟨w.heap.size, 1, none⟩))).put (some 8) (.int .i64 R.2)) 43, RegionOwn.T ((y.put (some 31) (.pointer (some ⟨w.heap.size, 1, none⟩))).put (some 8) (.int .i64 R.2)) 44, RegionOwn.T ((y.put (some 31) (.pointer (some ⟨w.heap.size, 1, none⟩))).put (some 8) (.int .i64 R.2)) 45, RegionOwn.T ((y.put (some 31) (.pointer (some ⟨w.heap.size, 1, none⟩))).put (some 8) (.int .i64 R.2)) 46, RegionOwn.T ((y.put (some 31) (.pointer (some ⟨w.heap.size, 1, none⟩))).put (some 8) (.int .i64 R.2)) 47, RegionOwn.T ((y.put (some 31) (.pointer (some ⟨w.heap.size, 1, none⟩))).put (some 8) (.int .i64 R.2)) 48, RegionOwn.T ((y.put (some 31) (.pointer (some ⟨w.heap.size, 1, none⟩))).put (some 8) (.int .i64 R.2)) 49, RegionOwn.T ((y.put (some 31) (.pointer (some ⟨w.heap.size, 1, none⟩))).put (some 8) (.int .i64 R.2)) 50, RegionOwn.T ((y.put (some 31) (.pointer (some ⟨w.heap.size, 1, none⟩))).put (some 8) (.int .i64 R.2)) 51, RegionOwn.T ((y.put (some 31) (.pointer (some ⟨w.heap.size, 1, none⟩))).put (some 8) (.int .i64 R.2)) 52, RegionOwn.T ((y.put (some 31) (.pointer (some ⟨w.heap.size, 1, none⟩))).put (some 8) (.int .i64 R.2)) 53, RegionOwn.T ((y.put (some 31) (.pointer (some ⟨w.heap.size, 1, none⟩))).put (some 8) (.int .i64 R.2)) 54, RegionOwn.T ((y.put (some 31) (.pointer (some ⟨w.heap.size, 1, none⟩))).put (some 8) (.int .i64 R.2)) 55, RegionOwn.T ((y.put (some 31) (.pointer (some ⟨w.heap.size, 1, none⟩))).put (some 8) (.int .i64 R.2)) 56, RegionOwn.T ((y.put (some 31) (.pointer (some ⟨w.heap.size, 1, none⟩))).put (some 8) (.int .i64 R.2)) 57, RegionOwn.T ((y.put (some 31) (.pointer (some ⟨w.heap.size, 1, none⟩))).put (some 8) (.int .i64 R.2)) 58, RegionOwn.T ((y.put (some 31) (.pointer (some ⟨w.heap.size, 1, none⟩))).put (some 8) (.int .i64 R.2)) 59, RegionOwn.T ((y.put (some 31) (.pointer (some ⟨w.heap.size, 1, none⟩))).put (some 8) (.int .i64 R.2)) 60, RegionOwn.T ((y.put (some 31) (.pointer (some ⟨w.heap.size, 1, none⟩))).put (some 8) (.int .i64 R.2)) 61, RegionOwn.T ((y.put (some 31) (.pointer (some ⟨w.heap.size, 1, none⟩))).put (some 8) (.int .i64 R.2)) 62, RegionOwn.T ((y.put (some 31) (.pointer (some ⟨w.heap.size, 1, none⟩))).put (some 8) (.int .i64 R.2)) 63, RegionOwn.T ((y.put (some 31) (.pointer (some ⟨w.heap.size, 1, none⟩))).put (some 8) (.int .i64 R.2)) 64, RegionOwn.T ((y.put (some 31) (.pointer (some ⟨w.heap.size, 1, none⟩))).put (some 8) (.int .i64 R.2)) 65, RegionOwn.T ((y.put (some 31) (.pointer (some ⟨w.heap.size, 1, none⟩))).put (some 8) (.int .i64 R.2)) 66, RegionOwn.T ((y.put (some 31) (.pointer (some ⟨w.heap.size, 1, none⟩))).put (some 8) (.int .i64 R.2)) 67, RegionOwn.T ((y.put (some 31) (.pointer (some ⟨w.heap.size, 1, none⟩))).put (some 8) (.int .i64 R.2)) 68, RegionOwn.T ((y.put (some 31) (.pointer (some ⟨w.heap.size, 1, none⟩))).put (some 8) (.int .i64 R.2)) 69, RegionOwn.T ((y.put (some 31) (.pointer (some ⟨w.heap.size, 1, none⟩))).put (some 8) (.int .i64 R.2)) 70, RegionOwn.T ((y.put (some 31) (.pointer (some ⟨w.heap.size, 1, none⟩))).put (some 8) (.int .i64 R.2)) 71, RegionOwn.T ((y.put (some 31) (.pointer (some ⟨w.heap.size, 1, none⟩))).put (some 8) (.int .i64 R.2)) 72, RegionOwn.T ((y.put (some 31) (.pointer (some ⟨w.heap.size, 1, none⟩))).put (some 8) (.int .i64 R.2)) 73, RegionOwn.T ((y.put (some 31) (.pointer (some ⟨w.heap.size, 1, none⟩))).put (some 8) (.int .i64 R.2)) 74, RegionOwn.T ((y.put (some 31) (.pointer (some ⟨w.heap.size, 1, none⟩))).put (some 8) (.int .i64 R.2)) 75, RegionOwn.T ((y.put (some 31) (.pointer (some ⟨w.heap.size, 1, none⟩))).put (some 8) (.int .i64 R.2)) 76, RegionOwn.T ((y.put (some 31) (.pointer (some ⟨w.heap.size, 1, none⟩))).put (some 8) (.int .i64 R.2)) 77, RegionOwn.T ((y.put (some 31) (.pointer (some ⟨w.heap.size, 1, none⟩))).put (some 8) (.int .i64 R.2)) 78, RegionOwn.T ((y.put (some 31) (.pointer (some ⟨w.heap.size, 1, none⟩))).put (some 8) (.int .i64 R.2)) 79, RegionOwn.T ((y.put (some 31) (.pointer (some ⟨w.heap.size, 1, none⟩))).put (some 8) (.int .i64 R.2)) 80, RegionOwn.T ((y.put (some 31) (.pointer (some ⟨w.heap.size, 1, none⟩))).put (some 8) (.int .i64 R.2)) 81, RegionOwn.T ((y.put (some 31) (.pointer (some ⟨w.heap.size, 1, none⟩))).put (some 8) (.int .i64 R.2)) 82, RegionOwn.T ((y.put (some 31) (.pointer (some ⟨w.heap.size, 1, none⟩))).put (some 8) (.int .i64 R.2)) 83, RegionOwn.T ((y.put (some 31) (.pointer (some ⟨w.heap.size, 1, none⟩))).put (some 8) (.int .i64 R.2)) 84, RegionOwn.T ((y.put (some 31) (.pointer (some ⟨w.heap.size, 1, none⟩))).put (some 8) (.int .i64 R.2)) 85, RegionOwn.T ((y.put (some 31) (.pointer (some ⟨w.heap.size, 1, none⟩))).put (some 8) (.int .i64 R.2)) 86, RegionOwn.T ((y.put (some 31) (.pointer (some ⟨w.heap.size, 1, none⟩))).put (some 8) (.int .i64 R.2)) 87, RegionOwn.T ((y.put (some 31) (.pointer (some ⟨w.heap.size, 1, none⟩))).put (some 8) (.int .i64 R.2)) 88, RegionOwn.T ((y.put (some 31) (.pointer (some ⟨w.heap.size, 1, none⟩))).put (some 8) (.int .i64 R.2)) 89, RegionOwn.T ((y.put (some 31) (.pointer (some ⟨w.heap.size, 1, none⟩))).put (some 8) (.int .i64 R.2)) 90, RegionOwn.T ((y.put (some 31) (.pointer (some ⟨w.heap.size, 1, none⟩))).put (some 8) (.int .i64 R.2)) 91, RegionOwn.T ((y.put (some 31) (.pointer (some ⟨w.heap.size, 1, none⟩))).put (some 8) (.int .i64 R.2)) 92, RegionOwn.T ((y.put (some 31) (.pointer (some ⟨w.heap.size, 1, none⟩))).put (some 8) (.int .i64 R.2)) 93, RegionOwn.T ((y.put (some 31) (.pointer (some ⟨w.heap.size, 1, none⟩))).put (some 8) (.int .i64 R.2)) 94, RegionOwn.T ((y.put (some 31) (.pointer (some ⟨w.heap.size, 1, none⟩))).put (some 8) (.int .i64 R.2)) 95, RegionOwn.T ((y.put (some 31) (.pointer (some ⟨w.heap.size, 1, none⟩))).put (some 8) (.int .i64 R.2)) 96, RegionOwn.T ((y.put (some 31) (.pointer (some ⟨w.heap.size, 1, none⟩))).put (some 8) (.int .i64 R.2)) 97, RegionOwn.T ((y.put (some 31) (.pointer (some ⟨w.heap.size, 1, none⟩))).put (some 8) (.int .i64 R.2)) 98, RegionOwn.T ((y.put (some 31) (.pointer (some ⟨w.heap.size, 1, none⟩))).put (some 8) (.int .i64 R.2)) 99, RegionOwn.T ((y.put (some 31) (.pointer (some ⟨w.heap.size, 1, none⟩))).put (some 8) (.int .i64 R.2)) 100, RegionOwn.T ((y.put (some 31) (.pointer (some ⟨w.heap.size, 1, none⟩))).put (some 8) (.int .i64 R.2)) 101, RegionOwn.T ((y.put (some 31) (.pointer (some ⟨w.heap.size, 1, none⟩))).put (some 8) (.int .i64 R.2)) 102, RegionOwn.T ((y.put (some 31) (.pointer (some ⟨w.heap.size, 1, none⟩))).put (some 8) (.int .i64 R.2)) 103, RegionOwn.T ((y.put (some 31) (.pointer (some ⟨w.heap.size, 1, none⟩))).put (some 8) (.int .i64 R.2)) 104, RegionOwn.T ((y.put (some 31) (.pointer (some ⟨w.heap.size, 1, none⟩))).put (some 8) (.int .i64 R.2)) 105, RegionOwn.T ((y.put (some 31) (.pointer (some ⟨w.heap.size, 1, none⟩))).put (some 8) (.int .i64 R.2)) 106, RegionOwn.T ((y.put (some 31) (.pointer (some ⟨w.heap.size, 1, none⟩))).put (some 8) (.int .i64 R.2)) 107, RegionOwn.T ((y.put (some 31) (.pointer (some ⟨w.heap.size, 1, none⟩))).put (some 8) (.int .i64 R.2)) 108, RegionOwn.T ((y.put (some 31) (.pointer (some ⟨w.heap.size, 1, none⟩))).put (some 8) (.int .i64 R.2)) 109, RegionOwn.T ((y.put (some 31) (.pointer (some ⟨w.heap.size, 1, none⟩))).put (some 8) (.int .i64 R.2)) 110, RegionOwn.T ((y.put (some 31) (.pointer (some ⟨w.heap.size, 1, none⟩))).put (some 8) (.int .i64 R.2)) 111, RegionOwn.T ((y.put (some 31) (.pointer (some ⟨w.heap.size, 1, none⟩))).put (some 8) (.int .i64 R.2)) 112, RegionOwn.T ((y.put (some 31) (.pointer (some ⟨w.heap.size, 1, none⟩))).put (some 8) (.int .i64 R.2)) 113, RegionOwn.T ((y.put (some 31) (.pointer (some ⟨w.heap.size, 1, none⟩))).put (some 8) (.int .i64 R.2)) 114, RegionOwn.T ((y.put (some 31) (.pointer (some ⟨w.heap.size, 1, none⟩))).put (some 8) (.int .i64 R.2)) 115, RegionOwn.T ((y.put (some 31) (.pointer (some ⟨w.heap.size, 1, none⟩))).put (some 8) (.int .i64 R.2)) 116, RegionOwn.T ((y.put (some 31) (.pointer (some ⟨w.heap.size, 1, none⟩))).put (some 8) (.int .i64 R.2)) 117, RegionOwn.T ((y.put (some 31) (.pointer (some ⟨w.heap.size, 1, none⟩))).put (some 8) (.int .i64 R.2)) 118, RegionOwn.T ((y.put (some 31) (.pointer (some ⟨w.heap.size, 1, none⟩))).put (some 8) (.int .i64 R.2)) 119, RegionOwn.T ((y.put (some 31) (.pointer (some ⟨w.heap.size, 1, none⟩))).put (some 8) (.int .i64 R.2)) 120, RegionOwn.T ((y.put (some 31) (.pointer (some ⟨w.heap.size, 1, none⟩))).put (some 8) (.int .i64 R.2)) 121, RegionOwn.T ((y.put (some 31) (.pointer (some ⟨w.heap.size, 1, none⟩))).put (some 8) (.int .i64 R.2)) 122, RegionOwn.T ((y.put (some 31) (.pointer (some ⟨w.heap.size, 1, none⟩))).put (some 8) (.int .i64 R.2)) 123, RegionOwn.T ((y.put (some 31) (.pointer (some ⟨w.heap.size, 1, none⟩))).put (some 8) (.int .i64 R.2)) 124, RegionOwn.T ((y.put (some 31) (.pointer (some ⟨w.heap.size, 1, none⟩))).put (some 8) (.int .i64 R.2)) 125]) y.defers = _
            rw [e0z, e1z, e2z, e3z, e4z, e5z, e6z, hfr.defers]
            rfl
          case rel =>
            have e7z : RegionOwn.T ((y.put (some 31) (.pointer (some ⟨w.heap.size, 1, none⟩))).put (some 8) (.int .i64 R.2)) 7 = _ := ((RegionOwn.T_put_ne (by decide)).trans (RegionOwn.T_put_ne (by decide))).trans (hfr.at (k := 7) (by kernel_rfl) rfl)
            have t1 := tch_put5 x w.heap.size D'.fv (.int .i64 D'.a.room) D'.lv (.int .i64 D'.a.changes) (.bool D'.a.down)
            have hB : Both Try.prog base (K + 1) d x T D' := HMAKE.out T D' w1 x HQ.out.2.2.2.1 HQ.out.2.2.2.2.1 ha hr hbx HQ.out.2.2.2.2.2
            have hDsk : Dsk base w x := (Dsk.of_below HW.out.2.2.2).trans (HQ.out.2.2.2.2.2.trans (Dsk.of_below hbx))
            exact ⟨e7z, RegionOwn.T_put_eq (by simp [Act.put, hsz]), T, D', ha, hB.turned xr t1, hDsk.own (Nat.le_refl _) t1, put5_row xr _ _ _ _ _, tch_kept (row_kept HQ.out.2.2.1 hbx) t1 (by omega)⟩
end Go.Proofs.Ytnjkahoaogeecaa
