/- Contract: the document's disk behind a Sync. -/
import Derived.Test.YtnjkahoaogeecaaDiskRefMove
import Derived.Deep.CutBlock
namespace Go.Dk
open Go.RowKit
def RF.sync (r : RF) : RF := ⟨r.a.settle r.a.bytes, .slice none 0 0⟩
def RD.sync (D : RD) (fv : Value) : RD := ⟨D.a.synced, fv, D.lv, D.rs.map RF.sync⟩
theorem sync_snoc {l : List RF} {i : Nat} {r : RF} (h : l[i]? = some r) : (l.take (i + 1)).map RF.sync = (l.take i).map RF.sync ++ [r.sync] := by
  rw [take_snoc h, List.map_append]
  rfl
theorem RefAt.sync {K : Nat} {w w' : World} {D : RD} {v : Value} (h : RefAt K w D) (hb : Below w.heap.size w w') (hv : Sees w' v 4 (D.rs.map RF.sync).length ((D.rs.map RF.sync).flatMap RF.cs)) : RefAt K w' (D.sync v) := by
  refine ⟨hv, fun x hx => ?_, ?_, h.falls.below hb, ?_, fun x hx => ?_, ?_, h.chg, h.lim⟩
  · obtain ⟨r, _, rfl⟩ := List.mem_map.1 hx
    exact ⟨by simp [RF.sync, AF.settle], .inl ⟨rfl, rfl⟩⟩
  · show (D.rs.map RF.sync).map RF.a = D.a.files.map fun f => f.settle f.bytes
    rw [← h.same, List.map_map, List.map_map]
    rfl
  · show Rises RF.nm (D.rs.map RF.sync)
    unfold Rises
    rw [List.pairwise_map]
    exact h.rises
  · obtain ⟨r, hr, rfl⟩ := List.mem_map.1 hx
    have hs := h.small r hr
    exact hs.settle _ hs.bytes
  · show (D.rs.map RF.sync).length ≤ K
    rw [List.length_map]
    exact h.count
end Go.Dk
namespace Go.Proofs.Ytnjkahoaogeecaa
open Go.RowKit Go.Dk
set_option maxRecDepth 100000 in
set_option maxHeartbeats 4000000 in
theorem rsync_live (K : Nat) (D : RD) (w : World) (h : RefAt K w D) (hd : D.a.down = false) :
    Calls Try.prog 57 #[D.v] w fun e w' => ∃ fv, e = .returned (.tuple #[(D.sync fv).v, .int .i64 0]) ∧ RefAt K w' (D.sync fv) ∧ Below w.heap.size w w' := by
  have HF : Hid (∀ i, i < D.rs.length → ∃ r, D.rs[i]? = some r ∧ (∃ b off cap, D.fv = .slice (some ⟨b, off, none⟩) D.rs.length cap ∧ D.rs.length ≤ cap ∧ b < w.heap.size ∧ w.cell? ⟨b, off + i * 4, none⟩ = some (txt r.a.name) ∧ w.cell? ⟨b, off + i * 4 + 1, none⟩ = some (txt r.a.sure) ∧ w.cell? ⟨b, off + i * 4 + 2, none⟩ = some (.bool r.a.settled) ∧ w.cell? ⟨b, off + i * 4 + 3, none⟩ = some r.pv) ∧
      PutsV w r.pv r.a.puts ∧ Small K r.a) := fun i hi => by
    have hr : D.rs[i]? = some D.rs[i] := List.getElem?_eq_getElem hi
    have hm := List.mem_of_getElem? hr
    exact ⟨_, hr, h.files.file hr, h.puts _ hm, h.small _ hm⟩
  obtain ⟨tinfo, hti, htz, hts, htb⟩ := tinfo_ex
  have HTI := hide (And.intro hti (And.intro htz (And.intro hts htb)))
  clear hti htz hts htb
  obtain ⟨la, lc, hlv⟩ := Sees.form h.falls
  obtain ⟨fa, fc, hfv⟩ := Sees.form h.files
  have hlim := h.lim
  have hcnt := h.count
  unfold RD.v RD.cs
  rw [hfv] at HF
  rw [hfv, hlv, hd]
  clear hfv
  generalize hrs : D.rs.length = n at *
  have HN := hide hrs
  clear hrs
  go_enter Try.func57, Try.ntmps57
  go_wp2
  go_loopw [4, 5] (fun v vi wr => ∃ i : Nat, i ≤ n ∧ vi = .int .i64 i ∧ Hid (Below (w.heap.size + 2) ((w.alloc (.cells #[.slice fa n fc, .int .i64 D.a.room, .slice la (flen D.a.fall) lc, .int .i64 D.a.changes, .bool false] 27)).alloc (.cells #[Value.slice none 0 0, Value.int IntKind.i64 0, Value.slice none 0 0, Value.int IntKind.i64 0, Value.bool false] 27)) wr ∧ wr.ownsRow (w.heap.size + 2) 52 4 v ((D.rs.take i).map RF.sync).length (((D.rs.take i).map RF.sync).flatMap RF.cs))) (fun _ vi _ => n - (intOf vi).toNat)
  case atStart =>
    refine ⟨0, Nat.zero_le _, rfl, ?_, ?_⟩
    · exact (Below.refl _ _).alloc (by simp) _
    · have := World.ownsRow_made (base := w.heap.size + 2) (e := 52) (size := 4) ((w.alloc (.cells #[.slice fa n fc, .int .i64 D.a.room, .slice la (flen D.a.fall) lc, .int .i64 D.a.changes, .bool false] 27)).alloc (.cells #[Value.slice none 0 0, Value.int IntKind.i64 0, Value.slice none 0 0, Value.int IntKind.i64 0, Value.bool false] 27)) #[] 0 (by simp) (Nat.zero_le _) rfl
      simpa using this
  case round =>
    obtain ⟨i, hi, rfl, HB⟩ := hrel
    obtain ⟨x2, x4, kb⟩ := two_below (w := w) (w1 := wr) (HB.out.1.mono (by simp))
    obtain ⟨c0, c1, c2, c3, c4⟩ := cells5 x2
    have HX := hide (And.intro x2 (And.intro x4 kb))
    clear x2 x4
    by_cases hlt : i < n
    · obtain ⟨r, hr, ⟨b, off, cap, hv, hcap, hbw, d0, d1, d2, d3⟩, hput, hsm⟩ := HF.out i hlt
      cases hv
      have e : ∀ k u, w.cell? ⟨b, k, none⟩ = some u → wr.cell? ⟨b, k, none⟩ = some u := fun k u hu => (kb.cell (p := ⟨b, k, none⟩) hbw).trans hu
      obtain ⟨pa, pc, hpv⟩ := Sees.form hput
      rw [hpv] at d3
      unfold txt at d0 d1
      have hpl := hsm.puts
      have HBYTES : Hid (∀ w1, Below wr.heap.size wr w1 → Calls Try.prog 36 #[.agg #[.string ⟨r.a.name.toArray⟩, .string ⟨r.a.sure.toArray⟩, .bool r.a.settled, .slice pa r.a.puts.length pc]] w1 fun e w' => e = .returned (.string ⟨r.a.bytes.toArray⟩) ∧ Below w1.heap.size w1 w') := fun w1 hb => by
        have := rbytes_any r w1 (Sees.below hput (kb.trans (hb.mono kb.size))) (by omega) (hsm.after hlim)
        unfold RF.v RF.cs txt at this
        rw [hpv] at this
        exact this
      have HSET : Hid (∀ w1, Calls Try.prog 71 #[.agg #[.string ⟨r.a.name.toArray⟩, .string ⟨r.a.sure.toArray⟩, .bool r.a.settled, .slice pa r.a.puts.length pc], .string ⟨r.a.name.toArray⟩, .string ⟨r.a.bytes.toArray⟩] w1 fun e w' => e = .returned (.agg #[.string ⟨r.a.name.toArray⟩, .string ⟨r.a.bytes.toArray⟩, .bool true, .slice none 0 0]) ∧ Below w1.heap.size w1 w') := fun w1 => by
        have := rsettled_any r r.a.name r.a.bytes w1 ⟨_, _, _, hpv⟩
        unfold RF.v RF.cs txt at this
        rw [hpv] at this
        exact this
      have HQ : Hid (∀ x, Below wr.heap.size wr x → x.cell? ⟨b, off + i * 4, none⟩ = some (.string ⟨r.a.name.toArray⟩) ∧ x.cell? ⟨b, off + i * 4 + 1, none⟩ = some (.string ⟨r.a.sure.toArray⟩) ∧ x.cell? ⟨b, off + i * 4 + 2, none⟩ = some (.bool r.a.settled) ∧ x.cell? ⟨b, off + i * 4 + 3, none⟩ = some (.slice pa r.a.puts.length pc)) := fun x hx => by
        have ez : ∀ k u, w.cell? ⟨b, k, none⟩ = some u → x.cell? ⟨b, k, none⟩ = some u := fun k u hu => ((kb.trans (hx.mono kb.size)).cell (p := ⟨b, k, none⟩) hbw).trans hu
        exact ⟨ez _ _ d0, ez _ _ d1, ez _ _ d2, ez _ _ d3⟩
      clear e d0 d1 d2 d3 hput hpv
      have HSN := hide (sync_snoc hr)
      clear hr hsm
      go_upto_block 1 with fail
      clear c0 c1 c2 c3 c4
      go_cut [4] from 10 to 37 (fun v wx => Hid (Below (w.heap.size + 2) ((w.alloc (.cells #[.slice (some ⟨b, off, none⟩) n fc, .int .i64 D.a.room, .slice la (flen D.a.fall) lc, .int .i64 D.a.changes, .bool false] 27)).alloc (.cells #[Value.slice none 0 0, Value.int IntKind.i64 0, Value.slice none 0 0, Value.int IntKind.i64 0, Value.bool false] 27)) wx ∧ wx.ownsRow (w.heap.size + 2) 52 4 v ((D.rs.take (i + 1)).map RF.sync).length (((D.rs.take (i + 1)).map RF.sync).flatMap RF.cs)))
      case rest =>
        clear HB HX HBYTES HSET HSN HQ
        go_wp2
        refine ⟨⟨i + 1, by omega, by go_num, hcut⟩, by simp [intOf]; omega⟩
      case first =>
        rename_i J K' hJ hK'
        go_upto_region 7 with fail
        refine RegionOwn.regionK 20 41 52 4 (fun j => match j with
            | 0 => RegionOwn.val u4
            | 1 => RegionOwn.val (.pointer (some ⟨w.heap.size, 0, none⟩))
            | 2 => RegionOwn.val (.slice (some ⟨b, off, none⟩) n fc)
            | 3 => RegionOwn.val (.int .i64 i)
            | 4 => RegionOwn.val (.pointer (some ⟨b, off + i * 4, none⟩))
            | 5 => RegionOwn.val (.agg #[.string ⟨r.a.name.toArray⟩, .string ⟨r.a.sure.toArray⟩, .bool r.a.settled, .slice pa r.a.puts.length pc])
            | 6 => RegionOwn.val (.pointer (some ⟨w.heap.size, 0, none⟩))
            | 7 => RegionOwn.val (.slice (some ⟨b, off, none⟩) n fc)
            | 8 => RegionOwn.val (.int .i64 i)
            | 9 => RegionOwn.val (.pointer (some ⟨b, off + i * 4, none⟩))
            | 10 => RegionOwn.val (.pointer (some ⟨b, off + i * 4, none⟩))
            | 11 => RegionOwn.val (.string ⟨r.a.name.toArray⟩)
            | 12 => RegionOwn.val (.pointer (some ⟨w.heap.size, 0, none⟩))
            | 13 => RegionOwn.val (.slice (some ⟨b, off, none⟩) n fc)
            | 14 => RegionOwn.val (.int .i64 i)
            | 15 => RegionOwn.val (.pointer (some ⟨b, off + i * 4, none⟩))
            | 16 => RegionOwn.val (.agg #[.string ⟨r.a.name.toArray⟩, .string ⟨r.a.sure.toArray⟩, .bool r.a.settled, .slice pa r.a.puts.length pc])
            | 17 => RegionOwn.val (.string ⟨r.a.bytes.toArray⟩)
            | 18 => RegionOwn.val (.agg #[.string ⟨r.a.name.toArray⟩, .string ⟨r.a.bytes.toArray⟩, .bool true, .slice none 0 0])
            | 19 => RegionOwn.row 1 [.string ⟨r.a.name.toArray⟩, .string ⟨r.a.bytes.toArray⟩, .bool true, .slice none 0 0] 20
            | _ => RegionOwn.val undef) (fun j => match j with | 19 => some 20 | _ => none) ?_ (by kernel_rfl) rfl (by kernel_rfl) ?_ ?_ ?_
        · intro j hj
          match j, hj with
          | 0, _ | 1, _ | 2, _ | 3, _ | 4, _ | 5, _ | 6, _ | 7, _ | 8, _ | 9, _ | 10, _ | 11, _ | 12, _ | 13, _ | 14, _ | 15, _ | 16, _ | 17, _ | 18, _ | 19, _ => rfl
          | j + 20, h => exact absurd h (by omega)
        · intro j p hj h
          match j, hj, h with
          | 0, _, h | 1, _, h | 2, _, h | 3, _, h | 4, _, h | 5, _, h | 6, _, h | 7, _, h | 8, _, h | 9, _, h | 10, _, h | 11, _, h | 12, _, h | 13, _, h | 14, _, h | 15, _, h | 16, _, h | 17, _, h | 18, _, h | 19, _, h => cases h
          | j + 20, h, _ => exact absurd h (by omega)
        · intro j hj y x hfr hbx hD K' hK
          have e1 : RegionOwn.T y 1 = .pointer (some ⟨w.heap.size, 0, none⟩) := hfr.at (by kernel_rfl) rfl
          have e4 : RegionOwn.T y 4 = u4 := hfr.at (by kernel_rfl) rfl
          have e5 : RegionOwn.T y 5 = .int .i64 i := hfr.at (by kernel_rfl) rfl
          match j, hj with
          | 0, _ =>
            refine RegionOwn.quiet rfl rfl hK rfl rfl ?_
            clear hK hD hfr
            unfold RegionOwn.T at e4
            go_simp
          | 1, _ =>
            refine RegionOwn.quiet rfl rfl hK rfl rfl ?_
            clear hK hD hfr
            unfold RegionOwn.T at e1
            go_simp
          | 2, _ =>
            refine RegionOwn.quiet rfl rfl hK rfl rfl ?_
            have q : RegionOwn.T y 18 = .pointer (some ⟨w.heap.size, 0, none⟩) := hD 1 18 (by decide) rfl (by kernel_rfl) (.inl rfl)
            obtain ⟨c0, _⟩ := cells5 (row_kept HX.out.1 hbx)
            clear hK hD hfr
            unfold RegionOwn.T at q
            go_simp
          | 3, _ =>
            refine RegionOwn.quiet rfl rfl hK rfl rfl ?_
            clear hK hD hfr
            unfold RegionOwn.T at e5
            go_simp
          | 4, _ =>
            refine RegionOwn.quiet rfl rfl hK rfl rfl ?_
            have q : RegionOwn.T y 19 = .slice (some ⟨b, off, none⟩) n fc := hD 2 19 (by decide) rfl (by kernel_rfl) (.inl rfl)
            have q' : RegionOwn.T y 20 = .int .i64 i := hD 3 20 (by decide) rfl (by kernel_rfl) (.inl rfl)
            clear hK hD hfr
            unfold RegionOwn.T at q q'
            go_simp
          | 5, _ =>
            refine RegionOwn.quiet rfl rfl hK rfl rfl ?_
            have q : RegionOwn.T y 21 = .pointer (some ⟨b, off + i * 4, none⟩) := hD 4 21 (by decide) rfl (by kernel_rfl) (.inl rfl)
            obtain ⟨z0, z1, z2, z3⟩ := HQ.out x hbx
            clear hK hD hfr
            unfold RegionOwn.T at q
            go_simp
          | 6, _ =>
            refine RegionOwn.quiet rfl rfl hK rfl rfl ?_
            clear hK hD hfr
            unfold RegionOwn.T at e1
            go_simp
          | 7, _ =>
            refine RegionOwn.quiet rfl rfl hK rfl rfl ?_
            have q : RegionOwn.T y 23 = .pointer (some ⟨w.heap.size, 0, none⟩) := hD 6 23 (by decide) rfl (by kernel_rfl) (.inl rfl)
            obtain ⟨c0, _⟩ := cells5 (row_kept HX.out.1 hbx)
            clear hK hD hfr
            unfold RegionOwn.T at q
            go_simp
          | 8, _ =>
            refine RegionOwn.quiet rfl rfl hK rfl rfl ?_
            clear hK hD hfr
            unfold RegionOwn.T at e5
            go_simp
          | 9, _ =>
            refine RegionOwn.quiet rfl rfl hK rfl rfl ?_
            have q : RegionOwn.T y 24 = .slice (some ⟨b, off, none⟩) n fc := hD 7 24 (by decide) rfl (by kernel_rfl) (.inl rfl)
            have q' : RegionOwn.T y 25 = .int .i64 i := hD 8 25 (by decide) rfl (by kernel_rfl) (.inl rfl)
            clear hK hD hfr
            unfold RegionOwn.T at q q'
            go_simp
          | 10, _ =>
            refine RegionOwn.quiet rfl rfl hK rfl rfl ?_
            have q : RegionOwn.T y 26 = .pointer (some ⟨b, off + i * 4, none⟩) := hD 9 26 (by decide) rfl (by kernel_rfl) (.inl rfl)
            clear hK hD hfr
            unfold RegionOwn.T at q
            go_simp
          | 11, _ =>
            refine RegionOwn.quiet rfl rfl hK rfl rfl ?_
            have q : RegionOwn.T y 27 = .pointer (some ⟨b, off + i * 4, none⟩) := hD 10 27 (by decide) rfl (by kernel_rfl) (.inl rfl)
            obtain ⟨z0, z1, z2, z3⟩ := HQ.out x hbx
            clear hK hD hfr
            unfold RegionOwn.T at q
            go_simp
          | 12, _ =>
            refine RegionOwn.quiet rfl rfl hK rfl rfl ?_
            clear hK hD hfr
            unfold RegionOwn.T at e1
            go_simp
          | 13, _ =>
            refine RegionOwn.quiet rfl rfl hK rfl rfl ?_
            have q : RegionOwn.T y 29 = .pointer (some ⟨w.heap.size, 0, none⟩) := hD 12 29 (by decide) rfl (by kernel_rfl) (.inl rfl)
            obtain ⟨c0, _⟩ := cells5 (row_kept HX.out.1 hbx)
            clear hK hD hfr
            unfold RegionOwn.T at q
            go_simp
          | 14, _ =>
            refine RegionOwn.quiet rfl rfl hK rfl rfl ?_
            clear hK hD hfr
            unfold RegionOwn.T at e5
            go_simp
          | 15, _ =>
            refine RegionOwn.quiet rfl rfl hK rfl rfl ?_
            have q : RegionOwn.T y 30 = .slice (some ⟨b, off, none⟩) n fc := hD 13 30 (by decide) rfl (by kernel_rfl) (.inl rfl)
            have q' : RegionOwn.T y 31 = .int .i64 i := hD 14 31 (by decide) rfl (by kernel_rfl) (.inl rfl)
            clear hK hD hfr
            unfold RegionOwn.T at q q'
            go_simp
          | 16, _ =>
            refine RegionOwn.quiet rfl rfl hK rfl rfl ?_
            have q : RegionOwn.T y 32 = .pointer (some ⟨b, off + i * 4, none⟩) := hD 15 32 (by decide) rfl (by kernel_rfl) (.inl rfl)
            obtain ⟨z0, z1, z2, z3⟩ := HQ.out x hbx
            clear hK hD hfr
            unfold RegionOwn.T at q
            go_simp
          | 17, _ =>
            have q : RegionOwn.T y 33 = .agg #[.string ⟨r.a.name.toArray⟩, .string ⟨r.a.sure.toArray⟩, .bool r.a.settled, .slice pa r.a.puts.length pc] := hD 16 33 (by decide) rfl (by kernel_rfl) (.inl rfl)
            have qq : [RegionOwn.T y 33] = [.agg #[.string ⟨r.a.name.toArray⟩, .string ⟨r.a.sure.toArray⟩, .bool r.a.settled, .slice pa r.a.puts.length pc]] := by rw [q]
            refine RegionOwn.called rfl rfl hK rfl (RegionOwn.enter rfl Try.call36 qq) ?_
            refine (HBYTES.out x hbx).mono ?_
            rintro e w' ⟨he, hb'⟩
            exact ⟨_, he, hb', rfl⟩
          | 18, _ =>
            have q : RegionOwn.T y 22 = .agg #[.string ⟨r.a.name.toArray⟩, .string ⟨r.a.sure.toArray⟩, .bool r.a.settled, .slice pa r.a.puts.length pc] := hD 5 22 (by decide) rfl (by kernel_rfl) (.inl rfl)
            have q1 : RegionOwn.T y 28 = .string ⟨r.a.name.toArray⟩ := hD 11 28 (by decide) rfl (by kernel_rfl) (.inl rfl)
            have q2 : RegionOwn.T y 34 = .string ⟨r.a.bytes.toArray⟩ := hD 17 34 (by decide) rfl (by kernel_rfl) (.inl rfl)
            have qq : [RegionOwn.T y 22, RegionOwn.T y 28, RegionOwn.T y 34] = [.agg #[.string ⟨r.a.name.toArray⟩, .string ⟨r.a.sure.toArray⟩, .bool r.a.settled, .slice pa r.a.puts.length pc], .string ⟨r.a.name.toArray⟩, .string ⟨r.a.bytes.toArray⟩] := by rw [q, q1, q2]
            refine RegionOwn.called rfl rfl hK rfl (RegionOwn.enter rfl Try.call71 qq) ?_
            refine (HSET.out x).mono ?_
            rintro e w' ⟨he, hb'⟩
            exact ⟨_, he, hb', rfl⟩
          | 19, _ =>
            have q : RegionOwn.T y 35 = .agg #[.string ⟨r.a.name.toArray⟩, .string ⟨r.a.bytes.toArray⟩, .bool true, .slice none 0 0] := hD 18 35 (by decide) rfl (by kernel_rfl) (.inl rfl)
            refine RegionOwn.made (ob := .cells #[.string ⟨r.a.name.toArray⟩, .string ⟨r.a.bytes.toArray⟩, .bool true, .slice none 0 0] 52) (v := .slice (some ⟨x.heap.size, 0, none⟩) 1 1) rfl rfl hK (RegionOwn.made_one x _ 52 4 #[.string ⟨r.a.name.toArray⟩, .string ⟨r.a.bytes.toArray⟩, .bool true, .slice none 0 0] hbx.size rfl) (fun g h => by simp [Value.ownBlock] at h; omega) ?_
            clear hK hD hfr
            unfold RegionOwn.T at q
            have q' := q
            rw [Array.getD_eq_getD_getElem?] at q'
            go_simp
          | j + 20, h => exact absurd h (by omega)
        · intro y x hfr hbx hD
          have q : RegionOwn.T y 17 = u4 := hD 0 17 (by decide) rfl (fun i hi e => by cases e)
          have q1 : x.ownsRow wr.heap.size 52 4 (RegionOwn.T y 36) 1 [.string ⟨r.a.name.toArray⟩, .string ⟨r.a.bytes.toArray⟩, .bool true, .slice none 0 0] := hD 19 36 (by decide) rfl (fun i hi e => by cases e; omega)
          have hown := own_below HB.out.2 hbx
          have hbb : Below (w.heap.size + 2) ((w.alloc (.cells #[.slice (some ⟨b, off, none⟩) n fc, .int .i64 D.a.room, .slice la (flen D.a.fall) lc, .int .i64 D.a.changes, .bool false] 27)).alloc (.cells #[Value.slice none 0 0, Value.int IntKind.i64 0, Value.slice none 0 0, Value.int IntKind.i64 0, Value.bool false] 27)) x := HB.out.1.trans (hbx.mono (by have := HB.out.1.size; simp at this; omega))
          have hol : ((D.rs.take i).map RF.sync).length ≤ 100000 := by rw [List.length_map, List.length_take]; omega
          have hsz : y.tmps.size = 41 := hfr.size
          obtain ⟨g, cap, hv, hcells⟩ : ∃ g cap, RegionOwn.T y 36 = .slice (some ⟨g, 0, none⟩) 1 cap ∧ ∀ j u, ([.string ⟨r.a.name.toArray⟩, .string ⟨r.a.bytes.toArray⟩, .bool true, .slice none 0 0] : List Value)[j]? = some u → x.cell? ((⟨g, 0, none⟩ : Addr).add j) = some u := by
            rcases q1.2 with ⟨_, h0⟩ | ⟨g, cap, cur, h1, _⟩
            · cases h0
            · exact ⟨g, cap, h1, q1.cells (g := g) (by rw [h1]; rfl)⟩
          refine wpList_append_own x rfl (.tmp 17) (.tmp 36) 24 rfl (w.heap.size + 2) 52 tinfo _ 4 64 Try.underlying24 HTI.out.1 HTI.out.2.1 HTI.out.2.2.1 HTI.out.2.2.2 rfl (by decide) u4 _ _ q hown ⟨g, 0, none⟩ 1 cap [.string ⟨r.a.name.toArray⟩, .string ⟨r.a.bytes.toArray⟩, .bool true, .slice none 0 0] hv rfl hcells (by simp [Value.oneCell']) (by simp only [maxLen]; omega) (by omega) (by have := hbb.size; simp at this; omega) ?_
          intro v' w' ho hg _
          refine RegionOwn.list_value (v := v') (y := w') rfl ?_ ?_
          · exact congrArg (fun u => Result.ok (Next.value u) w') (RegionOwn.T_put_eq (b := y) (d := 37) (v := v') (by rw [hsz]; decide))
          · refine hK' _ _ (Met.intro (hJ _ _ ?_))
            (repeat apply Exists.intro)
            refine ⟨?rel, ?eq⟩
            case eq =>
              have e0z : RegionOwn.T ((y.put (some 37) v').put (some 4) v') 0 = _ := ((RegionOwn.T_put_ne (by decide)).trans (RegionOwn.T_put_ne (by decide))).trans (hfr.at (k := 0) (by kernel_rfl) rfl)
              have e1z : RegionOwn.T ((y.put (some 37) v').put (some 4) v') 1 = _ := ((RegionOwn.T_put_ne (by decide)).trans (RegionOwn.T_put_ne (by decide))).trans (hfr.at (k := 1) (by kernel_rfl) rfl)
              have e2z : RegionOwn.T ((y.put (some 37) v').put (some 4) v') 2 = _ := ((RegionOwn.T_put_ne (by decide)).trans (RegionOwn.T_put_ne (by decide))).trans (hfr.at (k := 2) (by kernel_rfl) rfl)
              have e3z : RegionOwn.T ((y.put (some 37) v').put (some 4) v') 3 = _ := ((RegionOwn.T_put_ne (by decide)).trans (RegionOwn.T_put_ne (by decide))).trans (hfr.at (k := 3) (by kernel_rfl) rfl)
              have e5z : RegionOwn.T ((y.put (some 37) v').put (some 4) v') 5 = _ := ((RegionOwn.T_put_ne (by decide)).trans (RegionOwn.T_put_ne (by decide))).trans (hfr.at (k := 5) (by kernel_rfl) rfl)
              have e6z : RegionOwn.T ((y.put (some 37) v').put (some 4) v') 6 = _ := ((RegionOwn.T_put_ne (by decide)).trans (RegionOwn.T_put_ne (by decide))).trans (hfr.at (k := 6) (by kernel_rfl) rfl)
              have e7z : RegionOwn.T ((y.put (some 37) v').put (some 4) v') 7 = _ := ((RegionOwn.T_put_ne (by decide)).trans (RegionOwn.T_put_ne (by decide))).trans (hfr.at (k := 7) (by kernel_rfl) rfl)
              have e8z : RegionOwn.T ((y.put (some 37) v').put (some 4) v') 8 = _ := ((RegionOwn.T_put_ne (by decide)).trans (RegionOwn.T_put_ne (by decide))).trans (hfr.at (k := 8) (by kernel_rfl) rfl)
              have e9z : RegionOwn.T ((y.put (some 37) v').put (some 4) v') 9 = _ := ((RegionOwn.T_put_ne (by decide)).trans (RegionOwn.T_put_ne (by decide))).trans (hfr.at (k := 9) (by kernel_rfl) rfl)
              have e38z : RegionOwn.T ((y.put (some 37) v').put (some 4) v') 38 = _ := ((RegionOwn.T_put_ne (by decide)).trans (RegionOwn.T_put_ne (by decide))).trans (hfr.at (k := 38) (by kernel_rfl) rfl)
              have e39z : RegionOwn.T ((y.put (some 37) v').put (some 4) v') 39 = _ := ((RegionOwn.T_put_ne (by decide)).trans (RegionOwn.T_put_ne (by decide))).trans (hfr.at (k := 39) (by kernel_rfl) rfl)
              have e40z : RegionOwn.T ((y.put (some 37) v').put (some 4) v') 40 = _ := ((RegionOwn.T_put_ne (by decide)).trans (RegionOwn.T_put_ne (by decide))).trans (hfr.at (k := 40) (by kernel_rfl) rfl)
              refine (RegionOwn.act_lit ((y.put (some 37) v').put (some 4) v') 41 (by simp [Act.put, hsz])).trans ?_
              show Act.mk (List.toArray [RegionOwn.T ((y.put (some 37) v').put (some 4) v') 0, RegionOwn.T ((y.put (some 37) v').put (some 4) v') 1, RegionOwn.T ((y.put (some 37) v').put (some 4) v') 2, RegionOwn.T ((y.put (some 37) v').put (some 4) v') 3, RegionOwn.T ((y.put (some 37) v').put (some 4) v') 4, RegionOwn.T ((y.put (some 37) v').put (some 4) v') 5, RegionOwn.T ((y.put (some 37) v').put (some 4) v') 6, RegionOwn.T ((y.put (some 37) v').put (some 4) v') 7, RegionOwn.T ((y.put (some 37) v').put (some 4) v') 8, RegionOwn.T ((y.put (some 37) v').put (some 4) v') 9, RegionOwn.T ((y.put (some 37) v').put (some 4) v') 10, RegionOwn.T ((y.put (some 37) v').put (some 4) v') 11, RegionOwn.T ((y.put (some 37) v').put (some 4) v') 12, RegionOwn.T ((y.put (some 37) v').put (some 4) v') 13, RegionOwn.T ((y.put (some 37) v').put (some 4) v') 14, RegionOwn.T ((y.put (some 37) v').put (some 4) v') 15, RegionOwn.T ((y.put (some 37) v').put (some 4) v') 16, RegionOwn.T ((y.put (some 37) v').put (some 4) v') 17, RegionOwn.T ((y.put (some 37) v').put (some 4) v') 18, RegionOwn.T ((y.put (some 37) v').put (some 4) v') 19, RegionOwn.T ((y.put (some 37) v').put (some 4) v') 20, RegionOwn.T ((y.put (some 37) v').put (some 4) v') 21, RegionOwn.T ((y.put (some 37) v').put (some 4) v') 22, RegionOwn.T ((y.put (some 37) v').put (some 4) v') 23, RegionOwn.T ((y.put (some 37) v').put (some 4) v') 24, RegionOwn.T ((y.put (some 37) v').put (some 4) v') 25, RegionOwn.T ((y.put (some 37) v').put (some 4) v') 26, RegionOwn.T ((y.put (some 37) v').put (some 4) v') 27, RegionOwn.T ((y.put (some 37) v').put (some 4) v') 28, RegionOwn.T ((y.put (some 37) v').put (some 4) v') 29, RegionOwn.T ((y.put (some 37) v').put (some 4) v') 30, RegionOwn.T ((y.put (some 37) v').put (some 4) v') 31, RegionOwn.T ((y.put (some 37) v').put (some 4) v') 32, RegionOwn.T ((y.put (some 37) v').put (some 4) v') 33, RegionOwn.T ((y.put (some 37) v').put (some 4) v') 34, RegionOwn.T ((y.put (some 37) v').put (some 4) v') 35, RegionOwn.T ((y.put (some 37) v').put (some 4) v') 36, RegionOwn.T ((y.put (some 37) v').put (some 4) v') 37, RegionOwn.T ((y.put (some 37) v').put (some 4) v') 38, RegionOwn.T ((y.put (some 37) v').put (some 4) v') 39, RegionOwn.T ((y.put (some 37) v').put (some 4) v') 40]) y.defers = _
              rw [e0z, e1z, e2z, e3z, e5z, e6z, e7z, e8z, e9z, e38z, e39z, e40z, hfr.defers]
              rfl
            case rel =>
              rw [RegionOwn.T_put_eq (by simp [Act.put, hsz])]
              refine ⟨hbb.grown hg (by have := hbb.size; simp at this; omega) (fun k hk => (HB.out.2.lt k hk).1), ?_⟩
              rw [HSN.out, List.length_append, List.flatMap_append, List.flatMap_cons]
              simpa [RF.sync, RF.cs, AF.settle, txt] using ho
    · have : i = n := by omega
      subst this
      have HALL : Hid (D.rs.take i = D.rs) := List.take_of_length_le (by rw [HN.out]; exact Nat.le_refl _)
      rw [HALL.out] at HB
      generalize hM : (D.rs.map RF.sync).length = M at HB
      obtain ⟨va, vc, hv⟩ := RegionOwn.own_form HB.out.2
      subst hv
      have HM := hide hM
      clear hM
      obtain ⟨d0, d1, d2, d3, d4⟩ := cells5 HX.out.2.1
      obtain ⟨f0, f1, f2, f3, f4⟩ := frozen5 HX.out.2.1
      obtain ⟨e0, e1, e2, e3, e4⟩ := frozen5 HX.out.1
      clear HF
      have hsz2 : w.heap.size + 1 < w.heap.size + 2 := by omega
      go_wp2
      have y4 : (wr.setCell ⟨w.heap.size, 0, none⟩ (.slice va M vc)).heap[w.heap.size + 1]? = some (.cells #[Value.slice none 0 0, Value.int IntKind.i64 0, Value.slice none 0 0, Value.int IntKind.i64 0, Value.bool false] 27 (0, 0)) := set_kept HX.out.2.1 (by omega)
      have yb : Below w.heap.size w (wr.setCell ⟨w.heap.size, 0, none⟩ (.slice va M vc)) := HX.out.2.2.setCell (p := ⟨w.heap.size, 0, none⟩) (Nat.le_refl _) _
      refine bodyPost_ret (results_cell2_row Try.results57 _ _ _ 27 _ (0, 0) _ rfl (set5 y4 _ _ _ _ _) Try.underlying27 rfl infoDisk) rfl ⟨.slice va M vc, ?_, ?_, below5 yb (Nat.le_add_right _ 1) _ _ _ _ _⟩
      · simp only [RD.sync, A.synced, hlv, hd]
        rfl
      · refine h.sync (below5 yb (Nat.le_add_right _ 1) _ _ _ _ _) ?_
        have ho := HB.out.2
        have z0 : w.heap.size < w.heap.size + 2 := by omega
        rw [HM.out]
        exact Sees.of_own (own_set (own_set (own_set (own_set (own_set (own_set ho z0 _ _) hsz2 _ _) hsz2 _ _) hsz2 _ _) hsz2 _ _) hsz2 _ _)
set_option maxRecDepth 100000 in
set_option maxHeartbeats 1000000 in
theorem rsync_any (K : Nat) (D : RD) (w : World) (h : RefAt K w D) :
    Calls Try.prog 57 #[D.v] w fun e w' => ∃ D' : RD, e = .returned (.tuple #[D'.v, .int .i64 D.a.doSync.2]) ∧ D'.a = D.a.doSync.1 ∧ RefAt K w' D' ∧ Below w.heap.size w w' := by
  cases hd : D.a.down with
  | false =>
    refine (rsync_live K D w h hd).mono ?_
    rintro e w' ⟨fv, he, hr, hb⟩
    refine ⟨_, ?_, ?_, hr, hb⟩
    · rw [he]; unfold A.doSync; rw [if_neg (by simp [hd])]
    · unfold A.doSync; rw [if_neg (by simp [hd])]; rfl
  | true =>
    have HA : Hid (∀ w', Below w.heap.size w w' → ∃ D' : RD, Ending.returned (.tuple #[D.v, .int .i64 7]) = .returned (.tuple #[D'.v, .int .i64 D.a.doSync.2]) ∧ D'.a = D.a.doSync.1 ∧ RefAt K w' D' ∧ Below w.heap.size w w') := fun w' hb => ⟨D, by unfold A.doSync; rw [if_pos hd], by unfold A.doSync; rw [if_pos hd], h.below hb, hb⟩
    obtain ⟨la, lc, hlv⟩ := Sees.form h.falls
    obtain ⟨fa, fc, hfv⟩ := Sees.form h.files
    have HV : D.v = .agg #[.slice fa D.rs.length fc, .int .i64 D.a.room, .slice la (flen D.a.fall) lc, .int .i64 D.a.changes, .bool true] := by unfold RD.v RD.cs; rw [hfv, hlv, hd]
    generalize hX : (fun (e : Ending) (w' : World) => ∃ D' : RD, e = .returned (.tuple #[D'.v, .int .i64 D.a.doSync.2]) ∧ D'.a = D.a.doSync.1 ∧ RefAt K w' D' ∧ Below w.heap.size w w') = X
    replace HA : Hid (∀ w', Below w.heap.size w w' → X (.returned (.tuple #[.agg #[.slice fa D.rs.length fc, .int .i64 D.a.room, .slice la (flen D.a.fall) lc, .int .i64 D.a.changes, .bool true], .int .i64 7])) w') := by rw [← hX, ← HV]; exact HA
    rw [HV]
    clear hX h hfv hlv HV
    go_enter Try.func57, Try.ntmps57
    go_wp2
    exact bodyPost_ret (results_cell2_row Try.results57 _ _ _ 27 _ (0, 0) _ rfl (heap_alloc2_new _ _ _) Try.underlying27 rfl infoDisk) rfl (HA.out _ (((Below.refl _ _).alloc (Nat.le_refl _) _).alloc (by simp) _))
end Go.Proofs.Ytnjkahoaogeecaa
