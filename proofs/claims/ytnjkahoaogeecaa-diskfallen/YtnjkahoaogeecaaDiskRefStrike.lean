/- Contract: the power fails ahead of a change of the document's disk, if a fall says so; else the change counts. -/
import Derived.Test.YtnjkahoaogeecaaDiskRefCrash
import Derived.Test.YtnjkahoaogeecaaDiskOps
import Derived.Laws.ResultCell
namespace Go.Dk
open Go.RowKit
/-- What a strike leaves, and tells. -/
def A.struck (a : A) : A × Int := match a.hit with | some f => (({ a with fall := none } : A).crash f.keep f.torn, 7) | none => ({ a with changes := a.changes + 1 }, 0)
theorem cells3d {w : World} {g : Nat} {a b c : Value} {T : TypeId} (h : w.heap[g]? = some (.cells #[a, b, c] T (0, 0))) :
    w.cell? ⟨g, 0, none⟩ = some a ∧ w.cell? ⟨g, 1, none⟩ = some b ∧ w.cell? ⟨g, 2, none⟩ = some c :=
  ⟨cell_of_row _ _ _ _ _ _ h, cell_of_row _ _ _ _ _ _ h, cell_of_row _ _ _ _ _ _ h⟩
theorem results_cell2_row {P : Program} {fn : Func} {p u : Tmp} {ty : TypeId} (h : fn.results = #[.cell p ty, .tmp u]) (tmps : Array Value) (w : World) (g : Nat) (t : TypeId) (cs : Array Value) (fr : Nat × Nat) (d : TypeDesc)
    (hp : tmps.getD p undef = .pointer (some ⟨g, 0, none⟩)) (hg : w.heap[g]? = some (.cells cs t fr))
    (hu : P.underlying ty = some d) (hd : (match d with | .struct _ | .array _ _ => true | _ => false) = true) (hi : (P.info? ty).map (·.size) = some cs.size) :
    (results fn tmps).run P w = .ok (.tuple #[.agg cs, tmps.getD u undef]) w := by
  rw [results_cell_tmp h, hp]
  simp [asAddr, Result.andThen, run_loadVar_row w g t ty cs fr d hg hu hd hi]
theorem set_kept {w : World} {g k j : Nat} {v : Value} {o : Obj} (h : w.heap[k]? = some o) (hne : k ≠ g) : (w.setCell ⟨g, j, none⟩ v).heap[k]? = some o :=
  ((RegionOwn.grown_setCell w g j v).block k (block_lt h) (by simpa using hne)).trans h
theorem hit_none {a : A} {f : Fall} (h : a.fall = some f) (hne : f.on ≠ a.changes) : a.hit = none := by
  unfold A.hit
  rw [h]
  simp only
  rw [if_neg hne]
theorem hit_some {a : A} {f : Fall} (h : a.fall = some f) (he : f.on = a.changes) : a.hit = some f := by
  unfold A.hit
  rw [h]
  simp only
  rw [if_pos he]
theorem hit_free {a : A} (h : a.fall = none) : a.hit = none := by
  unfold A.hit
  rw [h]
end Go.Dk
namespace Go.Proofs.Ytnjkahoaogeecaa
open Go.RowKit Go.Dk
theorem info63 : (Try.prog.info? 63).map (fun i => (i.zero, i.size, i.bytes)) = some (some (.agg #[.int .i64 0, .int .i64 0, .int .i64 0]), 3, 24) := by kernel_rfl
theorem info63_ex : ∃ i, Try.prog.info? 63 = some i ∧ i.zero = some (.agg #[.int .i64 0, .int .i64 0, .int .i64 0]) ∧ i.size = 3 ∧ i.bytes = 24 := by
  have := info63
  cases hx : Try.prog.info? 63 with
  | none => rw [hx] at this; cases this
  | some i => rw [hx] at this; simp at this; exact ⟨i, rfl, this.1, this.2.1, this.2.2⟩
set_option maxRecDepth 100000 in
set_option maxHeartbeats 4000000 in
theorem rstrike_any (K : Nat) (D : RD) (w : World) (h : RefAt K w D) (hK1 : K + 1 ≤ 100000) :
    Calls Try.prog 68 #[D.v] w fun e w' => ∃ D' : RD, e = .returned (.tuple #[D'.v, .int .i64 D.a.struck.2]) ∧ D'.a = D.a.struck.1 ∧ RefAt (K + 1) w' D' ∧ Below w.heap.size w w' ∧ (D.a.hit = none → D' = ⟨{ D.a with changes := D.a.changes + 1 }, D.fv, D.lv, D.rs⟩) := by
  obtain ⟨E, hE⟩ : ∃ E : RD, E = ⟨{ D.a with changes := D.a.changes + 1 }, D.fv, D.lv, D.rs⟩ := ⟨_, rfl⟩
  rw [← hE]
  obtain ⟨tinfo, hti, htz, hts, htb⟩ := info63_ex
  have HTI := hide (And.intro hti (And.intro htz (And.intro hts htb)))
  clear hti htz hts htb
  obtain ⟨fa, fc, hfv⟩ := Sees.form h.files
  have hchg := h.chg
  have HCALM : Hid (D.a.hit = none → ∀ w', Below w.heap.size w w' → ∃ D' : RD, Ending.returned (.tuple #[.agg #[D.fv, .int .i64 D.a.room, D.lv, .int .i64 ((D.a.changes : Int) + 1), .bool D.a.down], .int .i64 0]) = .returned (.tuple #[D'.v, .int .i64 D.a.struck.2]) ∧ D'.a = D.a.struck.1 ∧ RefAt (K + 1) w' D' ∧ Below w.heap.size w w' ∧ (D.a.hit = none → D' = E)) := fun hit w' hb => by
    refine ⟨⟨{ D.a with changes := D.a.changes + 1 }, D.fv, D.lv, D.rs⟩, ?_, ?_, ?_, hb, fun _ => hE.symm⟩
    · unfold A.struck; rw [hit]; rfl
    · unfold A.struck; rw [hit]
    · have h' := (h.below hb).mono (Nat.le_succ K) hK1
      exact ⟨h'.files, h'.puts, h'.same, h'.falls, h'.rises, h'.small, h'.count, Nat.succ_le_succ hchg, hK1⟩
  have HHIT : Hid (∀ f, D.a.hit = some f → ∀ w1 v, Below w.heap.size w w1 → Sees w1 v 3 0 [] → Calls Try.prog 32 #[.agg #[D.fv, .int .i64 D.a.room, v, .int .i64 D.a.changes, .bool D.a.down], .int .i64 f.keep, .int .i64 f.torn] w1 fun e w' => ∃ D' : RD, e = .returned D'.v ∧ D'.a = D.a.struck.1 ∧ RefAt (K + 1) w' D' ∧ Below w1.heap.size w1 w') := fun f hit w1 v hb hs => by
    have h' : RefAt K w1 ⟨{ D.a with fall := none }, D.fv, v, D.rs⟩ := by
      have hx := h.below hb
      exact ⟨hx.files, hx.puts, hx.same, hs, hx.rises, hx.small, hx.count, hx.chg, hx.lim⟩
    refine (rcrash_any K _ f.keep f.torn w1 h').mono ?_
    rintro e w' ⟨D', he, ha, hr, hb'⟩
    exact ⟨D', he, by rw [ha]; unfold A.struck; rw [hit], hr.mono (Nat.le_succ K) hK1, hb'⟩
  have HST : Hid (∀ f, D.a.hit = some f → D.a.struck.2 = 7) := fun f hit => by unfold A.struck; rw [hit]
  have hfalls := h.falls
  unfold RD.v RD.cs
  unfold RD.v at HCALM
  unfold RD.v at HHIT
  unfold RD.cs at HCALM
  unfold RD.cs at HHIT
  rw [hfv] at HCALM HHIT ⊢
  clear h hfv hE
  cases hf : D.a.fall with
  | none =>
    rw [hf] at hfalls
    obtain ⟨la, lc, hlv⟩ := Sees.form hfalls
    simp only [flen] at hlv
    rw [hlv] at HCALM ⊢
    replace HCALM := hide (HCALM.out (hit_free hf))
    clear HHIT HST hf hfalls hlv
    generalize hX : (fun (e : Ending) (w' : World) => ∃ D' : RD, e = .returned (.tuple #[.agg #[D'.fv, .int .i64 D'.a.room, D'.lv, .int .i64 D'.a.changes, .bool D'.a.down], .int .i64 D.a.struck.2]) ∧ D'.a = D.a.struck.1 ∧ RefAt (K + 1) w' D' ∧ Below w.heap.size w w' ∧ (D.a.hit = none → D' = E)) = X
    replace HCALM : Hid (∀ w', Below w.heap.size w w' → X (.returned (.tuple #[.agg #[.slice fa D.rs.length fc, .int .i64 D.a.room, .slice la 0 lc, .int .i64 ((D.a.changes : Int) + 1), .bool D.a.down], .int .i64 0])) w') := by rw [← hX]; exact HCALM
    clear hX
    go_enter Try.func68, Try.ntmps68
    go_wp2
    go_loopw [4, 5] (fun vi v5 wr => vi = .int .i64 0 ∧ wr = ((w.alloc (.cells #[.slice fa D.rs.length fc, .int .i64 D.a.room, .slice la 0 lc, .int .i64 D.a.changes, .bool D.a.down] 27)).alloc (.cells #[Value.slice none 0 0, Value.int IntKind.i64 0, Value.slice none 0 0, Value.int IntKind.i64 0, Value.bool false] 27))) (fun _ _ _ => 0)
    case atStart => exact ⟨rfl, rfl⟩
    case round =>
      obtain ⟨rfl, rfl⟩ := hrel
      go_wp2
      exact bodyPost_ret (results_cell2_row Try.results68 _ _ _ 27 _ (0, 0) _ rfl (heap_alloc2_new _ _ _) Try.underlying27 rfl infoDisk) rfl (HCALM.out _ (((Below.refl _ _).alloc (Nat.le_refl _) _).alloc (by simp) _))
  | some f =>
    rw [hf] at hfalls
    rcases hfalls.2 with ⟨_, hn0⟩ | ⟨b, off, cap, hlv, hcap, hbw, hcells, _⟩
    · cases hn0
    simp only [flen] at hlv hcap
    have u0 : w.cell? ⟨b, off, none⟩ = some (.int .i64 f.on) := hcells 0 _ rfl
    have u1 : w.cell? ⟨b, off + 1, none⟩ = some (.int .i64 f.keep) := hcells 1 _ rfl
    have u2 : w.cell? ⟨b, off + 2, none⟩ = some (.int .i64 f.torn) := hcells 2 _ rfl
    clear hcells hfalls
    have hb1 : b ≠ w.heap.size := by omega
    have hb2 : b ≠ w.heap.size + 1 := by omega
    by_cases hon : f.on = D.a.changes
    · have hit := hit_some hf hon
      replace HHIT := hide (HHIT.out f hit)
      have hst := HST.out f hit
      rw [hst]
      rw [hlv]
      have HIT := hide hit
      clear HCALM HST hit hst hf hlv
      obtain ⟨rv, erv⟩ : ∃ fv, fv = Value.slice (if cap = 1 then some ⟨b, off, none⟩ else some ⟨b, off + 1 * 3, none⟩) 0 (cap - 1) := ⟨_, rfl⟩
      have HR : Hid (∀ x, RegionOwn.Holds x rv 3 0 []) := fun x => by
        rw [erv]
        refine ⟨rfl, .inr ?_⟩
        by_cases e : cap = 1
        · rw [if_pos e]; exact ⟨_, _, rfl, fun j u hj => by cases hj⟩
        · rw [if_neg e]; exact ⟨_, _, rfl, fun j u hj => by cases hj⟩
      have hne : (f.on == (D.a.changes : Int)) = true := by simpa using hon
      clear hon
      go_enter Try.func68, Try.ntmps68
      go_wp2
      go_loopw [4, 5] (fun vi v5 wr => vi = .int .i64 0 ∧ wr = ((w.alloc (.cells #[.slice fa D.rs.length fc, .int .i64 D.a.room, .slice (some ⟨b, off, none⟩) 1 cap, .int .i64 D.a.changes, .bool D.a.down] 27)).alloc (.cells #[Value.slice none 0 0, Value.int IntKind.i64 0, Value.slice none 0 0, Value.int IntKind.i64 0, Value.bool false] 27))) (fun _ _ _ => 0)
      case atStart => exact ⟨rfl, rfl⟩
      case round =>
        obtain ⟨rfl, rfl⟩ := hrel
        go_upto_region 6 with fail
        obtain ⟨w1, hw1⟩ : ∃ x, x = (((w.alloc (.cells #[.slice fa D.rs.length fc, .int .i64 D.a.room, .slice (some ⟨b, off, none⟩) 1 cap, .int .i64 D.a.changes, .bool D.a.down] 27)).alloc (.cells #[Value.slice none 0 0, Value.int IntKind.i64 0, Value.slice none 0 0, Value.int IntKind.i64 0, Value.bool false] 27))).alloc (.cells #[.int .i64 f.on, .int .i64 f.keep, .int .i64 f.torn] 63) := ⟨_, rfl⟩
        rw [← hw1]
        have HROWS : Hid (w1.heap[w.heap.size]? = some (.cells #[.slice fa D.rs.length fc, .int .i64 D.a.room, .slice (some ⟨b, off, none⟩) 1 cap, .int .i64 D.a.changes, .bool D.a.down] 27 (0, 0)) ∧ w1.heap[w.heap.size + 1]? = some (.cells #[Value.slice none 0 0, Value.int IntKind.i64 0, Value.slice none 0 0, Value.int IntKind.i64 0, Value.bool false] 27 (0, 0)) ∧ w1.heap[w.heap.size + 2]? = some (.cells #[.int .i64 f.on, .int .i64 f.keep, .int .i64 f.torn] 63 (0, 0)) ∧ Below w.heap.size w w1) := by
          rw [hw1]
          exact three_below (Below.refl _ _)
        clear hw1
        have hd0 : w.heap.size < w1.heap.size := block_lt HROWS.out.1
        have hd1 : w.heap.size + 1 < w1.heap.size := block_lt HROWS.out.2.1
        have hd2 : w.heap.size + 2 < w1.heap.size := block_lt HROWS.out.2.2.1
        clear u0 u1 u2
        go_cut [] from 6 to 46 (fun wx => Hid (∃ v, wx.heap[w.heap.size]? = some (.cells #[.slice fa D.rs.length fc, .int .i64 D.a.room, v, .int .i64 D.a.changes, .bool D.a.down] 27 (0, 0)) ∧ wx.heap[w.heap.size + 1]? = some (.cells #[Value.slice none 0 0, Value.int IntKind.i64 0, Value.slice none 0 0, Value.int IntKind.i64 0, Value.bool false] 27 (0, 0)) ∧ wx.heap[w.heap.size + 2]? = some (.cells #[.int .i64 f.on, .int .i64 f.keep, .int .i64 f.torn] 63 (0, 0)) ∧ Below w.heap.size w wx ∧ wx.ownsRow w1.heap.size 63 3 v 0 []))
        case rest =>
          obtain ⟨v, y2, y4, y5, yb, yo⟩ := hcut.out
          obtain ⟨va, vc, hv'⟩ := RegionOwn.own_form yo
          have HS := hide (Sees.of_own yo)
          rw [hv'] at y2 yo HS
          obtain ⟨c0, c1, c2, c3, c4⟩ := cells5 y2
          obtain ⟨g0, g1, g2⟩ := cells3d y5
          have HY := hide (And.intro y4 yb)
          clear hcut yo y2 y4 y5 yb
          go_wp2_with (go_at_call 32; refine (HHIT.out _ _ HY.out.2 HS.out).mono ?_; rintro e w2 ⟨D', rfl, ha, hr, k2⟩; obtain ⟨fa', fc', hfv'⟩ := Sees.form hr.files; obtain ⟨la', lc', hlv'⟩ := Sees.form hr.falls; have z4 := row_kept HY.out.1 k2; obtain ⟨d0, d1, d2, d3, d4⟩ := cells5 z4; obtain ⟨f0, f1, f2, f3, f4⟩ := frozen5 z4; have HZ := hide (And.intro z4 (And.intro (HY.out.2.trans (k2.mono HY.out.2.size)) (And.intro ha hr))); clear z4 k2 ha hr)
          refine bodyPost_ret (results_cell2_row Try.results68 _ _ _ 27 _ (0, 0) _ rfl (set5 HZ.out.1 _ _ _ _ _) Try.underlying27 rfl infoDisk) rfl ⟨D', ?_, HZ.out.2.2.1, ?_, below5 HZ.out.2.1 (Nat.le_add_right _ 1) _ _ _ _ _, fun hn => by rw [HIT.out] at hn; cases hn⟩
          · rw [hfv', hlv']
            rfl
          · exact RefAt.set5 HZ.out.2.2.2 HZ.out.1 _ _ _ _ _
        case first =>
          rename_i J K' hJ hK'
          refine RegionOwn.regionK 13 47 63 3 (fun i => match i with
            | 0 => RegionOwn.row 0 [] 5
            | 1 => RegionOwn.val (.pointer (some ⟨w.heap.size, 2, none⟩))
            | 2 => RegionOwn.val (.slice (some ⟨b, off, none⟩) 1 cap)
            | 3 => RegionOwn.val (.int .i64 0)
            | 4 => RegionOwn.val (.slice (some ⟨b, off, none⟩) 0 cap)
            | 5 => RegionOwn.row 0 [] 11
            | 6 => RegionOwn.val (.pointer (some ⟨w.heap.size, 2, none⟩))
            | 7 => RegionOwn.val (.slice (some ⟨b, off, none⟩) 1 cap)
            | 8 => RegionOwn.val (.int .i64 0)
            | 9 => RegionOwn.val (.int .i64 1)
            | 10 => RegionOwn.val rv
            | 11 => RegionOwn.row 0 [] 13
            | 12 => RegionOwn.val (.pointer (some ⟨w.heap.size, 2, none⟩))
            | _ => RegionOwn.val undef) (fun i => match i with | 0 => some 5 | 5 => some 11 | 11 => some 13 | _ => none) ?_ (by kernel_rfl) rfl (by kernel_rfl) ?_ ?_ ?_
          · intro i hi
            match i, hi with
            | 0, _ | 1, _ | 2, _ | 3, _ | 4, _ | 5, _ | 6, _ | 7, _ | 8, _ | 9, _ | 10, _ | 11, _ | 12, _ => rfl
            | i + 13, h => exact absurd h (by omega)
          · intro i p hi h
            match i, hi, h with
            | 0, _, h | 1, _, h | 2, _, h | 3, _, h | 4, _, h | 5, _, h | 6, _, h | 7, _, h | 8, _, h | 9, _, h | 10, _, h | 11, _, h | 12, _, h => cases h
            | i + 13, h, _ => exact absurd h (by omega)
          · intro i hi y x hfr hbx hD K hK
            have e1 : RegionOwn.T y 1 = .pointer (some ⟨w.heap.size, 0, none⟩) := hfr.at (by kernel_rfl) rfl
            have e4 : RegionOwn.T y 4 = .int .i64 0 := hfr.at (by kernel_rfl) rfl
            have hsz := hbx.size
            match i, hi with
            | 0, _ =>
              refine RegionOwn.made (ob := .cells #[] 63) (v := .slice (some ⟨x.heap.size, 0, none⟩) 0 0) rfl rfl hK (World.ownsRow_made x #[] 0 hsz (Nat.zero_le _) rfl) (fun g h => by simp [Value.ownBlock] at h; omega) ?_
              clear hK hD hfr
              go_simp
            | 1, _ =>
              refine RegionOwn.quiet rfl rfl hK rfl rfl ?_
              clear hK hD hfr
              unfold RegionOwn.T at e1
              go_simp
            | 2, _ =>
              refine RegionOwn.quiet rfl rfl hK rfl rfl ?_
              have q : RegionOwn.T y 24 = .pointer (some ⟨w.heap.size, 2, none⟩) := hD 1 24 (by decide) rfl (by kernel_rfl) (.inl rfl)
              obtain ⟨_, _, c2, _⟩ := cells5 (row_kept HROWS.out.1 hbx)
              clear hK hD hfr
              unfold RegionOwn.T at q
              go_simp
            | 3, _ =>
              refine RegionOwn.quiet rfl rfl hK rfl rfl ?_
              clear hK hD hfr
              unfold RegionOwn.T at e4
              go_simp
            | 4, _ =>
              refine RegionOwn.quiet rfl rfl hK rfl rfl ?_
              have q : RegionOwn.T y 25 = .slice (some ⟨b, off, none⟩) 1 cap := hD 2 25 (by decide) rfl (by kernel_rfl) (.inl rfl)
              have q1 : RegionOwn.T y 26 = .int .i64 0 := hD 3 26 (by decide) rfl (by kernel_rfl) (.inl rfl)
              clear hK hD hfr
              unfold RegionOwn.T at q q1
              go_simp
            | 5, _ =>
              have q : x.ownsRow w1.heap.size 63 3 (RegionOwn.T y 23) 0 [] := hD 0 23 (by decide) rfl (by kernel_rfl) (.inr rfl)
              have q1 : RegionOwn.T y 27 = .slice (some ⟨b, off, none⟩) 0 cap := hD 4 27 (by decide) rfl (by kernel_rfl) (.inl rfl)
              exact RegionOwn.appended (j := 0) (k := 0) (ys := []) rfl rfl hK rfl tinfo _ 3 24 Try.underlying25 HTI.out.1 HTI.out.2.1 HTI.out.2.2.1 HTI.out.2.2.2 rfl (by decide) (by decide) rfl rfl q hsz (by rw [q1]; exact ⟨rfl, .inr ⟨_, _, rfl, fun j u hj => by cases hj⟩⟩) (fun u hu => by cases hu) (by simp only [maxLen]; omega) (by omega) fun v z hz => hz
            | 6, _ =>
              refine RegionOwn.quiet rfl rfl hK rfl rfl ?_
              clear hK hD hfr
              unfold RegionOwn.T at e1
              go_simp
            | 7, _ =>
              refine RegionOwn.quiet rfl rfl hK rfl rfl ?_
              have q : RegionOwn.T y 29 = .pointer (some ⟨w.heap.size, 2, none⟩) := hD 6 29 (by decide) rfl (by kernel_rfl) (.inl rfl)
              obtain ⟨_, _, c2, _⟩ := cells5 (row_kept HROWS.out.1 hbx)
              clear hK hD hfr
              unfold RegionOwn.T at q
              go_simp
            | 8, _ =>
              refine RegionOwn.quiet rfl rfl hK rfl rfl ?_
              clear hK hD hfr
              unfold RegionOwn.T at e4
              go_simp
            | 9, _ =>
              refine RegionOwn.quiet rfl rfl hK rfl rfl ?_
              have q : RegionOwn.T y 31 = .int .i64 0 := hD 8 31 (by decide) rfl (by kernel_rfl) (.inl rfl)
              have z1 : IntKind.i64.wrap 1 = 1 := by decide
              clear hK hD hfr
              unfold RegionOwn.T at q
              go_simp
            | 10, _ =>
              refine RegionOwn.quiet rfl rfl hK rfl erv.symm ?_
              have q : RegionOwn.T y 30 = .slice (some ⟨b, off, none⟩) 1 cap := hD 7 30 (by decide) rfl (by kernel_rfl) (.inl rfl)
              have q1 : RegionOwn.T y 32 = .int .i64 1 := hD 9 32 (by decide) rfl (by kernel_rfl) (.inl rfl)
              clear hK hD hfr
              unfold RegionOwn.T at q q1
              go_simp
            | 11, _ =>
              have q : x.ownsRow w1.heap.size 63 3 (RegionOwn.T y 28) 0 [] := hD 5 28 (by decide) rfl (by kernel_rfl) (.inr rfl)
              have q1 : RegionOwn.T y 33 = rv := hD 10 33 (by decide) rfl (by kernel_rfl) (.inl rfl)
              exact RegionOwn.appended (j := 5) (k := 0) (ys := []) rfl rfl hK rfl tinfo _ 3 24 Try.underlying25 HTI.out.1 HTI.out.2.1 HTI.out.2.2.1 HTI.out.2.2.2 rfl (by decide) (by decide) rfl rfl q hsz (by rw [q1]; exact HR.out x) (fun u hu => by cases hu) (by simp only [maxLen]; omega) (by omega) fun v z hz => hz
            | 12, _ =>
              refine RegionOwn.quiet rfl rfl hK rfl rfl ?_
              clear hK hD hfr
              unfold RegionOwn.T at e1
              go_simp
            | i + 13, h => exact absurd h (by omega)
          · intro y x hfr hbx hD
            have q : x.ownsRow w1.heap.size 63 3 (RegionOwn.T y 34) 0 [] := hD 11 34 (by decide) rfl (fun i hi e => by cases e; omega)
            have q1 : RegionOwn.T y 35 = .pointer (some ⟨w.heap.size, 2, none⟩) := hD 12 35 (by decide) rfl (fun i hi e => by cases e)
            obtain ⟨va, vc, hv'⟩ := RegionOwn.own_form q
            have xr := row_kept HROWS.out.1 hbx
            obtain ⟨_, _, c2, _⟩ := cells5 xr
            obtain ⟨_, _, f2, _⟩ := frozen5 xr
            refine RegionOwn.list_skip (y := x.setCell ⟨w.heap.size, 2, none⟩ (RegionOwn.T y 34)) rfl ?_ ?_
            · rw [hv']
              clear hD hfr q xr hJ hK'
              unfold RegionOwn.T at q1 hv'
              go_simp
            · refine hK' _ _ (Met.intro (hJ _ _ ?_))
              (repeat apply Exists.intro)
              refine ⟨?rel, ?eq⟩
              case eq =>
                refine (RegionOwn.act_lit y 47 hfr.size).trans ?_
                show Act.mk (List.toArray [RegionOwn.T y 0, RegionOwn.T y 1, RegionOwn.T y 2, RegionOwn.T y 3, RegionOwn.T y 4, RegionOwn.T y 5, RegionOwn.T y 6, RegionOwn.T y 7, RegionOwn.T y 8, RegionOwn.T y 9, RegionOwn.T y 10, RegionOwn.T y 11, RegionOwn.T y 12, RegionOwn.T y 13, RegionOwn.T y 14, RegionOwn.T y 15, RegionOwn.T y 16, RegionOwn.T y 17, RegionOwn.T y 18, RegionOwn.T y 19, RegionOwn.T y 20, RegionOwn.T y 21, RegionOwn.T y 22, RegionOwn.T y 23, RegionOwn.T y 24, RegionOwn.T y 25, RegionOwn.T y 26, RegionOwn.T y 27, RegionOwn.T y 28, RegionOwn.T y 29, RegionOwn.T y 30, RegionOwn.T y 31, RegionOwn.T y 32, RegionOwn.T y 33, RegionOwn.T y 34, RegionOwn.T y 35, RegionOwn.T y 36, RegionOwn.T y 37, RegionOwn.T y 38, RegionOwn.T y 39, RegionOwn.T y 40, RegionOwn.T y 41, RegionOwn.T y 42, RegionOwn.T y 43, RegionOwn.T y 44, RegionOwn.T y 45, RegionOwn.T y 46]) y.defers = _
                rw [hfr.at (k := 0) (by kernel_rfl) rfl, hfr.at (k := 1) (by kernel_rfl) rfl, hfr.at (k := 2) (by kernel_rfl) rfl, hfr.at (k := 3) (by kernel_rfl) rfl, hfr.at (k := 4) (by kernel_rfl) rfl, hfr.at (k := 5) (by kernel_rfl) rfl, hfr.defers]
                rfl
              case rel =>
                refine ⟨RegionOwn.T y 34, ?_, ?_, ?_, ?_, ?_⟩
                · rw [heap_setCell_same _ _ _ _ _ _ xr]; rfl
                · exact set_kept (row_kept HROWS.out.2.1 hbx) (by omega)
                · exact set_kept (row_kept HROWS.out.2.2.1 hbx) (by omega)
                · exact (HROWS.out.2.2.2.trans (hbx.mono HROWS.out.2.2.2.size)).setCell (p := ⟨w.heap.size, 2, none⟩) (Nat.le_refl _) _
                · exact own_set q hd0 2 (RegionOwn.T y 34)
    · replace HCALM := hide (HCALM.out (hit_none hf hon))
      rw [hlv] at HCALM ⊢
      clear HHIT HST hf hlv
      generalize hX : (fun (e : Ending) (w' : World) => ∃ D' : RD, e = .returned (.tuple #[.agg #[D'.fv, .int .i64 D'.a.room, D'.lv, .int .i64 D'.a.changes, .bool D'.a.down], .int .i64 D.a.struck.2]) ∧ D'.a = D.a.struck.1 ∧ RefAt (K + 1) w' D' ∧ Below w.heap.size w w' ∧ (D.a.hit = none → D' = E)) = X
      replace HCALM : Hid (∀ w', Below w.heap.size w w' → X (.returned (.tuple #[.agg #[.slice fa D.rs.length fc, .int .i64 D.a.room, .slice (some ⟨b, off, none⟩) 1 cap, .int .i64 ((D.a.changes : Int) + 1), .bool D.a.down], .int .i64 0])) w') := by rw [← hX]; exact HCALM
      clear hX
      go_enter Try.func68, Try.ntmps68
      go_wp2
      go_loopw [4, 5] (fun vi v5 wr => ∃ i : Nat, i ≤ 1 ∧ vi = .int .i64 i ∧ Hid (Below (w.heap.size + 2) (((w.alloc (.cells #[.slice fa D.rs.length fc, .int .i64 D.a.room, .slice (some ⟨b, off, none⟩) 1 cap, .int .i64 D.a.changes, .bool D.a.down] 27)).alloc (.cells #[Value.slice none 0 0, Value.int IntKind.i64 0, Value.slice none 0 0, Value.int IntKind.i64 0, Value.bool false] 27))) wr)) (fun vi _ _ => 1 - (intOf vi).toNat)
      case atStart => exact ⟨0, by omega, rfl, Below.refl _ _⟩
      case round =>
        obtain ⟨i, hi, rfl, HB⟩ := hrel
        obtain ⟨x2, x4, kb⟩ := two_below (w := w) (w1 := wr) (HB.out.mono (by simp))
        obtain ⟨c0, c1, c2, c3, c4⟩ := cells5 x2
        have e : ∀ k u, w.cell? ⟨b, k, none⟩ = some u → wr.cell? ⟨b, k, none⟩ = some u := fun k u hu => (kb.cell (p := ⟨b, k, none⟩) hbw).trans hu
        have q0 := e _ _ u0
        have q1 := e _ _ u1
        have q2 := e _ _ u2
        clear e u0 u1 u2
        have hz1 : ¬ w.heap.size = wr.heap.size := by have := block_lt x2; omega
        have hz2 : ¬ b = wr.heap.size := by have := block_lt x2; omega
        by_cases hi0 : i = 0
        · subst hi0
          have hne : (f.on == (D.a.changes : Int)) = false := by simpa using hon
          have c3' : (wr.alloc (.cells #[.int .i64 f.on, .int .i64 f.keep, .int .i64 f.torn] 63)).cell? ⟨w.heap.size, 3, none⟩ = some (.int .i64 D.a.changes) := (((Below.refl wr.heap.size wr).alloc (Nat.le_refl _) _).cell (p := ⟨w.heap.size, 3, none⟩) (block_lt x2)).trans c3
          go_wp2
          refine ⟨⟨1, Nat.le_refl _, rfl, HB.out.alloc (by have := HB.out.size; simp at this; omega) _⟩, by simp [intOf]⟩
        · have : i = 1 := by omega
          subst this
          obtain ⟨d0, d1, d2, d3, d4⟩ := cells5 x4
          obtain ⟨f0, f1, f2, f3, f4⟩ := frozen5 x4
          obtain ⟨e0, e1, e2, e3, e4⟩ := frozen5 x2
          have HX := hide (And.intro x2 (And.intro x4 kb))
          clear x2 x4 q0 q1 q2
          go_wp2
          exact bodyPost_ret (results_cell2_row Try.results68 _ _ _ 27 _ (0, 0) _ rfl (set5 (set_kept HX.out.2.1 (by omega)) _ _ _ _ _) Try.underlying27 rfl infoDisk) rfl (HCALM.out _ (below5 (HX.out.2.2.setCell (p := ⟨w.heap.size, 3, none⟩) (Nat.le_refl _) _) (Nat.le_add_right _ 1) _ _ _ _ _))
end Go.Proofs.Ytnjkahoaogeecaa
