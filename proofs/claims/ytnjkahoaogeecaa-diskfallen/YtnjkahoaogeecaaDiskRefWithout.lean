/- Contracts: the document's disk without a file; a file that is settled. -/
import Derived.Test.YtnjkahoaogeecaaDiskRefWith
namespace Go.Dk
open Go.RowKit
def RD.without (D : RD) (k : Bs) (fv : Value) : RD := ⟨{ D.a with files := del AF.name k D.a.files }, fv, D.lv, del RF.nm k D.rs⟩
theorem RefAt.without {K : Nat} {w w' : World} {D : RD} {k : Bs} {v : Value} (h : RefAt K w D) (hb : Below w.heap.size w w') (hv : Sees w' v 4 (del RF.nm k D.rs).length ((del RF.nm k D.rs).flatMap RF.cs)) : RefAt K w' (D.without k v) := by
  have hm : ∀ x, x ∈ del RF.nm k D.rs → x ∈ D.rs := fun x hx => (mem_del.1 hx).1
  refine ⟨hv, fun x hx => Sees.below (h.puts x (hm x hx)) hb, ?_, h.falls.below hb, h.rises.del, fun x hx => h.small x (hm x hx), Nat.le_trans (length_del _ _) h.count, h.chg, h.lim⟩
  show (del RF.nm k D.rs).map RF.a = del AF.name k D.a.files
  rw [map_del (na := RF.nm) (nb := AF.name) RF.a (fun _ => rfl) k D.rs, h.same]
theorem two_below {w w1 : World} {A B : Obj} (k : Below ((w.alloc A).alloc B).heap.size ((w.alloc A).alloc B) w1) : w1.heap[w.heap.size]? = some A ∧ w1.heap[w.heap.size + 1]? = some B ∧ Below w.heap.size w w1 := by
  have hz : ((w.alloc A).alloc B).heap.size = w.heap.size + 2 := by simp
  refine ⟨(k.block _ (by omega)).trans (heap_alloc2_old _ _ _), (k.block _ (by omega)).trans (heap_alloc2_new _ _ _), ?_⟩
  exact (((Below.refl w.heap.size w).alloc (Nat.le_refl _) A).alloc (by simp) B).trans (k.mono (by omega))
end Go.Dk
namespace Go.Proofs.Ytnjkahoaogeecaa
open Go.RowKit Go.Dk
theorem infoFile : (Try.prog.info? 52).map (·.size) = some 4 := by kernel_rfl
set_option maxRecDepth 100000 in
set_option maxHeartbeats 1000000 in
theorem rsettled_any (r : RF) (name s : Bs) (w : World) (hp : ∃ a n c, r.pv = .slice a n c) :
    Calls Try.prog 71 #[r.v, txt name, txt s] w fun e w' => e = .returned (RF.v ⟨⟨name, s, true, []⟩, .slice none 0 0⟩) ∧ Below w.heap.size w w' := by
  obtain ⟨a, n, c, hp⟩ := hp
  unfold RF.v RF.cs txt
  rw [hp]
  go_enter Try.func71, Try.ntmps71
  go_wp2
  exact bodyPost_ret (results_cell_row Try.results71 _ _ _ _ _ (0, 0) _ rfl (heap_alloc2_new _ _ _) Try.underlying52 rfl infoFile) rfl ⟨rfl, ((Below.refl _ _).alloc (Nat.le_refl _) _).alloc (by simp) _⟩
set_option maxRecDepth 100000 in
set_option maxHeartbeats 4000000 in
theorem rwithout_any (K : Nat) (D : RD) (name : ByteArray) (w : World) (h : RefAt K w D) :
    Calls Try.prog 70 #[D.v, .string name] w fun e w' => ∃ fv, e = .returned (D.without name.data.toList fv).v ∧ RefAt K w' (D.without name.data.toList fv) ∧ Below w.heap.size w w' := by
  have HC : Hid (∀ w1, Below w.heap.size w w1 → Calls Try.prog 67 #[D.v, .string name] w1 fun e w' => e = .returned (.tuple #[.int .i64 (place RF.nm name.data.toList D.rs : Nat), .bool (seek RF.nm name.data.toList D.rs).isSome]) ∧ Below w1.heap.size w1 w') := fun w1 hb => rfind_any K D _ w1 (h.below hb)
  obtain ⟨la, lc, hlv⟩ := Sees.form h.falls
  have HAT : Hid (∀ w' v, Below w.heap.size w w' → Sees w' v 4 (del RF.nm name.data.toList D.rs).length ((del RF.nm name.data.toList D.rs).flatMap RF.cs) → RefAt K w' (D.without name.data.toList v)) := fun w' v hb hv => h.without hb hv
  have HONE : Hid (∀ l : List RF, (∀ x ∈ l, x ∈ D.rs) → ∀ u ∈ l.flatMap RF.cs, u.oneCell' = true) := fun l hl => file_one h hl
  have hlim := h.lim
  have hcnt := h.count
  have hlen : D.rs.length ≤ 100000 := by omega
  have hfiles := h.files
  have hrises := h.rises
  obtain ⟨tinfo, hti, htz, hts, htb⟩ : ∃ i, Try.prog.info? 52 = some i ∧ i.zero = some (.agg #[.string ⟨#[]⟩, .string ⟨#[]⟩, .bool false, .slice none 0 0]) ∧ i.size = 4 ∧ i.bytes = 64 := by
    have := info52
    cases hx : Try.prog.info? 52 with
    | none => rw [hx] at this; cases this
    | some i => rw [hx] at this; simp at this; exact ⟨i, rfl, this.1, this.2.1, this.2.2⟩
  have HTI := hide (And.intro hti (And.intro htz (And.intro hts htb)))
  clear hti htz hts htb h
  unfold RD.v RD.cs
  unfold RD.v RD.cs at HC
  cases hsk : seek RF.nm name.data.toList D.rs with
  | none =>
    obtain ⟨fa, fc, hfv⟩ := Sees.form hfiles
    rw [hsk, hlv, hfv] at HC
    rw [hlv, hfv]
    have HAT' : Hid (∀ w', Below w.heap.size w w' → RefAt K w' (D.without name.data.toList (.slice fa D.rs.length fc))) := fun w' hb => HAT.out w' _ hb (by rw [del_none hsk, ← hfv]; exact hfiles.below hb)
    generalize place RF.nm name.data.toList D.rs = pl at *
    clear HAT hsk hfv hfiles hrises
    go_enter Try.func70, Try.ntmps70
    go_wp2_with (go_at_call 67; refine (HC.out _ ?_).mono ?_; exact ((Below.refl w.heap.size w).alloc (Nat.le_refl _) _).alloc (by simp) _; rintro e w1 ⟨rfl, k1⟩; obtain ⟨x2, x4, kb⟩ := two_below k1; obtain ⟨c0, c1, c2, c3, c4⟩ := cells5 x2; obtain ⟨d0, d1, d2, d3, d4⟩ := cells5 x4; obtain ⟨f0, f1, f2, f3, f4⟩ := frozen5 x4; have HY := hide (And.intro x4 kb); clear x2 x4 kb)
    refine bodyPost_ret (results_cell_row Try.results70 _ _ _ 27 _ (0, 0) _ rfl (set5 HY.out.1 _ _ _ _ _) Try.underlying27 rfl infoDisk) rfl ⟨.slice fa D.rs.length fc, ?_, HAT'.out _ (below5 HY.out.2 (Nat.le_add_right _ 1) _ _ _ _ _), below5 HY.out.2 (Nat.le_add_right _ 1) _ _ _ _ _⟩
    simp only [RD.without, hlv]
  | some r0 =>
    obtain ⟨hpr, hpl1⟩ := place_seek hrises hsk
    have HI := hide (del_place hrises hsk)
    rw [hsk] at HC
    generalize place RF.nm name.data.toList D.rs = pl at *
    rcases hfiles.2 with ⟨hfv, hn0⟩ | ⟨b, off, cap, hfv, hcap, hbw, hcells, _⟩
    · omega
    · rw [hlv, hfv] at HC
      rw [hlv, hfv]
      have hpc : pl ≤ cap := by omega
      have hpc1 : pl + 1 ≤ cap := by omega
      have hple : pl ≤ D.rs.length := by omega
      obtain ⟨fv, efv⟩ : ∃ fv, fv = Value.slice (some ⟨b, off, none⟩) D.rs.length cap := ⟨_, rfl⟩
      obtain ⟨hv, ehv⟩ : ∃ fv, fv = Value.slice (some ⟨b, off, none⟩) pl cap := ⟨_, rfl⟩
      obtain ⟨rv, erv⟩ : ∃ fv, fv = Value.slice (if cap = pl + 1 then some ⟨b, off, none⟩ else some ⟨b, off + (pl + 1) * 4, none⟩) (D.rs.length - (pl + 1)) (cap - (pl + 1)) := ⟨_, rfl⟩
      obtain ⟨rest, hrest⟩ : ∃ rest, rest = D.rs.drop (pl + 1) := ⟨_, rfl⟩
      have HM : Hid (∀ x ∈ rest, x ∈ D.rs) := fun x hx => by rw [hrest] at hx; exact List.mem_of_mem_drop hx
      replace HI : Hid (del RF.nm name.data.toList D.rs = D.rs.take pl ++ rest) := by rw [hrest]; exact HI
      have hrl : rest.length ≤ 100000 := by rw [hrest, List.length_drop]; omega
      have HH : Hid (RegionOwn.Holds w hv 4 pl ((D.rs.take pl).flatMap RF.cs) ∧ ∀ ad a c, hv = .slice (some ad) a c → ad.block < w.heap.size) := ⟨by rw [ehv]; exact head_holds cs_len hcells hple cap, fun _ _ _ e => by rw [ehv] at e; cases e; exact hbw⟩
      have HR : Hid (RegionOwn.Holds w rv 4 rest.length (rest.flatMap RF.cs) ∧ ∀ ad a c, rv = .slice (some ad) a c → ad.block < w.heap.size) := ⟨by rw [erv, hrest, List.length_drop]; exact tail_holds' cs_len hcells (by omega) hcap, fun _ _ _ e => by rw [erv] at e; rw [if_block e]; exact hbw⟩
      clear hsk hfv hrest hcells hfiles hrises hpr
      go_enter Try.func70, Try.ntmps70
      go_upto_region 3 with (go_at_call 67; refine (HC.out _ ?_).mono ?_; exact ((Below.refl w.heap.size w).alloc (Nat.le_refl _) _).alloc (by simp) _; rintro e w1 ⟨rfl, k1⟩; obtain ⟨x2, x4, kb⟩ := two_below k1; obtain ⟨c0, c1, c2, c3, c4⟩ := cells5 x2)
      have hd0 : w.heap.size < w1.heap.size := block_lt x2
      have hd1 : w.heap.size + 1 < w1.heap.size := block_lt x4
      have HH1 : Hid (∀ x, Below w1.heap.size w1 x → RegionOwn.Holds x hv 4 pl ((D.rs.take pl).flatMap RF.cs) ∧ RegionOwn.Holds x rv 4 rest.length (rest.flatMap RF.cs)) := fun x hx => by
        have hx' : Below w.heap.size w x := kb.trans (hx.mono kb.size)
        exact ⟨Holds_below HH.out.1 HH.out.2 hx', Holds_below HR.out.1 HR.out.2 hx'⟩
      clear k1
      have HROWS := hide (And.intro x2 (And.intro x4 kb))
      clear x2 x4 kb c0 c1 c2 c3 c4
      go_cut [] from 7 to 27 (fun wx => Hid (∃ v, wx.heap[w.heap.size]? = some (.cells #[v, .int .i64 D.a.room, .slice la (flen D.a.fall) lc, .int .i64 D.a.changes, .bool D.a.down] 27 (0, 0)) ∧ wx.heap[w.heap.size + 1]? = some (.cells #[Value.slice none 0 0, Value.int IntKind.i64 0, Value.slice none 0 0, Value.int IntKind.i64 0, Value.bool false] 27 (0, 0)) ∧ Below w.heap.size w wx ∧ wx.ownsRow w1.heap.size 52 4 v (del RF.nm name.data.toList D.rs).length ((del RF.nm name.data.toList D.rs).flatMap RF.cs)))
      case rest =>
        obtain ⟨v, y2, y4, yb, yo⟩ := hcut.out
        obtain ⟨va, vc, hv'⟩ := RegionOwn.own_form yo
        rw [hv'] at y2 yo
        have HY := hide (And.intro y4 (And.intro yb yo))
        obtain ⟨c0, c1, c2, c3, c4⟩ := cells5 y2
        obtain ⟨d0, d1, d2, d3, d4⟩ := cells5 y4
        obtain ⟨f0, f1, f2, f3, f4⟩ := frozen5 y4
        clear hcut yo y2 y4 yb
        go_wp2
        refine bodyPost_ret (results_cell_row Try.results70 _ _ _ 27 _ (0, 0) _ rfl (set5 HY.out.1 _ _ _ _ _) Try.underlying27 rfl infoDisk) rfl ⟨.slice va (del RF.nm name.data.toList D.rs).length vc, ?_, ?_, below5 HY.out.2.1 (Nat.le_add_right _ 1) _ _ _ _ _⟩
        · simp only [RD.without, hlv]
        · exact HAT.out _ _ (below5 HY.out.2.1 (Nat.le_add_right _ 1) _ _ _ _ _) (Sees.of_own (own_set (own_set (own_set (own_set (own_set HY.out.2.2 hd1 _ _) hd1 _ _) hd1 _ _) hd1 _ _) hd1 _ _))
      case first =>
        rename_i J K' hJ hK'
        refine RegionOwn.regionK 13 28 52 4 (fun i => match i with
          | 0 => RegionOwn.row 0 [] 5
          | 1 => RegionOwn.val (.pointer (some ⟨w.heap.size, 0, none⟩))
          | 2 => RegionOwn.val fv
          | 3 => RegionOwn.val (.int .i64 pl)
          | 4 => RegionOwn.val hv
          | 5 => RegionOwn.row pl ((D.rs.take pl).flatMap RF.cs) 11
          | 6 => RegionOwn.val (.pointer (some ⟨w.heap.size, 0, none⟩))
          | 7 => RegionOwn.val fv
          | 8 => RegionOwn.val (.int .i64 pl)
          | 9 => RegionOwn.val (.int .i64 ((pl : Int) + 1))
          | 10 => RegionOwn.val rv
          | 11 => RegionOwn.row (pl + rest.length) ((D.rs.take pl).flatMap RF.cs ++ rest.flatMap RF.cs) 13
          | 12 => RegionOwn.val (.pointer (some ⟨w.heap.size, 0, none⟩))
          | _ => RegionOwn.val undef) (fun i => match i with | 0 => some 5 | 5 => some 11 | 11 => some 13 | _ => none) ?_ (by kernel_rfl) rfl (by kernel_rfl) ?_ ?_ ?_
        · intro i hi
          match i, hi with
          | 0, _ | 1, _ | 2, _ | 3, _ | 4, _ | 5, _ | 6, _ | 7, _ | 8, _ | 9, _ | 10, _ | 11, _ | 12, _ => rfl
          | i + 13, h => exact absurd h (by omega)
        · intro i p hi h
          match i, hi, h with
          | 0, _, h | 1, _, h | 2, _, h | 3, _, h | 4, _, h | 5, _, h | 6, _, h | 7, _, h | 8, _, h | 9, _, h | 10, _, h | 11, _, h | 12, _, h => cases h
          | i + 13, h, _ => exact absurd h (by omega)
        · intro i hi y x hfr hbx hD K hK
          have e2 : RegionOwn.T y 2 = .pointer (some ⟨w.heap.size, 0, none⟩) := hfr.at (by kernel_rfl) rfl
          have e5 : RegionOwn.T y 5 = .int .i64 pl := hfr.at (by kernel_rfl) rfl
          have hsz := hbx.size
          match i, hi with
          | 0, _ =>
            refine RegionOwn.made (ob := .cells #[] 52) (v := .slice (some ⟨x.heap.size, 0, none⟩) 0 0) rfl rfl hK (World.ownsRow_made x #[] 0 hsz (Nat.zero_le _) rfl) (fun g h => by simp [Value.ownBlock] at h; omega) ?_
            clear hK hD hfr
            go_simp
          | 1, _ =>
            refine RegionOwn.quiet rfl rfl hK rfl rfl ?_
            clear hK hD hfr
            unfold RegionOwn.T at e2
            go_simp
          | 2, _ =>
            refine RegionOwn.quiet rfl rfl hK rfl efv.symm ?_
            have q : RegionOwn.T y 15 = .pointer (some ⟨w.heap.size, 0, none⟩) := hD 1 15 (by decide) rfl (by kernel_rfl) (.inl rfl)
            obtain ⟨c0, _⟩ := cells5 (row_kept HROWS.out.1 hbx)
            clear hK hD hfr
            unfold RegionOwn.T at q
            go_simp
          | 3, _ =>
            refine RegionOwn.quiet rfl rfl hK rfl rfl ?_
            clear hK hD hfr
            unfold RegionOwn.T at e5
            go_simp
          | 4, _ =>
            refine RegionOwn.quiet rfl rfl hK rfl ehv.symm ?_
            have q : RegionOwn.T y 16 = fv := hD 2 16 (by decide) rfl (by kernel_rfl) (.inl rfl)
            have q1 : RegionOwn.T y 17 = .int .i64 pl := hD 3 17 (by decide) rfl (by kernel_rfl) (.inl rfl)
            rw [efv] at q
            clear hK hD hfr
            unfold RegionOwn.T at q q1
            go_simp
          | 5, _ =>
            have q : x.ownsRow w1.heap.size 52 4 (RegionOwn.T y 14) 0 [] := hD 0 14 (by decide) rfl (by kernel_rfl) (.inr rfl)
            have q1 : RegionOwn.T y 18 = hv := hD 4 18 (by decide) rfl (by kernel_rfl) (.inl rfl)
            refine RegionOwn.appended (j := 0) (k := pl) (ys := (D.rs.take pl).flatMap RF.cs) rfl rfl hK rfl tinfo _ 4 64 Try.underlying24 HTI.out.1 HTI.out.2.1 HTI.out.2.2.1 HTI.out.2.2.2 rfl (by decide) (by decide) rfl rfl q hsz (by rw [q1]; exact (HH1.out x hbx).1) (HONE.out _ fun z hz => List.mem_of_mem_take hz) (by simp only [maxLen]; omega) (by omega) fun v z hz => ?_
            rw [Nat.zero_add] at hz
            exact hz
          | 6, _ =>
            refine RegionOwn.quiet rfl rfl hK rfl rfl ?_
            clear hK hD hfr
            unfold RegionOwn.T at e2
            go_simp
          | 7, _ =>
            refine RegionOwn.quiet rfl rfl hK rfl efv.symm ?_
            have q : RegionOwn.T y 20 = .pointer (some ⟨w.heap.size, 0, none⟩) := hD 6 20 (by decide) rfl (by kernel_rfl) (.inl rfl)
            obtain ⟨c0, _⟩ := cells5 (row_kept HROWS.out.1 hbx)
            clear hK hD hfr
            unfold RegionOwn.T at q
            go_simp
          | 8, _ =>
            refine RegionOwn.quiet rfl rfl hK rfl rfl ?_
            clear hK hD hfr
            unfold RegionOwn.T at e5
            go_simp
          | 9, _ =>
            refine RegionOwn.quiet (v := .int .i64 ((pl : Int) + 1)) rfl rfl hK rfl rfl ?_
            have q : RegionOwn.T y 22 = .int .i64 pl := hD 8 22 (by decide) rfl (by kernel_rfl) (.inl rfl)
            have z1 : IntKind.i64.wrap ((pl : Int) + 1) = pl + 1 := Sha.wrap_i64 _ (by omega) (by omega)
            clear hK hD hfr
            unfold RegionOwn.T at q
            go_simp
          | 10, _ =>
            refine RegionOwn.quiet rfl rfl hK rfl erv.symm ?_
            have q : RegionOwn.T y 21 = fv := hD 7 21 (by decide) rfl (by kernel_rfl) (.inl rfl)
            have q1 : RegionOwn.T y 23 = .int .i64 ((pl : Int) + 1) := hD 9 23 (by decide) rfl (by kernel_rfl) (.inl rfl)
            have z1 : (0 : Int) ≤ pl + 1 := by omega
            have z2 : (pl : Int) + 1 ≤ D.rs.length := by omega
            have z3 : ((pl : Int) + 1).toNat = pl + 1 := by omega
            have z4 : ¬ (D.rs.length : Int) < pl + 1 := by omega
            rw [efv] at q
            clear hK hD hfr
            unfold RegionOwn.T at q q1
            go_simp
          | 11, _ =>
            have q : x.ownsRow w1.heap.size 52 4 (RegionOwn.T y 19) pl ((D.rs.take pl).flatMap RF.cs) := hD 5 19 (by decide) rfl (by kernel_rfl) (.inr rfl)
            have q1 : RegionOwn.T y 24 = rv := hD 10 24 (by decide) rfl (by kernel_rfl) (.inl rfl)
            exact RegionOwn.appended (j := 5) (k := rest.length) (ys := rest.flatMap RF.cs) rfl rfl hK rfl tinfo _ 4 64 Try.underlying24 HTI.out.1 HTI.out.2.1 HTI.out.2.2.1 HTI.out.2.2.2 rfl (by decide) (by decide) rfl rfl q hsz (by rw [q1]; exact (HH1.out x hbx).2) (HONE.out _ HM.out) (by simp only [maxLen]; omega) (by omega) fun v z hz => hz
          | 12, _ =>
            refine RegionOwn.quiet rfl rfl hK rfl rfl ?_
            clear hK hD hfr
            unfold RegionOwn.T at e2
            go_simp
          | i + 13, h => exact absurd h (by omega)
        · intro y x hfr hbx hD
          have q : x.ownsRow w1.heap.size 52 4 (RegionOwn.T y 25) (pl + rest.length) ((D.rs.take pl).flatMap RF.cs ++ rest.flatMap RF.cs) := hD 11 25 (by decide) rfl (fun i hi e => by cases e; omega)
          have q1 : RegionOwn.T y 26 = .pointer (some ⟨w.heap.size, 0, none⟩) := hD 12 26 (by decide) rfl (fun i hi e => by cases e)
          obtain ⟨va, vc, hv'⟩ := RegionOwn.own_form q
          have xr := row_kept HROWS.out.1 hbx
          obtain ⟨c0, _⟩ := cells5 xr
          obtain ⟨f0, _⟩ := frozen5 xr
          refine RegionOwn.list_skip (y := x.setCell ⟨w.heap.size, 0, none⟩ (RegionOwn.T y 25)) rfl ?_ ?_
          · rw [hv']
            clear hD hfr q xr hJ hK'
            unfold RegionOwn.T at q1 hv'
            go_simp
          · refine hK' _ _ (Met.intro (hJ _ _ ?_))
            (repeat apply Exists.intro)
            refine ⟨?rel, ?eq⟩
            case eq =>
              refine (RegionOwn.act_lit y 28 hfr.size).trans ?_
              show Act.mk (List.toArray [RegionOwn.T y 0, RegionOwn.T y 1, RegionOwn.T y 2, RegionOwn.T y 3, RegionOwn.T y 4, RegionOwn.T y 5, RegionOwn.T y 6, RegionOwn.T y 7, RegionOwn.T y 8, RegionOwn.T y 9, RegionOwn.T y 10, RegionOwn.T y 11, RegionOwn.T y 12, RegionOwn.T y 13, RegionOwn.T y 14, RegionOwn.T y 15, RegionOwn.T y 16, RegionOwn.T y 17, RegionOwn.T y 18, RegionOwn.T y 19, RegionOwn.T y 20, RegionOwn.T y 21, RegionOwn.T y 22, RegionOwn.T y 23, RegionOwn.T y 24, RegionOwn.T y 25, RegionOwn.T y 26, RegionOwn.T y 27]) y.defers = _
              rw [hfr.at (k := 0) (by kernel_rfl) rfl, hfr.at (k := 1) (by kernel_rfl) rfl, hfr.at (k := 2) (by kernel_rfl) rfl, hfr.at (k := 3) (by kernel_rfl) rfl, hfr.at (k := 4) (by kernel_rfl) rfl, hfr.at (k := 5) (by kernel_rfl) rfl, hfr.at (k := 6) (by kernel_rfl) rfl, hfr.defers]
              rfl
            case rel =>
              refine ⟨RegionOwn.T y 25, ?_, ?_, ?_, ?_⟩
              · rw [heap_setCell_same _ _ _ _ _ _ xr]; rfl
              · exact ((RegionOwn.grown_setCell x _ 0 _).block _ (block_lt (row_kept HROWS.out.2.1 hbx)) (by simp)).trans (row_kept HROWS.out.2.1 hbx)
              · exact (HROWS.out.2.2.trans (hbx.mono HROWS.out.2.2.size)).setCell (p := ⟨w.heap.size, 0, none⟩) (Nat.le_refl _) _
              · have := own_set q hd0 0 (RegionOwn.T y 25)
                rw [HI.out, List.length_append, List.length_take, Nat.min_eq_left hple]
                simpa [List.flatMap_append] using this
end Go.Proofs.Ytnjkahoaogeecaa
