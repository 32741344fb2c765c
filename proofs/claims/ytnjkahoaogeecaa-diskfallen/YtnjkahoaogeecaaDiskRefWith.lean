/- Contract: the document's disk with a file. -/
import Derived.Test.YtnjkahoaogeecaaRefOne
namespace Go.Dk
open Go.RowKit
def RD.with (D : RD) (r : RF) (fv : Value) : RD := ⟨{ D.a with files := ins AF.name r.a D.a.files }, fv, D.lv, ins RF.nm r D.rs⟩
theorem cells5 {w : World} {g : Nat} {a b c d e : Value} {T : TypeId} (h : w.heap[g]? = some (.cells #[a, b, c, d, e] T (0, 0))) :
    w.cell? ⟨g, 0, none⟩ = some a ∧ w.cell? ⟨g, 1, none⟩ = some b ∧ w.cell? ⟨g, 2, none⟩ = some c ∧ w.cell? ⟨g, 3, none⟩ = some d ∧ w.cell? ⟨g, 4, none⟩ = some e :=
  ⟨cell_of_row _ _ _ _ _ _ h, cell_of_row _ _ _ _ _ _ h, cell_of_row _ _ _ _ _ _ h, cell_of_row _ _ _ _ _ _ h, cell_of_row _ _ _ _ _ _ h⟩
theorem frozen5 {w : World} {g : Nat} {cs : Array Value} {T : TypeId} (h : w.heap[g]? = some (.cells cs T (0, 0))) :
    w.frozen? ⟨g, 0, none⟩ = false ∧ w.frozen? ⟨g, 1, none⟩ = false ∧ w.frozen? ⟨g, 2, none⟩ = false ∧ w.frozen? ⟨g, 3, none⟩ = false ∧ w.frozen? ⟨g, 4, none⟩ = false :=
  ⟨frozen_of_row _ _ _ _ _ h, frozen_of_row _ _ _ _ _ h, frozen_of_row _ _ _ _ _ h, frozen_of_row _ _ _ _ _ h, frozen_of_row _ _ _ _ _ h⟩
theorem set5 {w : World} {g : Nat} {a b c d e : Value} {T : TypeId} (h : w.heap[g]? = some (.cells #[a, b, c, d, e] T (0, 0))) (x y z u v : Value) :
    (((((w.setCell ⟨g, 0, none⟩ x).setCell ⟨g, 1, none⟩ y).setCell ⟨g, 2, none⟩ z).setCell ⟨g, 3, none⟩ u).setCell ⟨g, 4, none⟩ v).heap[g]? = some (.cells #[x, y, z, u, v] T (0, 0)) := by
  have h1 : (w.setCell ⟨g, 0, none⟩ x).heap[g]? = some (.cells #[x, b, c, d, e] T (0, 0)) := by rw [heap_setCell_same _ _ _ _ _ _ h]; rfl
  have h2 : ((w.setCell ⟨g, 0, none⟩ x).setCell ⟨g, 1, none⟩ y).heap[g]? = some (.cells #[x, y, c, d, e] T (0, 0)) := by rw [heap_setCell_same _ _ _ _ _ _ h1]; rfl
  have h3 : (((w.setCell ⟨g, 0, none⟩ x).setCell ⟨g, 1, none⟩ y).setCell ⟨g, 2, none⟩ z).heap[g]? = some (.cells #[x, y, z, d, e] T (0, 0)) := by rw [heap_setCell_same _ _ _ _ _ _ h2]; rfl
  have h4 : ((((w.setCell ⟨g, 0, none⟩ x).setCell ⟨g, 1, none⟩ y).setCell ⟨g, 2, none⟩ z).setCell ⟨g, 3, none⟩ u).heap[g]? = some (.cells #[x, y, z, u, e] T (0, 0)) := by rw [heap_setCell_same _ _ _ _ _ _ h3]; rfl
  rw [heap_setCell_same _ _ _ _ _ _ h4]; rfl
theorem below5 {B g : Nat} {w w1 : World} (h : Below B w w1) (hg : B ≤ g) (x y z u v : Value) : Below B w (((((w1.setCell ⟨g, 0, none⟩ x).setCell ⟨g, 1, none⟩ y).setCell ⟨g, 2, none⟩ z).setCell ⟨g, 3, none⟩ u).setCell ⟨g, 4, none⟩ v) :=
  ((((h.setCell (p := ⟨g, 0, none⟩) hg x).setCell (p := ⟨g, 1, none⟩) hg y).setCell (p := ⟨g, 2, none⟩) hg z).setCell (p := ⟨g, 3, none⟩) hg u).setCell (p := ⟨g, 4, none⟩) hg v
/-- What three new blocks are behind a call. -/
theorem three_below {w w1 : World} {A B C : Obj} (k : Below (((w.alloc A).alloc B).alloc C).heap.size (((w.alloc A).alloc B).alloc C) w1) : w1.heap[w.heap.size]? = some A ∧ w1.heap[w.heap.size + 1]? = some B ∧ w1.heap[w.heap.size + 2]? = some C ∧ Below w.heap.size w w1 := by
  have hz : (((w.alloc A).alloc B).alloc C).heap.size = w.heap.size + 3 := by simp
  refine ⟨(k.block _ (by omega)).trans ?_, (k.block _ (by omega)).trans ?_, (k.block _ (by omega)).trans ?_, ?_⟩
  · rw [heap_alloc_old _ _ (by simp; omega), heap_alloc_old _ _ (by simp), heap_alloc_new]
  · rw [heap_alloc_old _ _ (by simp)]
    have := heap_alloc_new (w.alloc A) B
    simpa using this
  · have := heap_alloc_new ((w.alloc A).alloc B) C
    simpa using this
  · exact ((((Below.refl w.heap.size w).alloc (Nat.le_refl _) A).alloc (by simp) B).alloc (by simp; omega) C).trans (k.mono (by omega))
theorem row_kept {w w' : World} {g : Nat} {o : Obj} (h : w.heap[g]? = some o) (hb : Below w.heap.size w w') : w'.heap[g]? = some o := (hb.block g (block_lt h)).trans h
theorem own_set {w : World} {base e k n g : Nat} {v : Value} {xs : List Value} (h : w.ownsRow base e k v n xs) (hg : g < base) (j : Nat) (u : Value) : (w.setCell ⟨g, j, none⟩ u).ownsRow base e k v n xs :=
  h.kept (RegionOwn.grown_setCell w g j u) (by
    cases hob : v.ownBlock with
    | none => exact .inl rfl
    | some i => exact .inr fun e => by cases e; have := (h.lt _ hob).1; omega)
theorem RefAt.set5 {K : Nat} {w : World} {D : RD} (h : RefAt K w D) {g : Nat} {a b c d e : Value} (hg : w.heap[g]? = some (.cells #[a, b, c, d, e] 27 (0, 0))) (x y z u v : Value) :
    RefAt K (((((w.setCell ⟨g, 0, none⟩ x).setCell ⟨g, 1, none⟩ y).setCell ⟨g, 2, none⟩ z).setCell ⟨g, 3, none⟩ u).setCell ⟨g, 4, none⟩ v) D := by
  have h1 : (w.setCell ⟨g, 0, none⟩ x).heap[g]? = some (.cells #[x, b, c, d, e] 27 (0, 0)) := by rw [heap_setCell_same _ _ _ _ _ _ hg]; rfl
  have h2 : ((w.setCell ⟨g, 0, none⟩ x).setCell ⟨g, 1, none⟩ y).heap[g]? = some (.cells #[x, y, c, d, e] 27 (0, 0)) := by rw [heap_setCell_same _ _ _ _ _ _ h1]; rfl
  have h3 : (((w.setCell ⟨g, 0, none⟩ x).setCell ⟨g, 1, none⟩ y).setCell ⟨g, 2, none⟩ z).heap[g]? = some (.cells #[x, y, z, d, e] 27 (0, 0)) := by rw [heap_setCell_same _ _ _ _ _ _ h2]; rfl
  have h4 : ((((w.setCell ⟨g, 0, none⟩ x).setCell ⟨g, 1, none⟩ y).setCell ⟨g, 2, none⟩ z).setCell ⟨g, 3, none⟩ u).heap[g]? = some (.cells #[x, y, z, u, e] 27 (0, 0)) := by rw [heap_setCell_same _ _ _ _ _ _ h3]; rfl
  exact ((((h.set hg _).set h1 _).set h2 _).set h3 _).set h4 _
theorem ins_len {α : Type} {nm : α → Bs} {f : α} {l rest : List α} {n : Nat} (h : ins nm f l = l.take n ++ f :: rest) (hn : n ≤ l.length) : (ins nm f l).length = n + 1 + rest.length := by
  rw [h, List.length_append, List.length_take, Nat.min_eq_left hn, List.length_cons]
  omega
theorem file_one {K : Nat} {w : World} {D : RD} (h : RefAt K w D) {l : List RF} (hl : ∀ r ∈ l, r ∈ D.rs) : ∀ u ∈ l.flatMap RF.cs, u.oneCell' = true := fun u hu => by
  obtain ⟨r, hr, hu⟩ := List.mem_flatMap.1 hu
  obtain ⟨a, c, e⟩ := Sees.form (h.puts r (hl r hr))
  exact cs_one ⟨a, _, c, e⟩ u hu
theorem RefAt.with {K : Nat} {w w' : World} {D : RD} {r : RF} {v : Value} (h : RefAt K w D) (hp : PutsV w r.pv r.a.puts) (hs : Small K r.a) (hc : D.rs.length < K) (hb : Below w.heap.size w w') (hv : Sees w' v 4 (ins RF.nm r D.rs).length ((ins RF.nm r D.rs).flatMap RF.cs)) : RefAt K w' (D.with r v) := by
  have hm : ∀ x, x ∈ ins RF.nm r D.rs → x = r ∨ x ∈ D.rs := fun x hx => ((mem_ins_iff h.rises).1 hx).imp id And.left
  refine ⟨hv, fun x hx => ?_, ?_, h.falls.below hb, h.rises.ins, fun x hx => ?_, ?_, h.chg, h.lim⟩
  · rcases hm x hx with rfl | h'
    · exact Sees.below hp hb
    · exact Sees.below (h.puts x h') hb
  · show (ins RF.nm r D.rs).map RF.a = ins AF.name r.a D.a.files
    rw [map_ins (na := RF.nm) (nb := AF.name) RF.a (fun _ => rfl) r D.rs, h.same]
  · rcases hm x hx with rfl | h'
    · exact hs
    · exact h.small x h'
  · exact Nat.le_trans (length_ins _ _) hc
end Go.Dk
namespace Go.Proofs.Ytnjkahoaogeecaa
open Go.RowKit Go.Dk
theorem info52 : (Try.prog.info? 52).map (fun i => (i.zero, i.size, i.bytes)) = some (some (.agg #[.string ⟨#[]⟩, .string ⟨#[]⟩, .bool false, .slice none 0 0]), 4, 64) := by kernel_rfl
theorem infoDisk : (Try.prog.info? 27).map (·.size) = some 5 := by kernel_rfl
set_option maxRecDepth 100000 in
set_option maxHeartbeats 4000000 in
theorem rwith_any (K : Nat) (D : RD) (r : RF) (w : World) (h : RefAt K w D) (hp : PutsV w r.pv r.a.puts) (hs : Small K r.a) (hc : D.rs.length < K) :
    Calls Try.prog 69 #[D.v, r.v] w fun e w' => ∃ fv, e = .returned (D.with r fv).v ∧ RefAt K w' (D.with r fv) ∧ Below w.heap.size w w' := by
  have HC : Hid (∀ w1, Below w.heap.size w w1 → Calls Try.prog 67 #[D.v, .string ⟨r.a.name.toArray⟩] w1 fun e w' => e = .returned (.tuple #[.int .i64 (place RF.nm r.nm D.rs : Nat), .bool (seek RF.nm r.nm D.rs).isSome]) ∧ Below w1.heap.size w1 w') := fun w1 hb => rfind_any K D _ w1 (h.below hb)
  obtain ⟨pa, pc, hpv⟩ := Sees.form hp
  obtain ⟨la, lc, hlv⟩ := Sees.form h.falls
  have HAT : Hid (∀ w' v, Below w.heap.size w w' → Sees w' v 4 (ins RF.nm r D.rs).length ((ins RF.nm r D.rs).flatMap RF.cs) → RefAt K w' (D.with r v)) := fun w' v hb hv => h.with hp hs hc hb hv
  have HONE : Hid ((∀ l : List RF, (∀ x ∈ l, x ∈ D.rs) → ∀ u ∈ l.flatMap RF.cs, u.oneCell' = true) ∧ ∀ u ∈ r.cs, u.oneCell' = true) := ⟨fun l hl => file_one h hl, cs_one ⟨_, _, _, hpv⟩⟩
  have hlim := h.lim
  have hple := place_le (nm := RF.nm) (k := r.nm) D.rs
  have HI := hide (ins_place (nm := RF.nm) r h.rises)
  have hlen : D.rs.length ≤ 100000 := by omega
  have HSK : Hid ((seek RF.nm r.nm D.rs).isSome = true → place RF.nm r.nm D.rs < D.rs.length) := fun e => by
    obtain ⟨x, hx⟩ := Option.isSome_iff_exists.1 e
    exact (place_seek h.rises hx).2
  have hfiles := h.files
  obtain ⟨tinfo, hti, htz, hts, htb⟩ : ∃ i, Try.prog.info? 52 = some i ∧ i.zero = some (.agg #[.string ⟨#[]⟩, .string ⟨#[]⟩, .bool false, .slice none 0 0]) ∧ i.size = 4 ∧ i.bytes = 64 := by
    have := info52
    cases hx : Try.prog.info? 52 with
    | none => rw [hx] at this; cases this
    | some i => rw [hx] at this; simp at this; exact ⟨i, rfl, this.1, this.2.1, this.2.2⟩
  have HTI := hide (And.intro hti (And.intro htz (And.intro hts htb)))
  clear hti htz hts htb h hp hs
  unfold RD.v RD.cs RF.v
  unfold RD.v RD.cs at HC
  have hcs : r.cs.toArray = #[.string ⟨r.a.name.toArray⟩, .string ⟨r.a.sure.toArray⟩, .bool r.a.settled, .slice pa r.a.puts.length pc] := by unfold RF.cs txt; rw [hpv]
  have HCS := hide hcs
  rw [hcs]
  clear hcs
  generalize hpl : place RF.nm r.nm D.rs = pl at *
  clear hpl
  clear hpv
  rcases hfiles.2 with ⟨hfv, hn0⟩ | ⟨b, off, cap, hfv, hcap, hbw, hcells, _⟩
  · have hrs : D.rs = [] := List.eq_nil_of_length_eq_zero hn0
    have hpl0 : pl = 0 := by omega
    have hsk : (seek RF.nm r.nm D.rs).isSome = false := by rw [hrs]; rfl
    have hcells := hsk
    rw [hsk] at HI
    rw [hsk, hfv, hlv] at HC
    rw [hfv, hlv]
    obtain ⟨fv, efv⟩ : ∃ fv, fv = Value.slice none 0 0 := ⟨_, rfl⟩
    obtain ⟨hv, ehv⟩ : ∃ fv, fv = Value.slice none 0 0 := ⟨_, rfl⟩
    obtain ⟨rv, erv⟩ : ∃ fv, fv = Value.slice none 0 0 := ⟨_, rfl⟩
    obtain ⟨rest, hrest⟩ : ∃ rest, rest = D.rs.drop pl := ⟨_, rfl⟩
    have HM : Hid (∀ x ∈ rest, x ∈ D.rs) := fun x hx => by rw [hrest] at hx; exact List.mem_of_mem_drop hx
    replace HI : Hid (ins RF.nm r D.rs = D.rs.take pl ++ r :: rest) := by rw [hrest]; exact HI
    have hrl : rest.length ≤ 100000 := by rw [hrest, List.length_drop]; omega
    have HH : Hid (RegionOwn.Holds w hv 4 pl ((D.rs.take pl).flatMap RF.cs) ∧ ∀ ad a c, hv = .slice (some ad) a c → ad.block < w.heap.size) := ⟨by rw [ehv, hpl0]; exact holds_nil w 4, fun _ _ _ e => by rw [ehv] at e; cases e⟩
    have HR : Hid (RegionOwn.Holds w rv 4 rest.length (rest.flatMap RF.cs) ∧ ∀ ad a c, rv = .slice (some ad) a c → ad.block < w.heap.size) := ⟨by rw [erv, hrest, hpl0, hrs]; exact holds_nil w 4, fun _ _ _ e => by rw [erv] at e; cases e⟩
    clear hsk hfv hrs hrest hn0
    clear hcells
    go_enter Try.func69, Try.ntmps69
    go_upto_region 5 with (go_at_call 67; refine (HC.out _ ?_).mono ?_; exact (((Below.refl w.heap.size w).alloc (Nat.le_refl _) _).alloc (by simp) _).alloc (by simp; omega) _; rintro e w1 ⟨rfl, k1⟩; obtain ⟨x2, x3, x4, kb⟩ := three_below k1; obtain ⟨c0, c1, c2, c3, c4⟩ := cells5 x2)
    have hd0 : w.heap.size < w1.heap.size := block_lt x2
    have hd1 : w.heap.size + 1 < w1.heap.size := block_lt x3
    have HH1 : Hid (∀ x, Below w1.heap.size w1 x → RegionOwn.Holds x hv 4 pl ((D.rs.take pl).flatMap RF.cs) ∧ RegionOwn.Holds x rv 4 rest.length (rest.flatMap RF.cs)) := fun x hx => by
      have hx' : Below w.heap.size w x := kb.trans (hx.mono kb.size)
      exact ⟨Holds_below HH.out.1 HH.out.2 hx', Holds_below HR.out.1 HR.out.2 hx'⟩
    clear k1
    have HROWS := hide (And.intro x2 (And.intro x3 (And.intro x4 kb)))
    clear x2 x3 x4 kb c0 c1 c2 c3 c4
    first | rw [← ervi] | skip
    go_cut [] from 8 to 37 (fun wx => Hid (∃ v, wx.heap[w.heap.size]? = some (.cells #[v, .int .i64 D.a.room, .slice la (flen D.a.fall) lc, .int .i64 D.a.changes, .bool D.a.down] 27 (0, 0)) ∧ wx.heap[w.heap.size + 2]? = some (.cells #[Value.slice none 0 0, Value.int IntKind.i64 0, Value.slice none 0 0, Value.int IntKind.i64 0, Value.bool false] 27 (0, 0)) ∧ Below w.heap.size w wx ∧ wx.ownsRow w1.heap.size 52 4 v (ins RF.nm r D.rs).length ((ins RF.nm r D.rs).flatMap RF.cs)))
    case rest =>
      obtain ⟨v, y2, y4, yb, yo⟩ := hcut.out
      obtain ⟨va, vc, hv'⟩ := RegionOwn.own_form yo
      rw [hv'] at y2 yo
      have HY := hide (And.intro y4 (And.intro yb yo))
      have hlt2 : w.heap.size + 2 < w1.heap.size := block_lt HROWS.out.2.2.1
      obtain ⟨c0, c1, c2, c3, c4⟩ := cells5 y2
      obtain ⟨d0, d1, d2, d3, d4⟩ := cells5 y4
      obtain ⟨f0, f1, f2, f3, f4⟩ := frozen5 y4
      clear hcut yo y2 y4 yb
      go_wp2
      refine bodyPost_ret (results_cell_row Try.results69 _ _ _ 27 _ (0, 0) _ rfl (set5 HY.out.1 _ _ _ _ _) Try.underlying27 rfl infoDisk) rfl ⟨.slice va (ins RF.nm r D.rs).length vc, ?_, ?_, below5 HY.out.2.1 (Nat.le_add_right _ 2) _ _ _ _ _⟩
      · simp only [RD.with, hlv]
      · exact HAT.out _ _ (below5 HY.out.2.1 (Nat.le_add_right _ 2) _ _ _ _ _) (Sees.of_own (own_set (own_set (own_set (own_set (own_set HY.out.2.2 hlt2 _ _) hlt2 _ _) hlt2 _ _) hlt2 _ _) hlt2 _ _))
    case first =>
      rename_i J K' hJ hK'
      refine RegionOwn.regionK 12 38 52 4 (fun i => match i with
        | 0 => RegionOwn.row 0 [] 5
        | 1 => RegionOwn.val (.pointer (some ⟨w.heap.size, 0, none⟩))
        | 2 => RegionOwn.val fv
        | 3 => RegionOwn.val (.int .i64 pl)
        | 4 => RegionOwn.val hv
        | 5 => RegionOwn.row pl ((D.rs.take pl).flatMap RF.cs) 8
        | 6 => RegionOwn.val (.agg r.cs.toArray)
        | 7 => RegionOwn.row 1 r.cs 8
        | 8 => RegionOwn.row (pl + 1) ((D.rs.take pl).flatMap RF.cs ++ r.cs) 10
        | 9 => RegionOwn.val rv
        | 10 => RegionOwn.row (pl + 1 + rest.length) ((D.rs.take pl).flatMap RF.cs ++ r.cs ++ rest.flatMap RF.cs) 12
        | 11 => RegionOwn.val (.pointer (some ⟨w.heap.size, 0, none⟩))
        | _ => RegionOwn.val undef) (fun i => match i with | 0 => some 5 | 5 => some 8 | 7 => some 8 | 8 => some 10 | 10 => some 12 | _ => none) ?_ (by kernel_rfl) rfl (by kernel_rfl) ?_ ?_ ?_
      · intro i hi
        match i, hi with
        | 0, _ | 1, _ | 2, _ | 3, _ | 4, _ | 5, _ | 6, _ | 7, _ | 8, _ | 9, _ | 10, _ | 11, _ => rfl
        | i + 12, h => exact absurd h (by omega)
      · intro i p hi h
        match i, hi, h with
        | 0, _, h | 1, _, h | 2, _, h | 3, _, h | 4, _, h | 5, _, h | 6, _, h | 7, _, h | 8, _, h | 9, _, h | 10, _, h | 11, _, h => cases h
        | i + 12, h, _ => exact absurd h (by omega)
      · intro i hi y x hfr hbx hD K hK
        have e2 : RegionOwn.T y 2 = .pointer (some ⟨w.heap.size, 0, none⟩) := hfr.at (by kernel_rfl) rfl
        have e3 : RegionOwn.T y 3 = .pointer (some ⟨w.heap.size + 1, 0, none⟩) := hfr.at (by kernel_rfl) rfl
        have e5 : RegionOwn.T y 5 = .int .i64 pl := by first | exact hfr.at (by kernel_rfl) rfl | (rw [hpl0]; exact hfr.at (by kernel_rfl) rfl)
        have e7 : RegionOwn.T y 7 = rv := by first | exact hfr.at (by kernel_rfl) rfl | (rw [erv]; exact hfr.at (by kernel_rfl) rfl)
        have hsz := hbx.size
        match i, hi with
        | 0, _ =>
          refine RegionOwn.made (ob := .cells #[] 52) (v := .slice (some ⟨x.heap.size, 0, none⟩) 0 0) rfl rfl hK (World.ownsRow_made x #[] 0 hsz (Nat.zero_le _) rfl) (fun g h => by simp [Value.ownBlock] at h; omega) ?_
          clear hK hD hfr
          go_simp
        | 1, _ =>
          refine RegionOwn.quiet rfl rfl hK rfl rfl ?_
          clear hK hD hfr
          unfold RegionOwn.T at e2
          go_simp
        | 2, _ =>
          refine RegionOwn.quiet rfl rfl hK rfl efv.symm ?_
          have q : RegionOwn.T y 26 = .pointer (some ⟨w.heap.size, 0, none⟩) := hD 1 26 (by decide) rfl (by kernel_rfl) (.inl rfl)
          obtain ⟨c0, _⟩ := cells5 (row_kept HROWS.out.1 hbx)
          clear hK hD hfr
          unfold RegionOwn.T at q
          go_simp
        | 3, _ =>
          refine RegionOwn.quiet rfl rfl hK rfl rfl ?_
          clear hK hD hfr
          unfold RegionOwn.T at e5
          go_simp
        | 4, _ =>
          refine RegionOwn.quiet rfl rfl hK rfl ehv.symm ?_
          have q : RegionOwn.T y 27 = fv := hD 2 27 (by decide) rfl (by kernel_rfl) (.inl rfl)
          have q1 : RegionOwn.T y 28 = .int .i64 pl := hD 3 28 (by decide) rfl (by kernel_rfl) (.inl rfl)
          rw [efv] at q
          clear hK hD hfr
          unfold RegionOwn.T at q q1
          go_simp
        | 5, _ =>
          have q : x.ownsRow w1.heap.size 52 4 (RegionOwn.T y 25) 0 [] := hD 0 25 (by decide) rfl (by kernel_rfl) (.inr rfl)
          have q1 : RegionOwn.T y 29 = hv := hD 4 29 (by decide) rfl (by kernel_rfl) (.inl rfl)
          refine RegionOwn.appended (j := 0) (k := pl) (ys := (D.rs.take pl).flatMap RF.cs) rfl rfl hK rfl tinfo _ 4 64 Try.underlying24 HTI.out.1 HTI.out.2.1 HTI.out.2.2.1 HTI.out.2.2.2 rfl (by decide) (by decide) rfl rfl q hsz (by rw [q1]; exact (HH1.out x hbx).1) (HONE.out.1 _ fun z hz => List.mem_of_mem_take hz) (by simp only [maxLen]; omega) (by omega) fun v z hz => ?_
          rw [Nat.zero_add] at hz
          exact hz
        | 6, _ =>
          refine RegionOwn.quiet rfl rfl hK rfl rfl ?_
          have xr := row_kept HROWS.out.2.1 hbx
          have c0 := cell_of_row _ _ 0 _ _ _ xr
          have c1 := cell_of_row _ _ 1 _ _ _ xr
          have c2 := cell_of_row _ _ 2 _ _ _ xr
          have c3 := cell_of_row _ _ 3 _ _ _ xr
          rw [HCS.out]
          simp at c0 c1 c2 c3
          clear hK hD hfr xr
          unfold RegionOwn.T at e3
          go_simp
        | 7, _ =>
          have q : RegionOwn.T y 31 = .agg r.cs.toArray := hD 6 31 (by decide) rfl (by kernel_rfl) (.inl rfl)
          refine RegionOwn.made (ob := .cells r.cs.toArray 52) (v := .slice (some ⟨x.heap.size, 0, none⟩) 1 1) rfl rfl hK (RegionOwn.made_one x _ 52 4 r.cs.toArray hsz rfl) (fun g h => by simp [Value.ownBlock] at h; omega) ?_
          rw [HCS.out] at q ⊢
          clear hK hD hfr
          unfold RegionOwn.T at q
          have q' := q
          rw [Array.getD_eq_getD_getElem?] at q'
          go_simp
        | 8, _ =>
          have q : x.ownsRow w1.heap.size 52 4 (RegionOwn.T y 30) pl ((D.rs.take pl).flatMap RF.cs) := hD 5 30 (by decide) rfl (by kernel_rfl) (.inr rfl)
          have q1 : x.ownsRow w1.heap.size 52 4 (RegionOwn.T y 32) 1 r.cs := hD 7 32 (by decide) rfl (by kernel_rfl) (.inr rfl)
          exact RegionOwn.appended (j := 5) (k := 1) (ys := r.cs) rfl rfl hK rfl tinfo _ 4 64 Try.underlying24 HTI.out.1 HTI.out.2.1 HTI.out.2.2.1 HTI.out.2.2.2 rfl (by decide) (by decide) rfl rfl q hsz (.of_own q1) HONE.out.2 (by simp only [maxLen]; omega) (by omega) fun v z hz => hz
        | 9, _ =>
          refine RegionOwn.quiet rfl rfl hK rfl rfl ?_
          clear hK hD hfr
          unfold RegionOwn.T at e7
          go_simp
        | 10, _ =>
          have q : x.ownsRow w1.heap.size 52 4 (RegionOwn.T y 33) (pl + 1) ((D.rs.take pl).flatMap RF.cs ++ r.cs) := hD 8 33 (by decide) rfl (by kernel_rfl) (.inr rfl)
          have q1 : RegionOwn.T y 34 = rv := hD 9 34 (by decide) rfl (by kernel_rfl) (.inl rfl)
          exact RegionOwn.appended (j := 8) (k := rest.length) (ys := rest.flatMap RF.cs) rfl rfl hK rfl tinfo _ 4 64 Try.underlying24 HTI.out.1 HTI.out.2.1 HTI.out.2.2.1 HTI.out.2.2.2 rfl (by decide) (by decide) rfl rfl q hsz (by rw [q1]; exact (HH1.out x hbx).2) (HONE.out.1 _ HM.out) (by simp only [maxLen]; omega) (by omega) fun v z hz => hz
        | 11, _ =>
          refine RegionOwn.quiet rfl rfl hK rfl rfl ?_
          clear hK hD hfr
          unfold RegionOwn.T at e2
          go_simp
        | i + 12, h => exact absurd h (by omega)
      · intro y x hfr hbx hD
        have q : x.ownsRow w1.heap.size 52 4 (RegionOwn.T y 35) (pl + 1 + rest.length) ((D.rs.take pl).flatMap RF.cs ++ r.cs ++ rest.flatMap RF.cs) := hD 10 35 (by decide) rfl (fun i hi e => by cases e; omega)
        have q1 : RegionOwn.T y 36 = .pointer (some ⟨w.heap.size, 0, none⟩) := hD 11 36 (by decide) rfl (fun i hi e => by cases e)
        obtain ⟨va, vc, hv'⟩ := RegionOwn.own_form q
        have xr := row_kept HROWS.out.1 hbx
        obtain ⟨c0, _⟩ := cells5 xr
        obtain ⟨f0, _⟩ := frozen5 xr
        refine RegionOwn.list_skip (y := x.setCell ⟨w.heap.size, 0, none⟩ (RegionOwn.T y 35)) rfl ?_ ?_
        · rw [hv']
          clear hD hfr q xr hJ hK'
          unfold RegionOwn.T at q1 hv'
          go_simp
        · refine hK' _ _ (Met.intro (hJ _ _ ?_))
          (repeat apply Exists.intro)
          refine ⟨?rel, ?eq⟩
          case eq =>
            refine (RegionOwn.act_lit y 38 hfr.size).trans ?_
            show Act.mk (List.toArray [RegionOwn.T y 0, RegionOwn.T y 1, RegionOwn.T y 2, RegionOwn.T y 3, RegionOwn.T y 4, RegionOwn.T y 5, RegionOwn.T y 6, RegionOwn.T y 7, RegionOwn.T y 8, RegionOwn.T y 9, RegionOwn.T y 10, RegionOwn.T y 11, RegionOwn.T y 12, RegionOwn.T y 13, RegionOwn.T y 14, RegionOwn.T y 15, RegionOwn.T y 16, RegionOwn.T y 17, RegionOwn.T y 18, RegionOwn.T y 19, RegionOwn.T y 20, RegionOwn.T y 21, RegionOwn.T y 22, RegionOwn.T y 23, RegionOwn.T y 24, RegionOwn.T y 25, RegionOwn.T y 26, RegionOwn.T y 27, RegionOwn.T y 28, RegionOwn.T y 29, RegionOwn.T y 30, RegionOwn.T y 31, RegionOwn.T y 32, RegionOwn.T y 33, RegionOwn.T y 34, RegionOwn.T y 35, RegionOwn.T y 36, RegionOwn.T y 37]) y.defers = _
            rw [hfr.at (k := 0) (by kernel_rfl) rfl, hfr.at (k := 1) (by kernel_rfl) rfl, hfr.at (k := 2) (by kernel_rfl) rfl, hfr.at (k := 3) (by kernel_rfl) rfl, hfr.at (k := 4) (by kernel_rfl) rfl, hfr.at (k := 5) (by kernel_rfl) rfl, hfr.at (k := 6) (by kernel_rfl) rfl, hfr.at (k := 7) (by kernel_rfl) rfl, hfr.defers]
            rfl
          case rel =>
            refine ⟨RegionOwn.T y 35, ?_, ?_, ?_, ?_⟩
            · rw [heap_setCell_same _ _ _ _ _ _ xr]; rfl
            · exact ((RegionOwn.grown_setCell x _ 0 _).block _ (block_lt (row_kept HROWS.out.2.2.1 hbx)) (by simp)).trans (row_kept HROWS.out.2.2.1 hbx)
            · exact (HROWS.out.2.2.2.trans (hbx.mono HROWS.out.2.2.2.size)).setCell (p := ⟨w.heap.size, 0, none⟩) (Nat.le_refl _) _
            · have := World.ownsRow.kept q (RegionOwn.grown_setCell x w.heap.size 0 (RegionOwn.T y 35)) (by
                cases hob : (RegionOwn.T y 35).ownBlock with
                | none => exact .inl rfl
                | some g => exact .inr (fun e => by cases e; have := (q.lt _ hob).1; omega))
              rw [ins_len HI.out hple, HI.out]
              simpa [List.flatMap_append, List.flatMap_cons] using this
  · cases hsk : (seek RF.nm r.nm D.rs).isSome with
    | true =>
      have hpl1 : pl < D.rs.length := HSK.out hsk
      have hpc : pl ≤ cap := by omega
      rw [hsk] at HI
      rw [hsk, hfv, hlv] at HC
      rw [hfv, hlv]
      obtain ⟨fv, efv⟩ : ∃ fv, fv = Value.slice (some ⟨b, off, none⟩) D.rs.length cap := ⟨_, rfl⟩
      obtain ⟨hv, ehv⟩ : ∃ fv, fv = Value.slice (some ⟨b, off, none⟩) pl cap := ⟨_, rfl⟩
      obtain ⟨rv, erv⟩ : ∃ fv, fv = Value.slice (if cap = pl + 1 then some ⟨b, off, none⟩ else some ⟨b, off + (pl + 1) * 4, none⟩) (D.rs.length - (pl + 1)) (cap - (pl + 1)) := ⟨_, rfl⟩
      obtain ⟨rest, hrest⟩ : ∃ rest, rest = D.rs.drop (pl + 1) := ⟨_, rfl⟩
      have HM : Hid (∀ x ∈ rest, x ∈ D.rs) := fun x hx => by rw [hrest] at hx; exact List.mem_of_mem_drop hx
      replace HI : Hid (ins RF.nm r D.rs = D.rs.take pl ++ r :: rest) := by rw [hrest]; exact HI
      have hrl : rest.length ≤ 100000 := by rw [hrest, List.length_drop]; omega
      have HH : Hid (RegionOwn.Holds w hv 4 pl ((D.rs.take pl).flatMap RF.cs) ∧ ∀ ad a c, hv = .slice (some ad) a c → ad.block < w.heap.size) := ⟨by rw [ehv]; exact head_holds cs_len hcells hple cap, fun _ _ _ e => by rw [ehv] at e; cases e; exact hbw⟩
      have HR : Hid (RegionOwn.Holds w rv 4 rest.length (rest.flatMap RF.cs) ∧ ∀ ad a c, rv = .slice (some ad) a c → ad.block < w.heap.size) := ⟨by rw [erv, hrest, List.length_drop]; exact tail_holds' cs_len hcells (by omega) hcap, fun _ _ _ e => by rw [erv] at e; rw [if_block e]; exact hbw⟩
      have ervi := erv
      clear hsk hfv hrest
      clear hcells
      go_enter Try.func69, Try.ntmps69
      go_upto_region 5 with (go_at_call 67; refine (HC.out _ ?_).mono ?_; exact (((Below.refl w.heap.size w).alloc (Nat.le_refl _) _).alloc (by simp) _).alloc (by simp; omega) _; rintro e w1 ⟨rfl, k1⟩; obtain ⟨x2, x3, x4, kb⟩ := three_below k1; obtain ⟨c0, c1, c2, c3, c4⟩ := cells5 x2)
      have hd0 : w.heap.size < w1.heap.size := block_lt x2
      have hd1 : w.heap.size + 1 < w1.heap.size := block_lt x3
      have HH1 : Hid (∀ x, Below w1.heap.size w1 x → RegionOwn.Holds x hv 4 pl ((D.rs.take pl).flatMap RF.cs) ∧ RegionOwn.Holds x rv 4 rest.length (rest.flatMap RF.cs)) := fun x hx => by
        have hx' : Below w.heap.size w x := kb.trans (hx.mono kb.size)
        exact ⟨Holds_below HH.out.1 HH.out.2 hx', Holds_below HR.out.1 HR.out.2 hx'⟩
      clear k1
      have HROWS := hide (And.intro x2 (And.intro x3 (And.intro x4 kb)))
      clear x2 x3 x4 kb c0 c1 c2 c3 c4
      first | rw [← ervi] | skip
      go_cut [] from 8 to 37 (fun wx => Hid (∃ v, wx.heap[w.heap.size]? = some (.cells #[v, .int .i64 D.a.room, .slice la (flen D.a.fall) lc, .int .i64 D.a.changes, .bool D.a.down] 27 (0, 0)) ∧ wx.heap[w.heap.size + 2]? = some (.cells #[Value.slice none 0 0, Value.int IntKind.i64 0, Value.slice none 0 0, Value.int IntKind.i64 0, Value.bool false] 27 (0, 0)) ∧ Below w.heap.size w wx ∧ wx.ownsRow w1.heap.size 52 4 v (ins RF.nm r D.rs).length ((ins RF.nm r D.rs).flatMap RF.cs)))
      case rest =>
        obtain ⟨v, y2, y4, yb, yo⟩ := hcut.out
        obtain ⟨va, vc, hv'⟩ := RegionOwn.own_form yo
        rw [hv'] at y2 yo
        have HY := hide (And.intro y4 (And.intro yb yo))
        have hlt2 : w.heap.size + 2 < w1.heap.size := block_lt HROWS.out.2.2.1
        obtain ⟨c0, c1, c2, c3, c4⟩ := cells5 y2
        obtain ⟨d0, d1, d2, d3, d4⟩ := cells5 y4
        obtain ⟨f0, f1, f2, f3, f4⟩ := frozen5 y4
        clear hcut yo y2 y4 yb
        go_wp2
        refine bodyPost_ret (results_cell_row Try.results69 _ _ _ 27 _ (0, 0) _ rfl (set5 HY.out.1 _ _ _ _ _) Try.underlying27 rfl infoDisk) rfl ⟨.slice va (ins RF.nm r D.rs).length vc, ?_, ?_, below5 HY.out.2.1 (Nat.le_add_right _ 2) _ _ _ _ _⟩
        · simp only [RD.with, hlv]
        · exact HAT.out _ _ (below5 HY.out.2.1 (Nat.le_add_right _ 2) _ _ _ _ _) (Sees.of_own (own_set (own_set (own_set (own_set (own_set HY.out.2.2 hlt2 _ _) hlt2 _ _) hlt2 _ _) hlt2 _ _) hlt2 _ _))
      case first =>
        rename_i J K' hJ hK'
        refine RegionOwn.regionK 12 38 52 4 (fun i => match i with
          | 0 => RegionOwn.row 0 [] 5
          | 1 => RegionOwn.val (.pointer (some ⟨w.heap.size, 0, none⟩))
          | 2 => RegionOwn.val fv
          | 3 => RegionOwn.val (.int .i64 pl)
          | 4 => RegionOwn.val hv
          | 5 => RegionOwn.row pl ((D.rs.take pl).flatMap RF.cs) 8
          | 6 => RegionOwn.val (.agg r.cs.toArray)
          | 7 => RegionOwn.row 1 r.cs 8
          | 8 => RegionOwn.row (pl + 1) ((D.rs.take pl).flatMap RF.cs ++ r.cs) 10
          | 9 => RegionOwn.val rv
          | 10 => RegionOwn.row (pl + 1 + rest.length) ((D.rs.take pl).flatMap RF.cs ++ r.cs ++ rest.flatMap RF.cs) 12
          | 11 => RegionOwn.val (.pointer (some ⟨w.heap.size, 0, none⟩))
          | _ => RegionOwn.val undef) (fun i => match i with | 0 => some 5 | 5 => some 8 | 7 => some 8 | 8 => some 10 | 10 => some 12 | _ => none) ?_ (by kernel_rfl) rfl (by kernel_rfl) ?_ ?_ ?_
        · intro i hi
          match i, hi with
          | 0, _ | 1, _ | 2, _ | 3, _ | 4, _ | 5, _ | 6, _ | 7, _ | 8, _ | 9, _ | 10, _ | 11, _ => rfl
          | i + 12, h => exact absurd h (by omega)
        · intro i p hi h
          match i, hi, h with
          | 0, _, h | 1, _, h | 2, _, h | 3, _, h | 4, _, h | 5, _, h | 6, _, h | 7, _, h | 8, _, h | 9, _, h | 10, _, h | 11, _, h => cases h
          | i + 12, h, _ => exact absurd h (by omega)
        · intro i hi y x hfr hbx hD K hK
          have e2 : RegionOwn.T y 2 = .pointer (some ⟨w.heap.size, 0, none⟩) := hfr.at (by kernel_rfl) rfl
          have e3 : RegionOwn.T y 3 = .pointer (some ⟨w.heap.size + 1, 0, none⟩) := hfr.at (by kernel_rfl) rfl
          have e5 : RegionOwn.T y 5 = .int .i64 pl := by first | exact hfr.at (by kernel_rfl) rfl | (rw [hpl0]; exact hfr.at (by kernel_rfl) rfl)
          have e7 : RegionOwn.T y 7 = rv := by first | exact hfr.at (by kernel_rfl) rfl | (rw [erv]; exact hfr.at (by kernel_rfl) rfl)
          have hsz := hbx.size
          match i, hi with
          | 0, _ =>
            refine RegionOwn.made (ob := .cells #[] 52) (v := .slice (some ⟨x.heap.size, 0, none⟩) 0 0) rfl rfl hK (World.ownsRow_made x #[] 0 hsz (Nat.zero_le _) rfl) (fun g h => by simp [Value.ownBlock] at h; omega) ?_
            clear hK hD hfr
            go_simp
          | 1, _ =>
            refine RegionOwn.quiet rfl rfl hK rfl rfl ?_
            clear hK hD hfr
            unfold RegionOwn.T at e2
            go_simp
          | 2, _ =>
            refine RegionOwn.quiet rfl rfl hK rfl efv.symm ?_
            have q : RegionOwn.T y 26 = .pointer (some ⟨w.heap.size, 0, none⟩) := hD 1 26 (by decide) rfl (by kernel_rfl) (.inl rfl)
            obtain ⟨c0, _⟩ := cells5 (row_kept HROWS.out.1 hbx)
            clear hK hD hfr
            unfold RegionOwn.T at q
            go_simp
          | 3, _ =>
            refine RegionOwn.quiet rfl rfl hK rfl rfl ?_
            clear hK hD hfr
            unfold RegionOwn.T at e5
            go_simp
          | 4, _ =>
            refine RegionOwn.quiet rfl rfl hK rfl ehv.symm ?_
            have q : RegionOwn.T y 27 = fv := hD 2 27 (by decide) rfl (by kernel_rfl) (.inl rfl)
            have q1 : RegionOwn.T y 28 = .int .i64 pl := hD 3 28 (by decide) rfl (by kernel_rfl) (.inl rfl)
            rw [efv] at q
            clear hK hD hfr
            unfold RegionOwn.T at q q1
            go_simp
          | 5, _ =>
            have q : x.ownsRow w1.heap.size 52 4 (RegionOwn.T y 25) 0 [] := hD 0 25 (by decide) rfl (by kernel_rfl) (.inr rfl)
            have q1 : RegionOwn.T y 29 = hv := hD 4 29 (by decide) rfl (by kernel_rfl) (.inl rfl)
            refine RegionOwn.appended (j := 0) (k := pl) (ys := (D.rs.take pl).flatMap RF.cs) rfl rfl hK rfl tinfo _ 4 64 Try.underlying24 HTI.out.1 HTI.out.2.1 HTI.out.2.2.1 HTI.out.2.2.2 rfl (by decide) (by decide) rfl rfl q hsz (by rw [q1]; exact (HH1.out x hbx).1) (HONE.out.1 _ fun z hz => List.mem_of_mem_take hz) (by simp only [maxLen]; omega) (by omega) fun v z hz => ?_
            rw [Nat.zero_add] at hz
            exact hz
          | 6, _ =>
            refine RegionOwn.quiet rfl rfl hK rfl rfl ?_
            have xr := row_kept HROWS.out.2.1 hbx
            have c0 := cell_of_row _ _ 0 _ _ _ xr
            have c1 := cell_of_row _ _ 1 _ _ _ xr
            have c2 := cell_of_row _ _ 2 _ _ _ xr
            have c3 := cell_of_row _ _ 3 _ _ _ xr
            rw [HCS.out]
            simp at c0 c1 c2 c3
            clear hK hD hfr xr
            unfold RegionOwn.T at e3
            go_simp
          | 7, _ =>
            have q : RegionOwn.T y 31 = .agg r.cs.toArray := hD 6 31 (by decide) rfl (by kernel_rfl) (.inl rfl)
            refine RegionOwn.made (ob := .cells r.cs.toArray 52) (v := .slice (some ⟨x.heap.size, 0, none⟩) 1 1) rfl rfl hK (RegionOwn.made_one x _ 52 4 r.cs.toArray hsz rfl) (fun g h => by simp [Value.ownBlock] at h; omega) ?_
            rw [HCS.out] at q ⊢
            clear hK hD hfr
            unfold RegionOwn.T at q
            have q' := q
            rw [Array.getD_eq_getD_getElem?] at q'
            go_simp
          | 8, _ =>
            have q : x.ownsRow w1.heap.size 52 4 (RegionOwn.T y 30) pl ((D.rs.take pl).flatMap RF.cs) := hD 5 30 (by decide) rfl (by kernel_rfl) (.inr rfl)
            have q1 : x.ownsRow w1.heap.size 52 4 (RegionOwn.T y 32) 1 r.cs := hD 7 32 (by decide) rfl (by kernel_rfl) (.inr rfl)
            exact RegionOwn.appended (j := 5) (k := 1) (ys := r.cs) rfl rfl hK rfl tinfo _ 4 64 Try.underlying24 HTI.out.1 HTI.out.2.1 HTI.out.2.2.1 HTI.out.2.2.2 rfl (by decide) (by decide) rfl rfl q hsz (.of_own q1) HONE.out.2 (by simp only [maxLen]; omega) (by omega) fun v z hz => hz
          | 9, _ =>
            refine RegionOwn.quiet rfl rfl hK rfl rfl ?_
            clear hK hD hfr
            unfold RegionOwn.T at e7
            go_simp
          | 10, _ =>
            have q : x.ownsRow w1.heap.size 52 4 (RegionOwn.T y 33) (pl + 1) ((D.rs.take pl).flatMap RF.cs ++ r.cs) := hD 8 33 (by decide) rfl (by kernel_rfl) (.inr rfl)
            have q1 : RegionOwn.T y 34 = rv := hD 9 34 (by decide) rfl (by kernel_rfl) (.inl rfl)
            exact RegionOwn.appended (j := 8) (k := rest.length) (ys := rest.flatMap RF.cs) rfl rfl hK rfl tinfo _ 4 64 Try.underlying24 HTI.out.1 HTI.out.2.1 HTI.out.2.2.1 HTI.out.2.2.2 rfl (by decide) (by decide) rfl rfl q hsz (by rw [q1]; exact (HH1.out x hbx).2) (HONE.out.1 _ HM.out) (by simp only [maxLen]; omega) (by omega) fun v z hz => hz
          | 11, _ =>
            refine RegionOwn.quiet rfl rfl hK rfl rfl ?_
            clear hK hD hfr
            unfold RegionOwn.T at e2
            go_simp
          | i + 12, h => exact absurd h (by omega)
        · intro y x hfr hbx hD
          have q : x.ownsRow w1.heap.size 52 4 (RegionOwn.T y 35) (pl + 1 + rest.length) ((D.rs.take pl).flatMap RF.cs ++ r.cs ++ rest.flatMap RF.cs) := hD 10 35 (by decide) rfl (fun i hi e => by cases e; omega)
          have q1 : RegionOwn.T y 36 = .pointer (some ⟨w.heap.size, 0, none⟩) := hD 11 36 (by decide) rfl (fun i hi e => by cases e)
          obtain ⟨va, vc, hv'⟩ := RegionOwn.own_form q
          have xr := row_kept HROWS.out.1 hbx
          obtain ⟨c0, _⟩ := cells5 xr
          obtain ⟨f0, _⟩ := frozen5 xr
          refine RegionOwn.list_skip (y := x.setCell ⟨w.heap.size, 0, none⟩ (RegionOwn.T y 35)) rfl ?_ ?_
          · rw [hv']
            clear hD hfr q xr hJ hK'
            unfold RegionOwn.T at q1 hv'
            go_simp
          · refine hK' _ _ (Met.intro (hJ _ _ ?_))
            (repeat apply Exists.intro)
            refine ⟨?rel, ?eq⟩
            case eq =>
              refine (RegionOwn.act_lit y 38 hfr.size).trans ?_
              show Act.mk (List.toArray [RegionOwn.T y 0, RegionOwn.T y 1, RegionOwn.T y 2, RegionOwn.T y 3, RegionOwn.T y 4, RegionOwn.T y 5, RegionOwn.T y 6, RegionOwn.T y 7, RegionOwn.T y 8, RegionOwn.T y 9, RegionOwn.T y 10, RegionOwn.T y 11, RegionOwn.T y 12, RegionOwn.T y 13, RegionOwn.T y 14, RegionOwn.T y 15, RegionOwn.T y 16, RegionOwn.T y 17, RegionOwn.T y 18, RegionOwn.T y 19, RegionOwn.T y 20, RegionOwn.T y 21, RegionOwn.T y 22, RegionOwn.T y 23, RegionOwn.T y 24, RegionOwn.T y 25, RegionOwn.T y 26, RegionOwn.T y 27, RegionOwn.T y 28, RegionOwn.T y 29, RegionOwn.T y 30, RegionOwn.T y 31, RegionOwn.T y 32, RegionOwn.T y 33, RegionOwn.T y 34, RegionOwn.T y 35, RegionOwn.T y 36, RegionOwn.T y 37]) y.defers = _
              rw [hfr.at (k := 0) (by kernel_rfl) rfl, hfr.at (k := 1) (by kernel_rfl) rfl, hfr.at (k := 2) (by kernel_rfl) rfl, hfr.at (k := 3) (by kernel_rfl) rfl, hfr.at (k := 4) (by kernel_rfl) rfl, hfr.at (k := 5) (by kernel_rfl) rfl, hfr.at (k := 6) (by kernel_rfl) rfl, hfr.at (k := 7) (by kernel_rfl) rfl, hfr.defers]
              rfl
            case rel =>
              refine ⟨RegionOwn.T y 35, ?_, ?_, ?_, ?_⟩
              · rw [heap_setCell_same _ _ _ _ _ _ xr]; rfl
              · exact ((RegionOwn.grown_setCell x _ 0 _).block _ (block_lt (row_kept HROWS.out.2.2.1 hbx)) (by simp)).trans (row_kept HROWS.out.2.2.1 hbx)
              · exact (HROWS.out.2.2.2.trans (hbx.mono HROWS.out.2.2.2.size)).setCell (p := ⟨w.heap.size, 0, none⟩) (Nat.le_refl _) _
              · have := World.ownsRow.kept q (RegionOwn.grown_setCell x w.heap.size 0 (RegionOwn.T y 35)) (by
                  cases hob : (RegionOwn.T y 35).ownBlock with
                  | none => exact .inl rfl
                  | some g => exact .inr (fun e => by cases e; have := (q.lt _ hob).1; omega))
                rw [ins_len HI.out hple, HI.out]
                simpa [List.flatMap_append, List.flatMap_cons] using this
    | false =>
      have hpc : pl ≤ cap := by omega
      rw [hsk] at HI
      rw [hsk, hfv, hlv] at HC
      rw [hfv, hlv]
      obtain ⟨fv, efv⟩ : ∃ fv, fv = Value.slice (some ⟨b, off, none⟩) D.rs.length cap := ⟨_, rfl⟩
      obtain ⟨hv, ehv⟩ : ∃ fv, fv = Value.slice (some ⟨b, off, none⟩) pl cap := ⟨_, rfl⟩
      obtain ⟨rv, erv⟩ : ∃ fv, fv = Value.slice (if cap = pl then some ⟨b, off, none⟩ else some ⟨b, off + (pl) * 4, none⟩) (D.rs.length - (pl)) (cap - (pl)) := ⟨_, rfl⟩
      obtain ⟨rest, hrest⟩ : ∃ rest, rest = D.rs.drop (pl) := ⟨_, rfl⟩
      have HM : Hid (∀ x ∈ rest, x ∈ D.rs) := fun x hx => by rw [hrest] at hx; exact List.mem_of_mem_drop hx
      replace HI : Hid (ins RF.nm r D.rs = D.rs.take pl ++ r :: rest) := by rw [hrest]; exact HI
      have hrl : rest.length ≤ 100000 := by rw [hrest, List.length_drop]; omega
      have HH : Hid (RegionOwn.Holds w hv 4 pl ((D.rs.take pl).flatMap RF.cs) ∧ ∀ ad a c, hv = .slice (some ad) a c → ad.block < w.heap.size) := ⟨by rw [ehv]; exact head_holds cs_len hcells hple cap, fun _ _ _ e => by rw [ehv] at e; cases e; exact hbw⟩
      have HR : Hid (RegionOwn.Holds w rv 4 rest.length (rest.flatMap RF.cs) ∧ ∀ ad a c, rv = .slice (some ad) a c → ad.block < w.heap.size) := ⟨by rw [erv, hrest, List.length_drop]; exact tail_holds' cs_len hcells (by omega) hcap, fun _ _ _ e => by rw [erv] at e; rw [if_block e]; exact hbw⟩
      have ervi := erv
      clear hsk hfv hrest
      clear hcells
      go_enter Try.func69, Try.ntmps69
      go_upto_region 5 with (go_at_call 67; refine (HC.out _ ?_).mono ?_; exact (((Below.refl w.heap.size w).alloc (Nat.le_refl _) _).alloc (by simp) _).alloc (by simp; omega) _; rintro e w1 ⟨rfl, k1⟩; obtain ⟨x2, x3, x4, kb⟩ := three_below k1; obtain ⟨c0, c1, c2, c3, c4⟩ := cells5 x2)
      have hd0 : w.heap.size < w1.heap.size := block_lt x2
      have hd1 : w.heap.size + 1 < w1.heap.size := block_lt x3
      have HH1 : Hid (∀ x, Below w1.heap.size w1 x → RegionOwn.Holds x hv 4 pl ((D.rs.take pl).flatMap RF.cs) ∧ RegionOwn.Holds x rv 4 rest.length (rest.flatMap RF.cs)) := fun x hx => by
        have hx' : Below w.heap.size w x := kb.trans (hx.mono kb.size)
        exact ⟨Holds_below HH.out.1 HH.out.2 hx', Holds_below HR.out.1 HR.out.2 hx'⟩
      clear k1
      have HROWS := hide (And.intro x2 (And.intro x3 (And.intro x4 kb)))
      clear x2 x3 x4 kb c0 c1 c2 c3 c4
      first | rw [← ervi] | skip
      go_cut [] from 8 to 37 (fun wx => Hid (∃ v, wx.heap[w.heap.size]? = some (.cells #[v, .int .i64 D.a.room, .slice la (flen D.a.fall) lc, .int .i64 D.a.changes, .bool D.a.down] 27 (0, 0)) ∧ wx.heap[w.heap.size + 2]? = some (.cells #[Value.slice none 0 0, Value.int IntKind.i64 0, Value.slice none 0 0, Value.int IntKind.i64 0, Value.bool false] 27 (0, 0)) ∧ Below w.heap.size w wx ∧ wx.ownsRow w1.heap.size 52 4 v (ins RF.nm r D.rs).length ((ins RF.nm r D.rs).flatMap RF.cs)))
      case rest =>
        obtain ⟨v, y2, y4, yb, yo⟩ := hcut.out
        obtain ⟨va, vc, hv'⟩ := RegionOwn.own_form yo
        rw [hv'] at y2 yo
        have HY := hide (And.intro y4 (And.intro yb yo))
        have hlt2 : w.heap.size + 2 < w1.heap.size := block_lt HROWS.out.2.2.1
        obtain ⟨c0, c1, c2, c3, c4⟩ := cells5 y2
        obtain ⟨d0, d1, d2, d3, d4⟩ := cells5 y4
        obtain ⟨f0, f1, f2, f3, f4⟩ := frozen5 y4
        clear hcut yo y2 y4 yb
        go_wp2
        refine bodyPost_ret (results_cell_row Try.results69 _ _ _ 27 _ (0, 0) _ rfl (set5 HY.out.1 _ _ _ _ _) Try.underlying27 rfl infoDisk) rfl ⟨.slice va (ins RF.nm r D.rs).length vc, ?_, ?_, below5 HY.out.2.1 (Nat.le_add_right _ 2) _ _ _ _ _⟩
        · simp only [RD.with, hlv]
        · exact HAT.out _ _ (below5 HY.out.2.1 (Nat.le_add_right _ 2) _ _ _ _ _) (Sees.of_own (own_set (own_set (own_set (own_set (own_set HY.out.2.2 hlt2 _ _) hlt2 _ _) hlt2 _ _) hlt2 _ _) hlt2 _ _))
      case first =>
        rename_i J K' hJ hK'
        refine RegionOwn.regionK 12 38 52 4 (fun i => match i with
          | 0 => RegionOwn.row 0 [] 5
          | 1 => RegionOwn.val (.pointer (some ⟨w.heap.size, 0, none⟩))
          | 2 => RegionOwn.val fv
          | 3 => RegionOwn.val (.int .i64 pl)
          | 4 => RegionOwn.val hv
          | 5 => RegionOwn.row pl ((D.rs.take pl).flatMap RF.cs) 8
          | 6 => RegionOwn.val (.agg r.cs.toArray)
          | 7 => RegionOwn.row 1 r.cs 8
          | 8 => RegionOwn.row (pl + 1) ((D.rs.take pl).flatMap RF.cs ++ r.cs) 10
          | 9 => RegionOwn.val rv
          | 10 => RegionOwn.row (pl + 1 + rest.length) ((D.rs.take pl).flatMap RF.cs ++ r.cs ++ rest.flatMap RF.cs) 12
          | 11 => RegionOwn.val (.pointer (some ⟨w.heap.size, 0, none⟩))
          | _ => RegionOwn.val undef) (fun i => match i with | 0 => some 5 | 5 => some 8 | 7 => some 8 | 8 => some 10 | 10 => some 12 | _ => none) ?_ (by kernel_rfl) rfl (by kernel_rfl) ?_ ?_ ?_
        · intro i hi
          match i, hi with
          | 0, _ | 1, _ | 2, _ | 3, _ | 4, _ | 5, _ | 6, _ | 7, _ | 8, _ | 9, _ | 10, _ | 11, _ => rfl
          | i + 12, h => exact absurd h (by omega)
        · intro i p hi h
          match i, hi, h with
          | 0, _, h | 1, _, h | 2, _, h | 3, _, h | 4, _, h | 5, _, h | 6, _, h | 7, _, h | 8, _, h | 9, _, h | 10, _, h | 11, _, h => cases h
          | i + 12, h, _ => exact absurd h (by omega)
        · intro i hi y x hfr hbx hD K hK
          have e2 : RegionOwn.T y 2 = .pointer (some ⟨w.heap.size, 0, none⟩) := hfr.at (by kernel_rfl) rfl
          have e3 : RegionOwn.T y 3 = .pointer (some ⟨w.heap.size + 1, 0, none⟩) := hfr.at (by kernel_rfl) rfl
          have e5 : RegionOwn.T y 5 = .int .i64 pl := by first | exact hfr.at (by kernel_rfl) rfl | (rw [hpl0]; exact hfr.at (by kernel_rfl) rfl)
          have e7 : RegionOwn.T y 7 = rv := by first | exact hfr.at (by kernel_rfl) rfl | (rw [erv]; exact hfr.at (by kernel_rfl) rfl)
          have hsz := hbx.size
          match i, hi with
          | 0, _ =>
            refine RegionOwn.made (ob := .cells #[] 52) (v := .slice (some ⟨x.heap.size, 0, none⟩) 0 0) rfl rfl hK (World.ownsRow_made x #[] 0 hsz (Nat.zero_le _) rfl) (fun g h => by simp [Value.ownBlock] at h; omega) ?_
            clear hK hD hfr
            go_simp
          | 1, _ =>
            refine RegionOwn.quiet rfl rfl hK rfl rfl ?_
            clear hK hD hfr
            unfold RegionOwn.T at e2
            go_simp
          | 2, _ =>
            refine RegionOwn.quiet rfl rfl hK rfl efv.symm ?_
            have q : RegionOwn.T y 26 = .pointer (some ⟨w.heap.size, 0, none⟩) := hD 1 26 (by decide) rfl (by kernel_rfl) (.inl rfl)
            obtain ⟨c0, _⟩ := cells5 (row_kept HROWS.out.1 hbx)
            clear hK hD hfr
            unfold RegionOwn.T at q
            go_simp
          | 3, _ =>
            refine RegionOwn.quiet rfl rfl hK rfl rfl ?_
            clear hK hD hfr
            unfold RegionOwn.T at e5
            go_simp
          | 4, _ =>
            refine RegionOwn.quiet rfl rfl hK rfl ehv.symm ?_
            have q : RegionOwn.T y 27 = fv := hD 2 27 (by decide) rfl (by kernel_rfl) (.inl rfl)
            have q1 : RegionOwn.T y 28 = .int .i64 pl := hD 3 28 (by decide) rfl (by kernel_rfl) (.inl rfl)
            rw [efv] at q
            clear hK hD hfr
            unfold RegionOwn.T at q q1
            go_simp
          | 5, _ =>
            have q : x.ownsRow w1.heap.size 52 4 (RegionOwn.T y 25) 0 [] := hD 0 25 (by decide) rfl (by kernel_rfl) (.inr rfl)
            have q1 : RegionOwn.T y 29 = hv := hD 4 29 (by decide) rfl (by kernel_rfl) (.inl rfl)
            refine RegionOwn.appended (j := 0) (k := pl) (ys := (D.rs.take pl).flatMap RF.cs) rfl rfl hK rfl tinfo _ 4 64 Try.underlying24 HTI.out.1 HTI.out.2.1 HTI.out.2.2.1 HTI.out.2.2.2 rfl (by decide) (by decide) rfl rfl q hsz (by rw [q1]; exact (HH1.out x hbx).1) (HONE.out.1 _ fun z hz => List.mem_of_mem_take hz) (by simp only [maxLen]; omega) (by omega) fun v z hz => ?_
            rw [Nat.zero_add] at hz
            exact hz
          | 6, _ =>
            refine RegionOwn.quiet rfl rfl hK rfl rfl ?_
            have xr := row_kept HROWS.out.2.1 hbx
            have c0 := cell_of_row _ _ 0 _ _ _ xr
            have c1 := cell_of_row _ _ 1 _ _ _ xr
            have c2 := cell_of_row _ _ 2 _ _ _ xr
            have c3 := cell_of_row _ _ 3 _ _ _ xr
            rw [HCS.out]
            simp at c0 c1 c2 c3
            clear hK hD hfr xr
            unfold RegionOwn.T at e3
            go_simp
          | 7, _ =>
            have q : RegionOwn.T y 31 = .agg r.cs.toArray := hD 6 31 (by decide) rfl (by kernel_rfl) (.inl rfl)
            refine RegionOwn.made (ob := .cells r.cs.toArray 52) (v := .slice (some ⟨x.heap.size, 0, none⟩) 1 1) rfl rfl hK (RegionOwn.made_one x _ 52 4 r.cs.toArray hsz rfl) (fun g h => by simp [Value.ownBlock] at h; omega) ?_
            rw [HCS.out] at q ⊢
            clear hK hD hfr
            unfold RegionOwn.T at q
            have q' := q
            rw [Array.getD_eq_getD_getElem?] at q'
            go_simp
          | 8, _ =>
            have q : x.ownsRow w1.heap.size 52 4 (RegionOwn.T y 30) pl ((D.rs.take pl).flatMap RF.cs) := hD 5 30 (by decide) rfl (by kernel_rfl) (.inr rfl)
            have q1 : x.ownsRow w1.heap.size 52 4 (RegionOwn.T y 32) 1 r.cs := hD 7 32 (by decide) rfl (by kernel_rfl) (.inr rfl)
            exact RegionOwn.appended (j := 5) (k := 1) (ys := r.cs) rfl rfl hK rfl tinfo _ 4 64 Try.underlying24 HTI.out.1 HTI.out.2.1 HTI.out.2.2.1 HTI.out.2.2.2 rfl (by decide) (by decide) rfl rfl q hsz (.of_own q1) HONE.out.2 (by simp only [maxLen]; omega) (by omega) fun v z hz => hz
          | 9, _ =>
            refine RegionOwn.quiet rfl rfl hK rfl rfl ?_
            clear hK hD hfr
            unfold RegionOwn.T at e7
            go_simp
          | 10, _ =>
            have q : x.ownsRow w1.heap.size 52 4 (RegionOwn.T y 33) (pl + 1) ((D.rs.take pl).flatMap RF.cs ++ r.cs) := hD 8 33 (by decide) rfl (by kernel_rfl) (.inr rfl)
            have q1 : RegionOwn.T y 34 = rv := hD 9 34 (by decide) rfl (by kernel_rfl) (.inl rfl)
            exact RegionOwn.appended (j := 8) (k := rest.length) (ys := rest.flatMap RF.cs) rfl rfl hK rfl tinfo _ 4 64 Try.underlying24 HTI.out.1 HTI.out.2.1 HTI.out.2.2.1 HTI.out.2.2.2 rfl (by decide) (by decide) rfl rfl q hsz (by rw [q1]; exact (HH1.out x hbx).2) (HONE.out.1 _ HM.out) (by simp only [maxLen]; omega) (by omega) fun v z hz => hz
          | 11, _ =>
            refine RegionOwn.quiet rfl rfl hK rfl rfl ?_
            clear hK hD hfr
            unfold RegionOwn.T at e2
            go_simp
          | i + 12, h => exact absurd h (by omega)
        · intro y x hfr hbx hD
          have q : x.ownsRow w1.heap.size 52 4 (RegionOwn.T y 35) (pl + 1 + rest.length) ((D.rs.take pl).flatMap RF.cs ++ r.cs ++ rest.flatMap RF.cs) := hD 10 35 (by decide) rfl (fun i hi e => by cases e; omega)
          have q1 : RegionOwn.T y 36 = .pointer (some ⟨w.heap.size, 0, none⟩) := hD 11 36 (by decide) rfl (fun i hi e => by cases e)
          obtain ⟨va, vc, hv'⟩ := RegionOwn.own_form q
          have xr := row_kept HROWS.out.1 hbx
          obtain ⟨c0, _⟩ := cells5 xr
          obtain ⟨f0, _⟩ := frozen5 xr
          refine RegionOwn.list_skip (y := x.setCell ⟨w.heap.size, 0, none⟩ (RegionOwn.T y 35)) rfl ?_ ?_
          · rw [hv']
            clear hD hfr q xr hJ hK'
            unfold RegionOwn.T at q1 hv'
            go_simp
          · refine hK' _ _ (Met.intro (hJ _ _ ?_))
            (repeat apply Exists.intro)
            refine ⟨?rel, ?eq⟩
            case eq =>
              refine (RegionOwn.act_lit y 38 hfr.size).trans ?_
              show Act.mk (List.toArray [RegionOwn.T y 0, RegionOwn.T y 1, RegionOwn.T y 2, RegionOwn.T y 3, RegionOwn.T y 4, RegionOwn.T y 5, RegionOwn.T y 6, RegionOwn.T y 7, RegionOwn.T y 8, RegionOwn.T y 9, RegionOwn.T y 10, RegionOwn.T y 11, RegionOwn.T y 12, RegionOwn.T y 13, RegionOwn.T y 14, RegionOwn.T y 15, RegionOwn.T y 16, RegionOwn.T y 17, RegionOwn.T y 18, RegionOwn.T y 19, RegionOwn.T y 20, RegionOwn.T y 21, RegionOwn.T y 22, RegionOwn.T y 23, RegionOwn.T y 24, RegionOwn.T y 25, RegionOwn.T y 26, RegionOwn.T y 27, RegionOwn.T y 28, RegionOwn.T y 29, RegionOwn.T y 30, RegionOwn.T y 31, RegionOwn.T y 32, RegionOwn.T y 33, RegionOwn.T y 34, RegionOwn.T y 35, RegionOwn.T y 36, RegionOwn.T y 37]) y.defers = _
              rw [hfr.at (k := 0) (by kernel_rfl) rfl, hfr.at (k := 1) (by kernel_rfl) rfl, hfr.at (k := 2) (by kernel_rfl) rfl, hfr.at (k := 3) (by kernel_rfl) rfl, hfr.at (k := 4) (by kernel_rfl) rfl, hfr.at (k := 5) (by kernel_rfl) rfl, hfr.at (k := 6) (by kernel_rfl) rfl, hfr.at (k := 7) (by kernel_rfl) rfl, hfr.defers]
              rfl
            case rel =>
              refine ⟨RegionOwn.T y 35, ?_, ?_, ?_, ?_⟩
              · rw [heap_setCell_same _ _ _ _ _ _ xr]; rfl
              · exact ((RegionOwn.grown_setCell x _ 0 _).block _ (block_lt (row_kept HROWS.out.2.2.1 hbx)) (by simp)).trans (row_kept HROWS.out.2.2.1 hbx)
              · exact (HROWS.out.2.2.2.trans (hbx.mono HROWS.out.2.2.2.size)).setCell (p := ⟨w.heap.size, 0, none⟩) (Nat.le_refl _) _
              · have := World.ownsRow.kept q (RegionOwn.grown_setCell x w.heap.size 0 (RegionOwn.T y 35)) (by
                  cases hob : (RegionOwn.T y 35).ownBlock with
                  | none => exact .inl rfl
                  | some g => exact .inr (fun e => by cases e; have := (q.lt _ hob).1; omega))
                rw [ins_len HI.out hple, HI.out]
                simpa [List.flatMap_append, List.flatMap_cons] using this
end Go.Proofs.Ytnjkahoaogeecaa
