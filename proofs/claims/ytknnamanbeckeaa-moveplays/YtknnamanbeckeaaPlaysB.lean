/- Several texts in one: MoveKidsAll, MoveLogs, MoveSame. -/
import Derived.Test.YtknnamanbeckeaaSortThree
import Derived.Test.YtknnamanbeckeaaMoveKids
import Derived.Test.YtknnamanbeckeaaMoveTw
import Derived.Test.YtknnamanbeckeaaMoveRAdd
import Derived.Test.YtknnamanbeckeaaRowsAll
import Derived.Test.YtknnamanbeckeaaPlaysA
import Derived.Test.YtknnamanbeckeaaMoveTwoAll
import Derived.Deep.CutRange
import Derived.Deep.CutBlock
import Derived.BigQuiet
import Derived.Test.YtknnamanbeckeaaRegionGuard
/- Contract: the things below one, however many. -/
namespace Go.Mov
open Go.RowKit Go.MapInt Go.MapFun Go.Rws Go.Srt
/-- The keys of some that stand below a number. -/
def idsK (l : List (Int × Th)) (k : Int) : List Int := (l.filter fun x => decide (x.2.par = k)).map (·.1)
theorem idsK_pr (t : Ths) (k : Int) : idsK (t.map pr) k = (kidsOf t k).map (·.id) := by
  unfold idsK kidsOf
  rw [List.filter_map, List.map_map]
  rfl
theorem idsK_cut {l : List (Int × Th)} (hn : (l.map (·.1)).Nodup) {s : Int} {x : Th} (h : (s, x) ∈ l) (k : Int) : (idsK l k).Perm (if x.par = k then s :: idsK (cut l s) k else idsK (cut l s) k) := by
  induction l with
  | nil => cases h
  | cons y l ih =>
    simp only [List.map_cons, List.nodup_cons] at hn
    rcases List.mem_cons.1 h with e | h
    · subst e
      have e1 : cut ((s, x) :: l) s = l := by
        unfold cut
        rw [List.filter_cons_of_neg (by simp)]
        refine List.filter_eq_self.2 fun z hz => ?_
        have : z.1 ≠ s := fun e => hn.1 (List.mem_map.2 ⟨z, hz, e⟩)
        simpa using this
      rw [e1]
      unfold idsK
      rw [List.filter_cons]
      by_cases ha : x.par = k <;> simp [ha]
    · have hne : y.1 ≠ s := fun e => hn.1 (e ▸ List.mem_map.2 ⟨_, h, rfl⟩)
      have e1 : cut (y :: l) s = y :: cut l s := by unfold cut; rw [List.filter_cons_of_pos (by simp [hne])]
      have := ih hn.2 h
      rw [e1]
      unfold idsK at this ⊢
      simp only [List.filter_cons]
      by_cases ha : y.2.par = k
      · simp only [ha, decide_true, if_true, List.map_cons]
        refine (this.cons y.1).trans ?_
        by_cases hb : x.par = k
        · rw [if_pos hb, if_pos hb]; exact List.Perm.swap _ _ _
        · rw [if_neg hb, if_neg hb]
      · simp only [ha, decide_false]
        exact this
/-- While the things below one are gathered: the iterator's block r, the row of numbers. -/
structure Ki (P : Program) (kt m r : Nat) (l todo : List (Int × Th)) (k : Int) (w0 w : World) (v : Value) (ps : List Int) : Prop where
  ov : OvI P kt m r l todo w0 w
  own : w.ownsRow (r + 1) kt 1 v ps.length (ps.flatMap csU)
  rel : (ps ++ idsK todo k).Perm (idsK l k)
theorem Ki.step {P : Program} {kt m r : Nat} {l todo : List (Int × Th)} {k : Int} {w0 w w' : World} {v : Value} {ps : List Int} (h : Ki P kt m r l todo k w0 w v ps) (b : Below w.heap.size w w') : Ki P kt m r l todo k w0 w' v ps ∧ w'.rangeLeft m r = w.rangeLeft m r :=
  ⟨⟨(h.ov.step b).1, own_kept h.own (fun g hg => b.block g (h.own.lt g hg).2), h.rel⟩, (h.ov.step b).2⟩
/-- The next one is taken. -/
theorem Ki.next {P : Program} {kt m r : Nat} {l todo todo' : List (Int × Th)} {k : Int} {w0 w w' : World} {v : Value} {ps : List Int} (h : Ki P kt m r l todo k w0 w v ps) (hg : w.grownBy w' (some r)) (hr : RngL P kt thE w' m r l todo') : OvI P kt m r l todo' w0 w' ∧ w'.ownsRow (r + 1) kt 1 v ps.length (ps.flatMap csU) :=
  ⟨h.ov.next hg hr, h.own.kept hg (.inr fun e => by have := (h.own.lt r e).1; omega)⟩
theorem Ki.start {P : Program} {kt m : Nat} {l : List (Int × Th)} {k : Int} {w0 w : World} (h : OvI P kt m w0.heap.size l l w0 w) : Ki P kt m w0.heap.size l l k w0 w (.slice none 0 0) [] :=
  ⟨h, ⟨rfl, .inl ⟨rfl, rfl⟩⟩, List.Perm.refl _⟩
theorem Ki.row {P : Program} {kt m r : Nat} {l : List (Int × Th)} {k : Int} {w0 w : World} {v : Value} {ps : List Int} (h : Ki P kt m r l [] k w0 w v ps) : OwnR csU 1 kt w0 v ps w := by
  obtain ⟨h0, h1⟩ := h.own
  refine ⟨⟨h0, ?_⟩, h.ov.below⟩
  have hr := h.ov.hr
  rcases h1 with h1 | ⟨g, cap, cur, h1, h2, h3⟩
  · exact .inl h1
  · exact .inr ⟨g, cap, cur, h1, by omega, h3⟩
/-- A row elsewhere grows. -/
theorem OvI.grows {P : Program} {kt m r : Nat} {l todo : List (Int × Th)} {w0 w w' : World} {v : Value} {n e : Nat} {xs : List Value} (h : OvI P kt m r l todo w0 w) (hm : m ≤ r) (ho : w.ownsRow (r + 1) e 1 v n xs) (hg : w.grownBy w' v.ownBlock) : OvI P kt m r l todo w0 w' ∧ w'.rangeLeft m r = w.rangeLeft m r := by
  have hl := h.rng.lt
  have k1 : w'.heap[m]? = w.heap[m]? := hg.block m hl.1 (fun e => by have := (ho.lt m e.symm).1; omega)
  have k2 : w'.heap[r]? = w.heap[r]? := hg.block r hl.2 (fun e => by have := (ho.lt r e.symm).1; omega)
  have hr := h.hr
  exact ⟨⟨h.rng.kept k1 k2, h.below.grown hg h.below.size (fun k e => by have := (ho.lt k e).1; omega), h.hr⟩, rangeLeft_kept k1 k2⟩
end Go.Mov
namespace Go.Proofs.Ytknnamanbeckeaa
open Go.RowKit Go.Opn Go.Stamp Go.MapInt Go.Mov Go.Shelf Go.Rws Go.Srt
attribute [local go_sem] Oper.semAt_some
set_option maxRecDepth 100000 in
set_option maxHeartbeats 4000000 in
theorem kidsAll_some {b m : Nat} {t : Ths} (k : Int) (w : World) (h : ThsAt Try.prog 30 b (some m) t w) (hr : Rises t) (hn : t.length < 256) :
    Calls Try.prog 29 #[.pointer (some ⟨b, 0, none⟩), .int .u64 k] w fun e w' => ∃ v, e = .returned v ∧ OwnR csU 1 30 w v ((kidsOf t k).map (·.id)) w' := by
  have c0 := h.cell
  have hM : MapL Try.prog 30 thE w m (t.map pr) := by
    rcases h.map with ⟨h1, _⟩ | ⟨b', h1, h2⟩
    · cases h1
    · cases h1; exact h2
  obtain ⟨w1, hrange, hr1, hb1, hs1⟩ := hM.range u64Key thMap
  have hml := (hr1.lt).1
  have hml : m < w.heap.size := by
    have := hM.lt
    exact this
  have HID := hide (idsK_pr t k)
  have HS : Hid ((((kidsOf t k).map (·.id)).Pairwise (· ≤ ·)) ∧ (kidsOf t k).length < 256) := ⟨ids_le (hr.sublist List.filter_sublist), Nat.lt_of_le_of_lt (List.length_filter_le _ _) hn⟩
  obtain ⟨L, hL⟩ : ∃ L, L = t.map pr := ⟨_, rfl⟩
  rw [← hL] at HID hM hr1
  clear hL hn
  obtain ⟨tinfo, hti, htz, hts, htb⟩ := info_of infoU64
  have HTI := hide (And.intro hti (And.intro htz (And.intro hts htb)))
  have G1 := hide (Ki.start (k := k) (OvI.mk hr1 hb1 (Nat.le_refl _)))
  clear hr1 hb1 hs1 hM h hr hti htz hts htb
  go_enter Try.func29, Try.ntmps29
  go_wp2_with fail
  go_loopw [5] (fun v5 wr => ∃ (ps : List Int) (todo : List (Int × Th)), Hid (Ki Try.prog 30 m w.heap.size L todo k w wr v5 ps)) (fun _ wr => wr.rangeLeft m w.heap.size)
  case atStart => exact ⟨[], L, G1.out⟩
  case round =>
    obtain ⟨ps, todo, HG⟩ := hrel
    rcases HG.out.ov.rng.next u64Key 0 with ⟨rfl, hn⟩ | ⟨s, x, w2, hmem, hsz, hn, hr2, hgr2, hz2, hen, hless⟩
    · obtain ⟨a, c, hvv⟩ := RegionOwn.own_form HG.out.own
      subst hvv
      have hp : ((kidsOf t k).map (·.id)).Perm ps := by
        have := HG.out.rel
        rw [HID.out] at this
        exact (by simpa [idsK] using this : ps.Perm _).symm
      have hpl : ps.length < 256 := by
        rw [← hp.length_eq, List.length_map]; exact HS.out.2
      have HSR := hide (sort_own (W := w) (S := (kidsOf t k).map (·.id)) wr HG.out.row hp HS.out.1 hpl)
      clear hp hpl G1
      go_wp2_with (go_at_call 44; refine HSR.out.mono ?_; rintro e w' ⟨⟨v, rfl⟩, ho, _⟩; have HO := hide ho; clear HSR ho)
      go_ret
      exact ⟨_, rfl, HO.out⟩
    · obtain ⟨a, c, hvv⟩ := RegionOwn.own_form HG.out.own
      subst hvv
      obtain ⟨xi, xp, xn, xd, xg, xz⟩ := x
      have hv : thE.v ⟨xi, xp, xn, xd, xg, xz⟩ = .agg #[.int .u64 xi, .int .u64 xp, .string xn, .bool xd, .string xg, .int .i64 xz] := rfl
      rw [hv] at hn hen
      have hcut := idsK_cut HG.out.ov.rng.1 hmem k
      have hrel0 := HG.out.rel
      have hnx := HG.out.next hgr2 hr2
      have hlen : ps.length ≤ 300 := by
        have h1 := HG.out.rel.length_eq
        have h2 := HS.out.2
        rw [HID.out, List.length_append, List.length_map] at h1
        omega
      have hk2 := (Below.refl _ w2).alloc (Nat.le_refl _) (.cells #[.int .u64 xi, .int .u64 xp, .string xn, .bool xd, .string xg, .int .i64 xz] 61)
      have HQ := hide (And.intro hrel0 hcut)
      have HOV := hide (hnx.1.step hk2)
      have HOW := hide (own_kept hnx.2 (w' := w2.alloc (.cells #[.int .u64 xi, .int .u64 xp, .string xn, .bool xd, .string xg, .int .i64 xz] 61)) (fun g hg => hk2.block g (hnx.2.lt g hg).2))
      have HLS := hide hless
      have HRL := hide hr2.lt.2
      clear hr2 hgr2 hz2 hmem hsz hv hless G1 hcut hrel0 hnx hk2 HG
      by_cases ha : xp = k
      · have hpk : (xp == k) = true := by simpa using ha
        rw [if_pos ha] at HQ
        clear ha
        have hz2 : w.heap.size + 1 ≤ w2.heap.size := by
          have := HOV.out.1.rng.lt.2
          have h2 := HRL.out
          omega
        go_wp2_with (at_builtin; refine wpList_append_own _ rfl _ _ 82 rfl (w.heap.size + 1) 30 tinfo (.int .u64 0) 1 8 Try.underlying82 HTI.out.1 HTI.out.2.1 HTI.out.2.2.1 HTI.out.2.2.2 rfl (by decide) _ _ _ rfl (HOW.out.alloc (.cells #[.int .u64 s] 30)) _ 1 1 [.int .u64 s] rfl rfl ?news (by simp [Value.oneCell']) (by unfold maxLen; omega) (by omega) ?base ?_)
        case news =>
          have := row_news (w2.alloc (.cells #[.int .u64 xi, .int .u64 xp, .string xn, .bool xd, .string xg, .int .i64 xz] 61)) [.int .u64 s] 30
          simpa using this
        case base => simp; omega
        intro v' w4 hown hgr _
        have HOW4 := hide hown
        have hov := HOV.out.1.step ((Below.refl _ _).alloc (Nat.le_refl _) (.cells #[.int .u64 s] 30))
        have HOV4 := hide (hov.1.grows (Nat.le_of_lt hml) (HOW.out.alloc (.cells #[.int .u64 s] 30)) hgr)
        have HMS := hide (hov.2.trans HOV.out.2)
        clear hown hgr hov HOW HOV
        go_wp2_with fail
        go_roundw
        case rel => exact ⟨ps ++ [s], cut todo s, HOV4.out.1, by rw [List.length_append, List.flatMap_append]; simpa [csU] using HOW4.out, by rw [List.append_assoc]; exact (HQ.out.2.symm.append_left ps).trans HQ.out.1⟩
        case measure => rw [HOV4.out.2, HMS.out]; exact HLS.out
      · have hpk : (xp == k) = false := by simpa using ha
        rw [if_neg ha] at HQ
        go_wp2_with fail
        go_roundw
        case rel => exact ⟨ps, cut todo s, HOV.out.1, HOW.out, (HQ.out.2.symm.append_left ps).trans HQ.out.1⟩
        case measure => rw [HOV.out.2]; exact HLS.out
set_option maxRecDepth 100000 in
set_option maxHeartbeats 4000000 in
theorem kidsAll_none {b : Nat} (k : Int) (w : World) (c0 : w.cell? ⟨b, 0, none⟩ = some (.map none)) :
    Calls Try.prog 29 #[.pointer (some ⟨b, 0, none⟩), .int .u64 k] w fun e w' => ∃ v, e = .returned v ∧ OwnR csU 1 30 w v [] w' := by
  have hrg := run_range_nilMap (P := Try.prog) w 63 30 61 thMap
  have hnx : ∀ ty, (Instr.next (.pointer (some ⟨w.heap.size, 0, none⟩)) false ty).run Try.prog (w.alloc (.mapIter none 0 #[] 0)) = _ := fun ty => run_next_nilMap _ ty 0 0 #[]
  have hb : Below w.heap.size w (w.alloc (.mapIter none 0 #[] 0)) := (Below.refl _ w).alloc (Nat.le_refl _) _
  have HS := hide (fun (w' : World) (hb : Below w.heap.size w w') => sort_own (W := w) (vo := .slice none 0 0) (xs := []) (S := []) w' ⟨⟨rfl, .inl ⟨rfl, rfl⟩⟩, hb⟩ (List.Perm.refl _) List.Pairwise.nil (by decide))
  have HB := hide hb
  clear hb
  go_enter Try.func29, Try.ntmps29
  go_wp2_with fail
  go_loopw [5] (fun v5 wr => v5 = .slice none 0 0 ∧ wr = w.alloc (.mapIter none 0 #[] 0)) (fun _ _ => 0)
  case atStart => exact ⟨rfl, rfl⟩
  case round =>
    obtain ⟨rfl, rfl⟩ := hrel
    have HS1 := hide (HS.out _ HB.out)
    clear HS
    go_wp2_with (go_at_call 44; refine HS1.out.mono ?_; rintro e w' ⟨⟨v, rfl⟩, ho, _⟩; have HO := hide ho; clear HS1 ho)
    go_ret
    exact ⟨_, rfl, HO.out⟩
/-- What stands below a number, rising. -/
theorem kidsAll_any {b : Nat} {mb : Option Nat} {t : Ths} (k : Int) (w : World) (h : ThsAt Try.prog 30 b mb t w) (hr : Rises t) (hn : t.length < 256) :
    Calls Try.prog 29 #[.pointer (some ⟨b, 0, none⟩), .int .u64 k] w fun e w' => ∃ v, e = .returned v ∧ OwnR csU 1 30 w v ((kidsOf t k).map (·.id)) w' := by
  rcases h.map with ⟨rfl, rfl⟩ | ⟨m, rfl, hm⟩
  · exact kidsAll_none k w h.cell
  · exact kidsAll_some k w h hr hn
end Go.Proofs.Ytknnamanbeckeaa
/- Contract: all operations of a tree, in their order. -/
namespace Go.Proofs.Ytknnamanbeckeaa
open Go.RowKit Go.Opn Go.Stamp Go.MapInt Go.Mov Go.Shelf Go.Rws
attribute [local go_sem] Oper.semAt_some
theorem infoStep17 : (Try.prog.info? 75).map (·.size) = some 17 := by kernel_rfl
theorem infoEn10 : (Try.prog.info? 45).map (·.size) = some 10 := by kernel_rfl
theorem infoEn3 : (Try.prog.info? 45).map (fun i => (i.zero, i.size, i.bytes)) = some (some (.agg #[.int .i64 0, .int .u64 0, .int .i64 0, .int .u64 0, .int .u64 0, .string ⟨#[]⟩, .bool false, .string ⟨#[]⟩, .int .i64 0, .string ⟨#[]⟩]), 10, 104) := by kernel_rfl
theorem undEns : Try.prog.underlying 51 = some (.slice 45) := by kernel_rfl
set_option maxHeartbeats 8000000 in
set_option maxRecDepth 100000 in
theorem log_any {W : World} {b : Nat} {S : Nat → Prop} {l : List En} {u : Int} (v : World) (h : Tw W b S l u v) (hl : l.length ≤ 1000) :
    Calls Try.prog 15 #[.pointer (some ⟨b, 0, none⟩)] v fun e w' => ∃ lv, e = .returned lv ∧ OwnR En.cs 10 45 v lv l w' := by
  obtain ⟨F, rfl, h2, _⟩ := h.t
  have hss : (sps [] l).length = l.length := sps_length [] l
  have hrow : RowsAt Sp.cs 17 v F.lv (sps [] l) := RowsAt.of_own (base := W.heap.size) (e := 75) Sp.cs_length (by rw [hss]; exact h2.row)
  obtain ⟨la, lc, hlv⟩ := hrow.form
  rw [hss] at hlv
  have c1 : v.cell? ⟨F.b, 1, none⟩ = some (.slice la l.length lc) := (cell_of_row _ _ _ _ _ _ h2.blk).trans (by rw [hlv]; rfl)
  rw [hlv] at hrow
  have HR := hide hrow
  have HEN := hide (sps_en [] l)
  clear h h2 hrow hlv hss
  go_enter Try.func15, Try.ntmps15
  go_wp2_with fail
  go_loopw [3, 13] (fun v3 v13 wr => ∃ (k : Nat) (a : Option Addr) (c : Nat), v13 = .int .i64 k ∧ k ≤ l.length ∧ v3 = .slice a k c ∧ Hid (OwnR En.cs 10 45 v (.slice a k c) (l.take k) wr)) (fun _ v13 _ => l.length - (intOf v13).toNat)
  case atStart => exact ⟨0, none, 0, rfl, Nat.zero_le _, rfl, ⟨⟨rfl, .inl ⟨rfl, rfl⟩⟩, Below.refl _ _⟩⟩
  case round =>
    obtain ⟨k, a, c, rfl, hk, rfl, HI⟩ := hrel
    have k0 : (0 : Int) ≤ k := by omega
    by_cases hkl : k < l.length
    · have hkI : (k : Int) < l.length := by omega
      have hsl : (sps [] l).length = l.length := sps_length [] l
      obtain ⟨s, hs⟩ : ∃ s, (sps [] l)[k]? = some s := ⟨_, List.getElem?_eq_getElem (by omega)⟩
      obtain ⟨g, off, hla, hq1, hq2, hgl, hrg⟩ := HR.out.at (fun e => by rw [e] at hs; cases hs)
      subst hla
      have hen : l[k]? = some s.en := by
        have := congrArg (·[k]?) HEN.out
        simp only [List.getElem?_map, hs] at this
        exact this.symm
      have HX := hide hen
      have HRW := hide (rangeAt_below (hrg k s hs) hgl HI.out.below)
      have hmin : (l.take k).length = k := by rw [List.length_take]; omega
      have HMIN := hide hmin
      clear hs hrg hgl hen hmin hsl hq1 hq2
      obtain ⟨⟨⟨kd, ⟨tc, tk⟩, th, pa, nm, dr, dg, sz⟩, eh⟩, was⟩ := s
      obtain ⟨⟨xi, xp, xn, xd, xg, xz⟩, hx⟩ : ∃ X : Th, X = was.getD Th.zero := ⟨_, rfl⟩
      obtain ⟨wb, hwb⟩ : ∃ wb, wb = was.isSome := ⟨_, rfl⟩
      have hcs : Sp.cs ⟨⟨⟨kd, ⟨tc, tk⟩, th, pa, nm, dr, dg, sz⟩, eh⟩, was⟩ = [.int .i64 kd, .int .u64 tc, .int .i64 tk, .int .u64 th, .int .u64 pa, .string nm, .bool dr, .string dg, .int .i64 sz, .string eh, .int .u64 xi, .int .u64 xp, .string xn, .bool xd, .string xg, .int .i64 xz, .bool wb] := by
        unfold Sp.cs Sp.x
        rw [← hx, ← hwb]
        rfl
      rw [hcs] at HRW
      clear hcs hx hwb
      have HI2 := hide (HI.out.step ((Below.refl _ wr).alloc (Nat.le_refl _) (.cells #[.int .i64 kd, .int .u64 tc, .int .i64 tk, .int .u64 th, .int .u64 pa, .string nm, .bool dr, .string dg, .int .i64 sz, .string eh, .int .u64 xi, .int .u64 xp, .string xn, .bool xd, .string xg, .int .i64 xz, .bool wb] 75)))
      go_wp2_with (first
        | (refine wpList_load_mid rfl 75 _ rfl g (off + k * 17) rfl [.int .i64 kd, .int .u64 tc, .int .i64 tk, .int .u64 th, .int .u64 pa, .string nm, .bool dr, .string dg, .int .i64 sz, .string eh, .int .u64 xi, .int .u64 xp, .string xn, .bool xd, .string xg, .int .i64 xz, .bool wb] _ HRW.out Try.underlying75 rfl infoStep17 ?_)
        | (at_builtin; refine OwnR.append HI2.out ⟨⟨kd, ⟨tc, tk⟩, th, pa, nm, dr, dg, sz⟩, eh⟩ En.cs_length (en_one _) (by decide) infoEn3 rfl (by rw [List.length_take]; omega) (by decide) rfl _ _ 51 undEns rfl rfl (by show (Value.slice (some ⟨wr.heap.size + 1, 0, none⟩) 1 1) = _; simp) ?_; rw [HMIN.out]; intro a1 c1 w3 hO; have HO3 := hide hO; clear hO))
      go_roundw
      case rel =>
        refine ⟨k + 1, a1, c1, by simp, by omega, rfl, ?_⟩
        rw [List.take_add_one, HX.out]
        exact HO3.out
      case measure => simp [intOf]; omega
    · obtain rfl : k = l.length := by omega
      go_wp2_with fail
      refine bodyPost_ret (results_tmp Try.results15 _ _ _) rfl ?_
      rw [List.take_length] at HI
      exact ⟨_, rfl, HI.out⟩
end Go.Proofs.Ytknnamanbeckeaa
/- Contract: the law's own same, held true. -/
namespace Go.Mov
open Go.RowKit Go.Rws Go.Opn
def Th.same (a b : Th) : Bool := a.id == b.id && (a.par == b.par && (a.name.toList == b.name.toList && (a.dir == b.dir && (a.dg.toList == b.dg.toList && (a.size == b.size && true)))))
theorem same_iff (a b : Th) : a.same b = true ↔ a = b := by
  obtain ⟨_, _, _, _, _, _⟩ := a
  obtain ⟨_, _, _, _, _, _⟩ := b
  simp only [Th.same, Bool.and_eq_true, beq_iff_eq, Th.mk.injEq, toList_iff, and_true]
end Go.Mov
namespace Go.Proofs.Ytknnamanbeckeaa
open Go.RowKit Go.Opn Go.Stamp Go.MapInt Go.Mov Go.Shelf Go.Rws
attribute [local go_sem] Oper.semAt_some
theorem eq_rthing (a b : Th) (w : World) : (Op.equalIn 10000 80 (.agg a.cs.toArray) (.agg b.cs.toArray)).run Try.prog w = .ok (a.same b) w := by
  obtain ⟨ai, ap, an, ad, ag, az⟩ := a
  obtain ⟨bi, bp, bn, bd, bg, bz⟩ := b
  simp only [Th.cs]
  rw [run_equalIn_agg w 9999 80 _ _ (by unfold Program.fieldsOf; rw [Try.underlying80]) (by kernel_rfl)]
  unfold Program.fieldsOf
  rw [Try.underlying80]
  refine eq_step (x := .int .u64 ai) (y := .int .u64 bi) (by decide) (by go_simp) (by go_simp) (run_equalIn_int w _ _ _ _ _ _ Try.underlying30) ?_
  refine eq_step (x := .int .u64 ap) (y := .int .u64 bp) (by decide) (by go_simp) (by go_simp) (run_equalIn_int w _ _ _ _ _ _ Try.underlying30) ?_
  refine eq_step (x := .string an) (y := .string bn) (by decide) (by go_simp) (by go_simp) (run_equalIn_string w _ _ _ _ Try.underlying9) ?_
  refine eq_step (x := .bool ad) (y := .bool bd) (by decide) (by go_simp) (by go_simp) (run_equalIn_bool' w _ _ _ _ Try.underlying4) ?_
  refine eq_step (x := .string ag) (y := .string bg) (by decide) (by go_simp) (by go_simp) (run_equalIn_string w _ _ _ _ Try.underlying9) ?_
  refine eq_step (x := .int .i64 az) (y := .int .i64 bz) (by decide) (by go_simp) (by go_simp) (run_equalIn_int w _ _ _ _ _ _ Try.underlying3) ?_
  rfl
theorem guardRTh : Try.prog.eqGuardType Try.prog.depth 80 = false := by kernel_rfl
theorem neq_rthing {o : Oper} {a : Act} {x y : Operand} {t : TypeId} (ho : o.op = .binOp .neq 80 x y t) (p q : Th) (hx : a.eval x = .agg p.cs.toArray) (hy : a.eval y = .agg q.cs.toArray) (e : Bool) (he : p.same q = e) (w : World) :
    (execOp a.eval o).run Try.prog w = .ok (.value (.bool (!e))) w := by
  subst he
  unfold execOp
  rw [ho]
  simp only [hx, hy, Sem.run_bind, run_eqGuard_agg w .neq 80 x y p.cs.toArray q.cs.toArray guardRTh, Result.andThen_ok, run_neq_struct, eq_rthing]
  rfl
/-- While all things are held against a list of them: how many were met. -/
def Gs (bN n2 : Nat) (T : List Th) (w0 : World) (pre : List Th) (W : World) : Prop :=
  (Boxed W bN 3 (.int .i64 (pre.length : Nat)) ∧ Below w0.heap.size w0 W) ∧ (pre <+: T ∧ n2 ≤ W.heap.size)
theorem Gs.own {p : Th → Prop} (bN n2 : Nat) (T : List Th) (w0 : World) (B : Nat) (hB : w0.heap.size ≤ B) : OwnFrom B (fun (pre : List (Tp p)) W => Gs bN n2 T w0 (pre.map (·.1)) W) := by
  refine OwnFrom.and (OwnFrom.and (Own.from (fun s A C row hs hg hr => ?_) B) (ownFrom_below (Nat.le_refl _) hB)) (fun s A C row hs hg hr => ⟨hs.1, Nat.le_trans hs.2 hg.size⟩)
  exact boxed_own bN 3 (fun pre : List (Tp p) => .int .i64 ((pre.map (·.1)).length : Nat)) s A C row hs hg hr
theorem Gs.step {bN n2 : Nat} {T : List Th} {w0 : World} {pre : List Th} {W W' : World} (h : Gs bN n2 T w0 pre W) (k : Below W.heap.size W W') : Gs bN n2 T w0 pre W' := by
  obtain ⟨⟨g4, g5⟩, g6, g8⟩ := h
  exact ⟨⟨(k.block _ g4.lt).trans g4, g5.trans (k.mono g5.size)⟩, g6, Nat.le_trans g8 k.size⟩
theorem kidsTw_any {W v : World} {b : Nat} {S : Nat → Prop} {l : List En} {u : Int} (h : Tw W b S l u v) (k : Int) (hl : l.length < 256) : Calls Try.prog 29 #[.pointer (some ⟨b, 0, none⟩), .int .u64 k] v fun e w' => ∃ a c, e = .returned (.slice a (kidsOf (ths [] l) k).length c) ∧ Below v.heap.size v w' ∧ RowsAt Go.Srt.csU 1 w' (.slice a (kidsOf (ths [] l) k).length c) ((kidsOf (ths [] l) k).map (·.id)) := by
  obtain ⟨mb, h1⟩ := h.ths
  have hfin : Fine (ths [] l) := ths_fine Fine.nil h.fits
  have hlen : (ths [] l).length ≤ l.length := by have := ths_length (l := l) Fine.nil h.fits; simpa using this
  refine (kidsAll_any k v h1 hfin.rises (by omega)).mono ?_
  rintro e w' ⟨vv, rfl, ho⟩
  obtain ⟨a, c, rfl⟩ := ho.form
  have h2 := ho.rows Go.Srt.csU_len
  have h3 := ho.below
  rw [List.length_map] at h2 ⊢
  exact ⟨a, c, rfl, h3, h2⟩
set_option maxHeartbeats 8000000 in
set_option maxRecDepth 100000 in
theorem same_any {W0 : World} {b : Nat} {S : Nat → Prop} {l : List En} {u : Int} (v : Value) (w : World) (hT : Tw W0 b S l u w) (hl : l.length ≤ 60) (hR : RowsAt Th.cs 6 w v (ths [] l)) :
    Calls Try.prog 13 #[.pointer (some ⟨b, 0, none⟩), v] w fun r w' => r = .returned (.bool true) ∧ Below w.heap.size w w' := by
  refine (callsIn_wide (n := 9)).1 ?_
  obtain ⟨T, hTT⟩ : ∃ T, T = ths [] l := ⟨_, rfl⟩
  have hfin : Fine (ths [] l) := ths_fine Fine.nil hT.fits
  have hTl : (ths [] l).length ≤ 60 := by have := ths_length (l := l) Fine.nil hT.fits; simp at this; omega
  have HKP := hide (fun (w1 : World) (k : Below w.heap.size w w1) (n : Int) => kidsTw_any (hT.below k) n (by omega))
  have HGT := hide (fun (w1 : World) (k : Below w.heap.size w w1) (n : Int) (hn : Num n) => getTw_any (hT.below k) n hn)
  obtain ⟨mb, hths⟩ := hT.ths
  have HAL := hide (fun (w1 : World) (k : Below w.heap.size w w1) => all_any w1 (hths.below k) hfin.rises hfin.fits (by omega))
  clear hths
  rw [← hTT] at hR hTl hfin HAL HKP HGT
  have HKR := hide (fun (w1 : World) (k : Below w.heap.size w w1) (n : Int) => rkids_any T n v w1 (hR.below k) (by omega))
  obtain ⟨la, lc, rfl⟩ := hR.form
  have HR := hide hR
  have HFI := hide hfin
  have k0 : Below w.heap.size w ((w.alloc (.cells #[.slice la T.length lc] 49)).alloc (.cells #[.bool false] 4)) := ((Below.refl _ w).alloc (Nat.le_refl _) _).alloc (by simp) _
  have hbL : Boxed ((w.alloc (.cells #[.slice la T.length lc] 49)).alloc (.cells #[.bool false] 4)) w.heap.size 49 (.slice la T.length lc) := (heap_alloc_old _ _ (by simp)).trans (heap_alloc_new w _)
  have hbR : Boxed ((w.alloc (.cells #[.slice la T.length lc] 49)).alloc (.cells #[.bool false] 4)) (w.heap.size + 1) 4 (.bool false) := by
    have := Boxed.new (w.alloc (.cells #[.slice la T.length lc] 49)) 4 (.bool false)
    simpa using this
  obtain ⟨w0, hw0⟩ : ∃ w0, (w.alloc (.cells #[.slice la T.length lc] 49)).alloc (.cells #[.bool false] 4) = w0 := ⟨_, rfl⟩
  have hz0 : w0.heap.size = w.heap.size + 2 := by rw [← hw0]; simp
  rw [hw0] at k0 hbL hbR
  have HW0 := hide hw0
  have HB0 := hide (And.intro k0 (And.intro hbL (And.intro hbR hz0)))
  clear hR hT hTT hfin k0 hbL hbR hw0 hz0
  refine callsIn_of_wp_marks Try.func13 rfl trivial ?_ rfl
  simp only [Try.ntmps13, List.size_toArray, List.length_cons, List.length_nil, Nat.reduceAdd, Nat.reduceSub, Array.replicate_succ, Array.replicate_zero, List.push_toArray, List.append_toArray, List.nil_append, List.cons_append]
  refine wpIn_wide.2 ?_
  go_upto_region 1 with fail
  rw [HW0.out]
  obtain ⟨w1, hw1⟩ : ∃ w1, w0.alloc (.cells #[.int .i64 0] 3) = w1 := ⟨_, rfl⟩
  have k1 : Below w0.heap.size w0 w1 := by rw [← hw1]; exact (Below.refl _ w0).alloc (Nat.le_refl _) _
  have hb1 : Boxed w1 w0.heap.size 3 (.int .i64 0) := by rw [← hw1]; exact Boxed.new w0 3 _
  have hz1 : w1.heap.size = w0.heap.size + 1 := by rw [← hw1]; simp
  have HA1 := hide (HAL.out w1 (HB0.out.1.trans (k1.mono HB0.out.1.size)))
  have HW1 := hide hw1
  have HB1 := hide (And.intro k1 (And.intro hb1 hz1))
  clear k1 hb1 hz1 hw1
  go_wp2_with (go_at_call 18; rw [HW1.out]; refine HA1.out.mono ?_; rintro r w9 ⟨bx, rfl, hall⟩; have HALL := hide hall; clear hall HA1)
  obtain ⟨aB, cB, gB, hbx1, hbx2, hgB, hgB1, hgB2, hTs, hkB⟩ := HALL.out
  have hz1 := HB1.out.2.2
  rw [hz1] at hbx1 hgB1
  have k9 : Below w0.heap.size w0 w9 := HB1.out.1.trans (hkB.mono HB1.out.1.size)
  have z9 := k9.size
  have HG0 : Hid (Gs w0.heap.size w9.heap.size T w0 [] w9) := ⟨⟨(hkB.block _ (by omega)).trans HB1.out.2.1, k9⟩, List.nil_prefix, Nat.le_refl _⟩
  have hbl : bx < w9.heap.size := cell_lt hbx2
  have HV := hide (vals_of (fun _ => True) T (fun _ _ => trivial) bx gB 8 w9 hbx2 hgB hTs (by omega))
  have HX := hide (And.intro hbx1 (And.intro hbl (And.intro hgB1 (And.intro hgB2 z9))))
  clear hz1 k9 z9 hbl hbx1 hbx2 hgB hgB1 hgB2 hTs hkB HALL
  refine (wpIn_wide (n := 9)).1 ?_
  generalize hA : Act.mk _ [] = A
  refine wpIn_rangeFunc_ownH rfl (by decide) (gf := 50) (lb := #[.pointer (some ⟨bx, 0, none⟩)]) (by subst hA; rfl) trivial (enters_of Try.func50 (by kernel_rfl) rfl)
    HV.out (fun h k => KpB_t _ _ h k) (KpB_b _ _ _ HX.out.2.1 HX.out.2.2.2.1) (Below.refl _ _) (fun _ => rfl)
    (fun pre W' => Gs w0.heap.size w9.heap.size T w0 (pre.map (·.1)) W')
    (fun c pre _ => c = .ret ∧ ¬ pre.map (·.1) <+: T)
    (Gs.own _ _ _ _ _ HG0.out.1.2.size) ?hIx HG0.out
    (fun x a' W' => ∃ Bt, w0.heap.size ≤ Bt ∧ W'.heap[Bt]? = some (.cells x.1.cs.toArray 61 (0, 0)) ∧ a' = { tmps := (A.tmps.setIfInBounds 15 x.1.v).setIfInBounds 6 (.pointer (some ⟨Bt, 0, none⟩)), defers := [] }) ?hAx ?assign ?body ?done ?stop
  case hIx =>
    intro c s A B row h _ _
    exact h
  case hAx =>
    rintro x a' _ X Y row ⟨Bt, h1, h2, h3⟩ hg hr
    exact ⟨Bt, h1, (hg.block Bt (Array.getElem?_eq_some_iff.1 h2).1 (fun e => by obtain ⟨_, o, ho, hc⟩ := hr Bt e.symm; rw [h2] at ho; cases ho; cases hc)).trans h2, h3⟩
  case assign =>
    rintro lq pre ⟨x, hx⟩ V K hI hK
    subst hA
    dsimp only
    unfold Th.v
    gi_wp2
    have kz := (Below.refl _ V).alloc (Nat.le_refl _) (.cells x.cs.toArray 61)
    have hI2 := hI.step kz
    have hzV := hI.1.2.size
    have hzV2 := hI.2.2
    exact hK _ _ ((KeepsOthers.alloc _ _).from _) ⟨kz.size, kz.block _ (by have := HX.out.2.1; omega), kz.block _ (by have := HX.out.2.2.2.1; omega)⟩ hI2 ⟨V.heap.size, hzV, heap_alloc_new V _, rfl⟩
  case body =>
    rintro lq pre ⟨x, hx⟩ a' V hlq hrec hI ⟨Bt, h1, h2, rfl⟩ hlen2
    subst hA
    obtain ⟨pl, hpl⟩ : ∃ pl, pl = pre.map (·.1) := ⟨_, rfl⟩
    have hpll : pl.length < T.length := by rw [hpl, List.length_map]; exact hlen2
    rw [← hpl] at hI
    have HPL := hide hpl
    have HI := hide hI
    obtain ⟨⟨g4, g5⟩, g6, g8⟩ := hI
    obtain ⟨y, hy⟩ : ∃ y, T[pl.length]? = some y := ⟨_, List.getElem?_eq_getElem hpll⟩
    have kwV : Below w.heap.size w V := HB0.out.1.trans (g5.mono HB0.out.1.size)
    obtain ⟨gr, off, hva, _, hvc, hgl, hrg⟩ := (HR.out.below kwV).at (fun e => by rw [e] at hy; cases hy)
    subst hva
    have hry := hrg pl.length y hy
    have hrx : V.rangeAt Bt 0 x.cs := fun j u hu => by rw [cell_of_row _ _ _ _ _ _ h2, List.getElem?_toArray, Nat.zero_add]; exact hu
    have hbt : Bt < V.heap.size := (Array.getElem?_eq_some_iff.1 h2).1
    have HRR := hide (And.intro hgl (And.intro hry (And.intro hbt hrx)))
    have HY := hide hy
    have hz0 := HB0.out.2.2.2
    have hbxL : Boxed V w.heap.size 49 (.slice (some ⟨gr, off, none⟩) T.length lc) := (g5.block _ (by omega)).trans HB0.out.2.1
    have r1 := cell_regrown hbxL.cell
    have r4 := cell_regrown g4.cell
    obtain ⟨eb, heb⟩ : ∃ eb, eb = x.same y := ⟨_, rfl⟩
    have HEB := hide heb.symm
    have hdN : decide (T.length ≤ pl.length) = false := by simpa using hpll
    have hnI2 : (pl.length : Int) < T.length := by omega
    have hvI : (T.length : Int) ≤ lc := by omega
    clear g4 g5 g6 g8 hy hgl hrg hry hrx hbt heb hpl h2 hrec hlen2 kwV hz0 hbxL
    simp only [List.setIfInBounds_toArray, List.set_cons_succ, List.set_cons_zero]
    gi_wp2_with fail
    refine QuietCalls.tailIn 11 (by kernel_rfl) (by kernel_rfl) (by kernel_rfl) ?_
    simp only [List.take_succ_cons, List.take_zero, List.drop_succ_cons, List.drop_zero]
    iterate 5 (first | go_big_quiet_step (fail) | quiet_step (fail))
    refine QuietCalls.loadMid rfl 61 _ rfl Bt 0 rfl x.cs _ (fun v k => rangeAt_below HRR.out.2.2.2 HRR.out.2.2.1 k) Try.underlying61 rfl infoTh ?_; simp only [Act.put, List.setIfInBounds_toArray, List.set_cons_succ, List.set_cons_zero]
    iterate 3 (first | go_big_quiet_step (fail) | quiet_step (fail))
    refine QuietCalls.loadMid rfl 80 _ rfl gr (off + pl.length * 6) rfl y.cs _ (fun v k => rangeAt_below HRR.out.2.1 HRR.out.1 k) Try.underlying80 rfl infoRTh ?_; simp only [Act.put, List.setIfInBounds_toArray, List.set_cons_succ, List.set_cons_zero]
    refine QuietCalls.hand rfl (.bool (!eb)) (fun w => neq_rthing rfl x y rfl rfl eb HEB.out w) ?_; simp only [Act.put, List.setIfInBounds_toArray, List.set_cons_succ, List.set_cons_zero]
    refine wpQuiet_nil ?_
    intro V2 k2
    have HI2 := hide (HI.out.step k2)
    have HK2 := hide k2
    obtain ⟨⟨j4, j5⟩, _⟩ := HI2.out
    have cn := j4.cell
    have fn := j4.frozen
    have hz0 := HB0.out.2.2.2
    have hbR : Boxed V2 (w.heap.size + 1) 4 (.bool false) := (j5.block _ (by omega)).trans HB0.out.2.2.1
    have hcr := hbR.cell
    have hfr := hbR.frozen
    clear j4 j5 k2 r1 r4 hbR hz0
    cases eb with
    | true =>
      have hx2 := HX.out
      gi_wp2_with fail
      obtain rfl : x = y := (same_iff _ _).1 HEB.out
      obtain ⟨⟨j4, j5⟩, j6, j8⟩ := HI2.out
      have e1 : (pre ++ [(⟨x, hx⟩ : Tp (fun _ => True))]).map (·.1) = pl ++ [x] := by rw [List.map_append, ← HPL.out]; rfl
      refine ⟨⟨Nat.le_trans HK2.out.size (by simp), fun q o hq hqo hno => ?_⟩, ⟨Nat.le_trans HK2.out.size (by simp), ?_, ?_⟩, ?_⟩
      · exact (KeepsOthers.setCell V2 _ _).same q o ((HK2.out.block q (Array.getElem?_eq_some_iff.1 hqo).1).trans hqo) hno
      · exact (heap_setCell_other _ _ _ _ (by show bx ≠ w0.heap.size; omega)).trans (HK2.out.block _ (by have := HI.out.2.2; omega))
      · exact (heap_setCell_other _ _ _ _ (by show gB ≠ w0.heap.size; omega)).trans (HK2.out.block _ (by have := HI.out.2.2; omega))
      · show Gs _ _ _ _ (List.map (fun x : Tp (fun _ => True) => x.1) (pre ++ [(⟨x, hx⟩ : Tp (fun _ => True))])) _
        rw [e1]
        refine ⟨⟨?_, j5.setCell (p := ⟨w0.heap.size, 0, none⟩) (Nat.le_refl _) _⟩, ?_, by simpa using j8⟩
        · have := j4.set (.int .i64 ((pl.length : Int) + 1))
          rw [List.length_append]
          simpa using this
        · have e5 : pl ++ [x] = T.take (pl.length + 1) := by
            rw [List.take_add_one, HY.out]
            obtain ⟨r, hr⟩ := j6
            rw [← hr, List.take_left]
            rfl
          rw [e5]
          exact List.take_prefix _ _
    | false =>
      gi_wp2_with fail
      refine ⟨⟨Nat.le_trans HK2.out.size (by simp), fun q o hq hqo hno => ?_⟩, rfl, ?_⟩
      · exact (KeepsOthers.setCell V2 _ _).same q o ((HK2.out.block q (Array.getElem?_eq_some_iff.1 hqo).1).trans hqo) hno
      · show ¬ (List.map (fun x : Tp (fun _ => True) => x.1) (pre ++ [(⟨x, hx⟩ : Tp (fun _ => True))])) <+: T
        intro hpf
        have e1 : (pre ++ [(⟨x, hx⟩ : Tp (fun _ => True))]).map (·.1) = pl ++ [x] := by rw [List.map_append, ← HPL.out]; rfl
        rw [e1] at hpf
        obtain ⟨r, hr⟩ := hpf
        have h3 := HY.out
        rw [← hr, List.append_assoc, List.getElem?_append_right (Nat.le_refl _)] at h3
        simp at h3
        subst h3
        have := HEB.out
        rw [(same_iff _ _).2 rfl] at this
        cases this
  case done =>
    rintro D ys V hD hys hI hK
    subst hA
    rw [hys] at hI
    have HI := hide hI
    obtain ⟨⟨g4, g5⟩, g6, g8⟩ := hI
    have cn := g4.cell
    have hz0 := HB0.out.2.2.2
    have hbxL : Boxed V w.heap.size 49 (.slice la T.length lc) := (g5.block _ (by omega)).trans HB0.out.2.1
    have cL := hbxL.cell
    have HS0 : Hid (Below w0.heap.size w0 V ∧ V.heap[D]? = some (.deferred (some []))) := ⟨g5, hK⟩
    clear g4 g5 g6 g8 hK hz0 hbxL hys
    dsimp only
    go_upto_region 9 with fail
    go_wp2_with fail
    go_loopw [7] (fun v7 wq => ∃ i : Nat, v7 = .int .i64 i ∧ i ≤ T.length ∧ Hid (Below w0.heap.size w0 wq ∧ wq.heap[D]? = some (.deferred (some [])))) (fun v7 _ => T.length - (intOf v7).toNat)
    case atStart => exact ⟨0, rfl, Nat.zero_le _, HS0.out⟩
    case round =>
      obtain ⟨i, rfl, hi, HS⟩ := hrel
      clear cL cn
      have h0 : (0 : Int) ≤ i := by omega
      have hz0 := HB0.out.2.2.2
      have hbxL : Boxed wr w.heap.size 49 (.slice la T.length lc) := (HS.out.1.block _ (by omega)).trans HB0.out.2.1
      have cL := hbxL.cell
      have kw : Below w.heap.size w wr := HB0.out.1.trans (HS.out.1.mono HB0.out.1.size)
      by_cases hiT : i < T.length
      · obtain ⟨x, hx⟩ : ∃ x, T[i]? = some x := ⟨_, List.getElem?_eq_getElem hiT⟩
        have hxm := List.mem_of_getElem? hx
        have hxf := HFI.out.fits x hxm
        obtain ⟨gr, off, hva, hq1, hvc, hgl, hrg⟩ := HR.out.at (fun e => by rw [e] at hx; cases hx)
        subst hva
        have hry := rangeAt_below (hrg i x hx) hgl kw
        have c0 := hry 0 _ rfl
        rw [Nat.add_zero] at c0
        have HRX := hide (And.intro (hrg i x hx) hgl)
        have hiI : (i : Int) < T.length := by omega
        have hvI : (T.length : Int) ≤ lc := by omega
        have HG1 := hide (HGT.out wr kw x.id hxf.id)
        rw [look_of_mem HFI.out.rises hxm] at HG1
        have hv : ((some x).getD Th.zero).v = .agg #[.int .u64 x.id, .int .u64 x.par, .string x.name, .bool x.dir, .string x.dg, .int .i64 x.size] := rfl
        rw [hv] at HG1
        have HX1 := hide (And.intro hx hxf)
        have HFC : Hid (∀ wz, Below w0.heap.size w0 wz → wz.cell? ⟨w.heap.size, 0, none⟩ = some (.slice (some ⟨gr, off, none⟩) T.length lc) ∧ wz.rangeAt gr (off + i * 6) x.cs ∧ Below w.heap.size w wz) := fun wz kz => by
          have hz0 := HB0.out.2.2.2
          have hb : Boxed wz w.heap.size 49 (.slice (some ⟨gr, off, none⟩) T.length lc) := (kz.block _ (by omega)).trans HB0.out.2.1
          have kw := HB0.out.1.trans (kz.mono HB0.out.1.size)
          exact ⟨hb.cell, rangeAt_below HRX.out.1 HRX.out.2 kw, kw⟩
        clear hx hxm hxf hq1 hvc hgl hrg hry hz0 hbxL kw hv
        go_upto_region 13 with (go_at_call 19; refine HG1.out.mono ?_; rintro r wg ⟨rfl, hb⟩; have KG := hide hb; clear HG1 hb)
        obtain ⟨w2, hw2⟩ : ∃ w2, wg.alloc (.cells #[.int .u64 x.id, .int .u64 x.par, .string x.name, .bool x.dir, .string x.dg, .int .i64 x.size] 61) = w2 := ⟨_, rfl⟩
        have k2 : Below wr.heap.size wr w2 := by rw [← hw2]; exact KG.out.alloc KG.out.size _
        have hX2 : w2.heap[wg.heap.size]? = some (.cells x.cs.toArray 61 (0, 0)) := by rw [← hw2]; exact heap_alloc_new wg _
        rw [hw2]
        obtain ⟨bk, hbk⟩ : ∃ bk, wg.heap.size = bk := ⟨_, rfl⟩
        rw [hbk] at hX2
        rw [hbk]
        have HS2 := hide (And.intro (HS.out.1.trans (k2.mono HS.out.1.size)) (And.intro ((k2.block D (Array.getElem?_eq_some_iff.1 HS.out.2).1).trans HS.out.2) hX2))
        clear HS KG hbk hw2 k2 hX2 cL c0
        obtain ⟨cL, hxr, _⟩ := HFC.out w2 HS2.out.1
        have c0 := hxr 0 _ rfl
        rw [Nat.add_zero] at c0
        have r1 := cell_regrown cL
        have r2 := cell_regrown c0
        clear hxr
        refine QuietCalls.tail 6 (by kernel_rfl) (by kernel_rfl) ?_
        simp only [List.take_succ_cons, List.take_zero, List.drop_succ_cons, List.drop_zero]
        iterate 6 (first | go_big_quiet_step (fail) | quiet_step (fail))
        refine wpQuiet_nil ?_
        intro w3 k3
        have HS3 := hide (And.intro (HS2.out.1.trans (k3.mono HS2.out.1.size)) (And.intro ((k3.block D (Array.getElem?_eq_some_iff.1 HS2.out.2.1).1).trans HS2.out.2.1) ((k3.block bk (Array.getElem?_eq_some_iff.1 HS2.out.2.2).1).trans HS2.out.2.2)))
        clear k3 HS2 cL c0 r1 r2
        obtain ⟨K, hKK⟩ : ∃ K, K = kidsOf T x.id := ⟨_, rfl⟩
        have HK1 := hide (HKR.out w3 (HFC.out w3 HS3.out.1).2.2 x.id)
        have HK2 := hide (fun (w4 : World) (k4 : Below w.heap.size w w4) => HKP.out w4 k4 x.id)
        have hKl : K.length ≤ 60 := by rw [hKK]; exact Nat.le_trans (List.length_filter_le _ _) hTl
        rw [← hKK] at HK1 HK2
        clear hKK
        go_upto_region 15 with (first
          | (go_at_call 28; refine HK1.out.mono ?_; rintro r w4 ⟨v4, rfl, hrt⟩; obtain ⟨ka, kc, rfl⟩ := hrt.row.form; have HS4 := hide (And.intro (HS3.out.1.trans (hrt.k.mono HS3.out.1.size)) (And.intro ((hrt.k.block D (Array.getElem?_eq_some_iff.1 HS3.out.2.1).1).trans HS3.out.2.1) (And.intro ((hrt.k.block bk (Array.getElem?_eq_some_iff.1 HS3.out.2.2).1).trans HS3.out.2.2) hrt.row))); have HK3 := hide (HK2.out w4 (HFC.out w4 HS4.out.1).2.2); have cL := (HFC.out w4 HS4.out.1).1; have c0 := (HFC.out w4 HS4.out.1).2.1 0 _ rfl; rw [Nat.add_zero] at c0; clear hrt HK1 HK2 HS3)
          | (go_at_call 29; refine HK3.out.mono ?_; rintro r w5 ⟨pa, pc, rfl, hb, hp⟩; have HS5 := hide (And.intro (HS4.out.1.trans (hb.mono HS4.out.1.size)) (And.intro ((hb.block D (Array.getElem?_eq_some_iff.1 HS4.out.2.1).1).trans HS4.out.2.1) (And.intro ((hb.block bk (Array.getElem?_eq_some_iff.1 HS4.out.2.2.1).1).trans HS4.out.2.2.1) (And.intro (HS4.out.2.2.2.below hb) hp)))); clear hb hp HK3 HS4 cL c0))
        obtain ⟨cL, hxr, _⟩ := HFC.out w5 HS5.out.1
        have HXR := hide (And.intro hxr (Array.getElem?_eq_some_iff.1 HS5.out.2.2.1).1)
        have hgr : gr < w5.heap.size := Nat.lt_of_lt_of_le HRX.out.2 (HFC.out w5 HS5.out.1).2.2.size
        have r1 := cell_regrown cL
        clear hxr
        refine QuietCalls.region (by kernel_rfl) (by kernel_rfl) ?_
        iterate 3 (first | go_big_quiet_step (fail) | quiet_step (fail))
        refine QuietCalls.load rfl 61 _ rfl _ rfl _ _ _ _ HS5.out.2.2.1 Try.underlying61 rfl infoTh ?_; simp only [Act.put, List.setIfInBounds_toArray, List.set_cons_succ, List.set_cons_zero]
        iterate 3 (first | go_big_quiet_step (fail) | quiet_step (fail))
        refine QuietCalls.loadMid rfl 80 _ rfl gr (off + i * 6) rfl x.cs _ (fun v k => rangeAt_below HXR.out.1 hgr k) Try.underlying80 rfl infoRTh ?_; simp only [Act.put, List.setIfInBounds_toArray, List.set_cons_succ, List.set_cons_zero]
        refine QuietCalls.hand rfl (.bool (!true)) (fun w => neq_rthing rfl x x rfl rfl true ((same_iff _ _).2 rfl) w) ?_; simp only [Act.put, List.setIfInBounds_toArray, List.set_cons_succ, List.set_cons_zero]
        iterate 8 (first | go_big_quiet_step (fail) | quiet_step (fail))
        refine wpQuiet_nil ?_
        intro w6 k6
        have HS6 : Hid (Below w0.heap.size w0 w6 ∧ w6.heap[D]? = some (.deferred (some [])) ∧ RowsAt Th.cs 6 w6 (.slice ka K.length kc) K ∧ RowsAt Go.Srt.csU 1 w6 (.slice pa K.length pc) (K.map (·.id))) := ⟨HS5.out.1.trans (k6.mono HS5.out.1.size), (k6.block D (Array.getElem?_eq_some_iff.1 HS5.out.2.1).1).trans HS5.out.2.1, HS5.out.2.2.2.1.below k6, HS5.out.2.2.2.2.below k6⟩
        clear k6 HS5 cL r1 HXR hgr
        go_wp2_with fail
        go_loopw [12] (fun v12 wq => ∃ k : Nat, v12 = .int .i64 k ∧ k ≤ K.length ∧ Hid (Below w0.heap.size w0 wq ∧ wq.heap[D]? = some (.deferred (some [])) ∧ RowsAt Th.cs 6 wq (.slice ka K.length kc) K ∧ RowsAt Go.Srt.csU 1 wq (.slice pa K.length pc) (K.map (·.id)))) (fun v12 _ => K.length - (intOf v12).toNat)
        case atStart => exact ⟨0, rfl, Nat.zero_le _, HS6.out⟩
        case round =>
          obtain ⟨k, rfl, hk, HQ⟩ := hrel
          clear HS6
          have hk0 : (0 : Int) ≤ k := by omega
          by_cases hkK : k < K.length
          · obtain ⟨y, hy⟩ : ∃ y, K[k]? = some y := ⟨_, List.getElem?_eq_getElem hkK⟩
            obtain ⟨gk, ok, hka, hq1, hkc, hgk, hrk⟩ := HQ.out.2.2.1.at (fun e => by rw [e] at hy; cases hy)
            subst hka
            obtain ⟨gp, op, hpa, hq2, hpc, hgp, hrp⟩ := HQ.out.2.2.2.at (fun e => by rw [List.map_eq_nil_iff] at e; rw [e] at hy; cases hy)
            subst hpa
            have c1 := hrk k y hy 0 _ rfl
            have c2 := hrp k y.id (by rw [List.getElem?_map, hy]; rfl) 0 _ rfl
            rw [Nat.add_zero] at c1 c2
            rw [Nat.mul_one] at c2
            have hkI : (k : Int) < K.length := by omega
            have hkc2 : (K.length : Int) ≤ kc := by omega
            have hpc2 : (K.length : Int) ≤ pc := by rw [List.length_map] at hpc; omega
            clear hy hrk hrp hq1 hq2 hkc hpc hgk hgp
            go_upto_region 20 with fail
            go_quiet (fail)
            go_wp2_with fail
            go_roundw
            case rel =>
              have kd : ∀ n, Below wr.heap.size wr (wr.drewN n) := fun n => ⟨rfl, rfl, rfl, Nat.le_refl _, fun _ _ => rfl⟩
              exact ⟨k + 1, by simp, by omega, HQ.out.1.trans ((kd _).mono HQ.out.1.size), HQ.out.2.1, HQ.out.2.2.1.below (kd _), HQ.out.2.2.2.below (kd _)⟩
            case measure => simp [intOf]; omega
          · obtain rfl : k = K.length := by omega
            go_wp2_with fail
            go_roundw
            case rel => exact ⟨i + 1, by simp, by omega, HQ.out.1, HQ.out.2.1⟩
            case measure => simp [intOf]; omega
      · obtain rfl : i = T.length := by omega
        have HFE : Hid (∀ x, Below wr.heap.size wr x → x.cell? ⟨w.heap.size, 0, none⟩ = some (.slice la T.length lc) ∧ Below w.heap.size w x) := fun x hx => by
          have kx : Below w0.heap.size w0 x := HS.out.1.trans (hx.mono HS.out.1.size)
          have hb : Boxed x w.heap.size 49 (.slice la T.length lc) := (kx.block _ (by omega)).trans HB0.out.2.1
          exact ⟨hb.cell, HB0.out.1.trans (kx.mono HB0.out.1.size)⟩
        clear kw hbxL hz0
        go_upto_region 22 with fail
        clear cL
--BEGIN
        refine RegionOwn.regionK 16 113 0 1 (fun i => match i with
          | 0 => RegionOwn.val (.pointer (some ⟨b, 0, none⟩))
          | 1 => RegionOwn.fact (fun _ v => ∃ a c, v = .slice a (kidsOf T 0).length c)
          | 2 => RegionOwn.val (.int .i64 ((kidsOf T 0).length : Nat))
          | 3 => RegionOwn.val (.slice la T.length lc)
          | 4 => RegionOwn.fact (fun _ v => ∃ a c, v = .slice a (kidsOf T 0).length c)
          | 5 => RegionOwn.val (.int .i64 ((kidsOf T 0).length : Nat))
          | 6 => RegionOwn.val (.bool true)
          | 7 => RegionOwn.val (.bool true)
          | 8 => RegionOwn.val (.pointer (some ⟨b, 0, none⟩))
          | 9 => RegionOwn.fact (fun _ v => ∃ a c, v = .slice a (kidsOf T 1).length c)
          | 10 => RegionOwn.val (.int .i64 ((kidsOf T 1).length : Nat))
          | 11 => RegionOwn.val (.slice la T.length lc)
          | 12 => RegionOwn.fact (fun _ v => ∃ a c, v = .slice a (kidsOf T 1).length c)
          | 13 => RegionOwn.val (.int .i64 ((kidsOf T 1).length : Nat))
          | 14 => RegionOwn.val (.bool true)
          | 15 => RegionOwn.val (.bool true)
          | _ => RegionOwn.val undef) (fun _ => none) ?_ (by kernel_rfl) rfl (by kernel_rfl) ?_ ?_ ?_
        · intro i hi
          match i, hi with
          | 0, _ | 1, _ | 2, _ | 3, _ | 4, _ | 5, _ | 6, _ | 7, _ | 8, _ | 9, _ | 10, _ | 11, _ | 12, _ | 13, _ | 14, _ | 15, _ => rfl
          | i + 16, h => exact absurd h (by omega)
        · intro i p hi h
          refine ⟨fun _ _ => rfl, ?_⟩
          match i, hi, h with
          | 0, _, h | 2, _, h | 3, _, h | 5, _, h | 6, _, h | 7, _, h | 8, _, h | 10, _, h | 11, _, h | 13, _, h | 14, _, h | 15, _, h => cases h
          | 1, _, h | 4, _, h | 9, _, h | 12, _, h => cases h; exact fun x y v h _ => h
          | i + 16, h, _ => exact absurd h (by omega)
        · intro i hi y x hfr hbx hD hO K hK
          have ep : RegionOwn.T y 0 = .pointer (some ⟨b, 0, none⟩) := hfr.at (by kernel_rfl) rfl
          have el : RegionOwn.T y 3 = .pointer (some ⟨w.heap.size, 0, none⟩) := hfr.at (by kernel_rfl) rfl
          obtain ⟨cL, kw⟩ := HFE.out x hbx
          match i, hi with
          | 0, _ =>
            refine RegionOwn.quiet rfl rfl hK rfl rfl ?_
            clear hK hD hfr hO
            unfold RegionOwn.T at ep
            go_simp
          | 1, _ =>
            have q : RegionOwn.T y 97 = .pointer (some ⟨b, 0, none⟩) := hD 0 97 (by decide) rfl (by kernel_rfl) (.inl rfl)
            refine RegionOwn.called (f := 29) (args := #[.pointer (some ⟨b, 0, none⟩), .int .u64 0]) rfl rfl hK rfl ?_ ((HKP.out x kw 0).mono (by rintro e y2 ⟨a, c, rfl, hb, _⟩; exact ⟨_, rfl, hb, a, c, rfl⟩))
            clear hK hD hfr hO
            unfold RegionOwn.T at q
            go_simp
          | 2, _ =>
            have q : ∃ a c, RegionOwn.T y 98 = .slice a (kidsOf T 0).length c := hD 1 98 (by decide) rfl (by kernel_rfl) (.inl rfl)
            obtain ⟨a, c, q⟩ := q
            refine RegionOwn.quiet rfl rfl hK rfl rfl ?_
            clear hK hD hfr hO
            unfold RegionOwn.T at q
            go_simp
          | 3, _ =>
            refine RegionOwn.quiet rfl rfl hK rfl rfl ?_
            clear hK hD hfr hO
            unfold RegionOwn.T at el
            go_simp
          | 4, _ =>
            have q : RegionOwn.T y 100 = .slice la T.length lc := hD 3 100 (by decide) rfl (by kernel_rfl) (.inl rfl)
            refine RegionOwn.called (f := 28) (args := #[.slice la T.length lc, .int .u64 0]) rfl rfl hK rfl ?_ ((HKR.out x kw 0).mono (by rintro e y2 ⟨v2, rfl, hr⟩; exact ⟨_, rfl, hr.k, hr.row.form⟩))
            clear hK hD hfr hO
            unfold RegionOwn.T at q
            go_simp
          | 5, _ =>
            have q : ∃ a c, RegionOwn.T y 101 = .slice a (kidsOf T 0).length c := hD 4 101 (by decide) rfl (by kernel_rfl) (.inl rfl)
            obtain ⟨a, c, q⟩ := q
            refine RegionOwn.quiet rfl rfl hK rfl rfl ?_
            clear hK hD hfr hO
            unfold RegionOwn.T at q
            go_simp
          | 6, _ =>
            have q : RegionOwn.T y 99 = .int .i64 ((kidsOf T 0).length : Nat) := hD 2 99 (by decide) rfl (by kernel_rfl) (.inl rfl)
            have q1 : RegionOwn.T y 102 = .int .i64 ((kidsOf T 0).length : Nat) := hD 5 102 (by decide) rfl (by kernel_rfl) (.inl rfl)
            refine RegionOwn.quiet rfl rfl hK rfl rfl ?_
            clear hK hD hfr hO
            unfold RegionOwn.T at q q1
            go_simp
          | 7, _ =>
            have q : RegionOwn.T y 103 = .bool true := hD 6 103 (by decide) rfl (by kernel_rfl) (.inl rfl)
            refine RegionOwn.quiet rfl rfl hK rfl rfl ?_
            clear hK hD hfr hO
            unfold RegionOwn.T at q
            go_simp
          | 8, _ =>
            have hg : RegionOwn.T y 104 = .bool true := hD 7 104 (by decide) rfl (by kernel_rfl) (.inl rfl)
            refine RegionOwn.quietG rfl (RegionOwn.wanted_of (j := 7) (d := 104) (want := true) rfl rfl hg) hK rfl rfl ?_
            clear hK hD hfr hO
            unfold RegionOwn.T at ep
            go_simp
          | 9, _ =>
            have q : RegionOwn.T y 105 = .pointer (some ⟨b, 0, none⟩) := hD 8 105 (by decide) rfl (by kernel_rfl) (.inl rfl)
            have hg : RegionOwn.T y 104 = .bool true := hD 7 104 (by decide) rfl (by kernel_rfl) (.inl rfl)
            refine RegionOwn.calledG (f := 29) (args := #[.pointer (some ⟨b, 0, none⟩), .int .u64 1]) rfl (RegionOwn.wanted_of (j := 7) (d := 104) (want := true) rfl rfl hg) hK rfl ?_ ((HKP.out x kw 1).mono (by rintro e y2 ⟨a, c, rfl, hb, _⟩; exact ⟨_, rfl, hb, a, c, rfl⟩))
            clear hK hD hfr hO
            unfold RegionOwn.T at q
            go_simp
          | 10, _ =>
            have q : ∃ a c, RegionOwn.T y 106 = .slice a (kidsOf T 1).length c := hD 9 106 (by decide) rfl (by kernel_rfl) (.inl rfl)
            obtain ⟨a, c, q⟩ := q
            have hg : RegionOwn.T y 104 = .bool true := hD 7 104 (by decide) rfl (by kernel_rfl) (.inl rfl)
            refine RegionOwn.quietG rfl (RegionOwn.wanted_of (j := 7) (d := 104) (want := true) rfl rfl hg) hK rfl rfl ?_
            clear hK hD hfr hO
            unfold RegionOwn.T at q
            go_simp
          | 11, _ =>
            have hg : RegionOwn.T y 104 = .bool true := hD 7 104 (by decide) rfl (by kernel_rfl) (.inl rfl)
            refine RegionOwn.quietG rfl (RegionOwn.wanted_of (j := 7) (d := 104) (want := true) rfl rfl hg) hK rfl rfl ?_
            clear hK hD hfr hO
            unfold RegionOwn.T at el
            go_simp
          | 12, _ =>
            have q : RegionOwn.T y 108 = .slice la T.length lc := hD 11 108 (by decide) rfl (by kernel_rfl) (.inl rfl)
            have hg : RegionOwn.T y 104 = .bool true := hD 7 104 (by decide) rfl (by kernel_rfl) (.inl rfl)
            refine RegionOwn.calledG (f := 28) (args := #[.slice la T.length lc, .int .u64 1]) rfl (RegionOwn.wanted_of (j := 7) (d := 104) (want := true) rfl rfl hg) hK rfl ?_ ((HKR.out x kw 1).mono (by rintro e y2 ⟨v2, rfl, hr⟩; exact ⟨_, rfl, hr.k, hr.row.form⟩))
            clear hK hD hfr hO
            unfold RegionOwn.T at q
            go_simp
          | 13, _ =>
            have q : ∃ a c, RegionOwn.T y 109 = .slice a (kidsOf T 1).length c := hD 12 109 (by decide) rfl (by kernel_rfl) (.inl rfl)
            obtain ⟨a, c, q⟩ := q
            have hg : RegionOwn.T y 104 = .bool true := hD 7 104 (by decide) rfl (by kernel_rfl) (.inl rfl)
            refine RegionOwn.quietG rfl (RegionOwn.wanted_of (j := 7) (d := 104) (want := true) rfl rfl hg) hK rfl rfl ?_
            clear hK hD hfr hO
            unfold RegionOwn.T at q
            go_simp
          | 14, _ =>
            have q : RegionOwn.T y 107 = .int .i64 ((kidsOf T 1).length : Nat) := hD 10 107 (by decide) rfl (by kernel_rfl) (.inl rfl)
            have q1 : RegionOwn.T y 110 = .int .i64 ((kidsOf T 1).length : Nat) := hD 13 110 (by decide) rfl (by kernel_rfl) (.inl rfl)
            have hg : RegionOwn.T y 104 = .bool true := hD 7 104 (by decide) rfl (by kernel_rfl) (.inl rfl)
            refine RegionOwn.quietG rfl (RegionOwn.wanted_of (j := 7) (d := 104) (want := true) rfl rfl hg) hK rfl rfl ?_
            clear hK hD hfr hO
            unfold RegionOwn.T at q q1
            go_simp
          | 15, _ =>
            have q : RegionOwn.T y 104 = .bool true := hD 7 104 (by decide) rfl (by kernel_rfl) (.inl rfl)
            have q1 : RegionOwn.T y 111 = .bool true := hD 14 111 (by decide) rfl (by kernel_rfl) (.inl rfl)
            refine RegionOwn.quiet rfl rfl hK rfl rfl ?_
            clear hK hD hfr hO
            unfold RegionOwn.T at q q1
            go_simp
          | i + 16, h => exact absurd h (by omega)
        · intro y x hfr hbx hD
          have q : RegionOwn.T y 112 = .bool true := hD 15 112 (by decide) rfl (fun i hi e => by cases e)
          have e4 : RegionOwn.T y 4 = .pointer (some ⟨w.heap.size + 1, 0, none⟩) := hfr.at (by kernel_rfl) rfl
          have hl113 : List.range 113 = [0, 1, 2, 3, 4, 5, 6, 7, 8, 9, 10, 11, 12, 13, 14, 15, 16, 17, 18, 19, 20, 21, 22, 23, 24, 25, 26, 27, 28, 29, 30, 31, 32, 33, 34, 35, 36, 37, 38, 39, 40, 41, 42, 43, 44, 45, 46, 47, 48, 49, 50, 51, 52, 53, 54, 55, 56, 57, 58, 59, 60, 61, 62, 63, 64, 65, 66, 67, 68, 69, 70, 71, 72, 73, 74, 75, 76, 77, 78, 79, 80, 81, 82, 83, 84, 85, 86, 87, 88, 89, 90, 91, 92, 93, 94, 95, 96, 97, 98, 99, 100, 101, 102, 103, 104, 105, 106, 107, 108, 109, 110, 111, 112] := by decide
          have hdf : y.defers = [{ target := Target.collected D, args := #[] }] := hfr.defers
          rw [RegionOwn.act_lit y 113 (hfr.size.trans rfl), hl113, hdf]
          simp only [List.map_cons, List.map_nil, List.drop_succ_cons, List.drop_zero, q, e4]
          have hz0 := HB0.out.2.2.2
          have HSX := hide (And.intro (HS.out.1.trans (hbx.mono HS.out.1.size)) ((hbx.block D (Array.getElem?_eq_some_iff.1 HS.out.2).1).trans HS.out.2))
          have hbR : Boxed x (w.heap.size + 1) 4 (.bool false) := (HSX.out.1.block _ (by omega)).trans HB0.out.2.2.1
          have hcr := hbR.cell
          have hfz := hbR.frozen
          have HBR := hide hbR
          clear hD hfr q e4 hl113 hdf hbR hbx
          go_wp2_with fail
          have hDw : D ≠ w.heap.size + 1 := by have := HX.out; omega
          have e1 : (x.setCell ⟨w.heap.size + 1, 0, none⟩ (.bool true)).heap[D]? = some (.deferred (some [])) := (heap_setCell_other _ _ _ _ (by show D ≠ w.heap.size + 1; exact hDw)).trans HSX.out.2
          have e3 := (HBR.out.set (.bool true)).kept (grownBy_putObj' _ D (.deferred none)) (fun e => hDw (by injection e with e; exact e.symm))
          have e4 := e3.cell
          refine ⟨by simp, .inl ⟨_, _, rfl, run_takeDeferred e1, ?_⟩⟩
          refine ⟨.bool true, by simp [results, Try.f13, go_sem, e4], rfl, ?_⟩
          have b1 : Below w.heap.size w x := HB0.out.1.trans (HSX.out.1.mono HB0.out.1.size)
          have hDz : w.heap.size ≤ D := by have := HX.out; omega
          exact (b1.setCell (p := ⟨w.heap.size + 1, 0, none⟩) (Nat.le_succ _) _).grown (grownBy_putObj' _ D (.deferred none)) (by have := b1.size; simpa using this) (fun j e => by cases e; exact hDz)
--END
  case stop =>
    rintro D2 c pre V hD2 hpre ⟨_, hne⟩ hK2
    exact absurd hpre hne
end Go.Proofs.Ytknnamanbeckeaa
