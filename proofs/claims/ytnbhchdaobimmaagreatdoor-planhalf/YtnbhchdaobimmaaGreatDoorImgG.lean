/- Several texts in one: ImageSort, ImageOf. -/
import Derived.Test.YtnbhchdaobimmaaGreatDoorRunAQ
import Derived.Test.YtnbhchdaobimmaaGreatDoorRunAI
import Derived.Test.YtnbhchdaobimmaaGreatDoorRunAT
/- Contract: an image's files are sorted by their paths. -/
namespace Go.Proofs.YtnbhchdaobimmaaGreatDoor
open Go.RowKit Go.Img Go.Shelf Go.Rws Go.Lib
open Go.Sort hiding Below
attribute [local go_sem] Oper.semAt_some
/-- Files whose paths are not too long. -/
structure Fs where
 f : Fi
 h : f.path.length ≤ 1000
def fsZero : Fs := ⟨Fi.zero, by decide⟩
theorem swoFs : SWO (ltOf fun x y : Fs => cmpF x.f y.f) := by
 have h : (ltOf fun x y : Fs => cmpF x.f y.f) = fun x y => ltF x.f y.f := rfl
 rw [h]
 exact ⟨fun x => swoF.irrefl x.f, fun x y z => swoF.trans x.f y.f z.f, fun x y z => swoF.ntrans x.f y.f z.f⟩
theorem fcmpLays [Inhabited Fs] (blk off size : Nat) (w : World) : CmpLays Tryz.prog 17 #[] (fun x : Fs => x.f.cs) 5 (fun x y => cmpF x.f y.f) blk off size w := by
 intro m os dk hs x y
 refine (fcompare_any x.f y.f _ x.h y.h).mono ?_
 rintro e w' ⟨he, n, hw⟩
 refine ⟨he, n, #[.cells x.f.cs.toArray 51, .cells y.f.cs.toArray 51], ?_⟩
 rw [hw, alloc_eq_grow, alloc_eq_grow, grow_grow]
 rfl
set_option maxRecDepth 100000 in
theorem isAggFi (w : World) : (isAgg (sortFL_ren.t 24)).run Tryz.prog w = .ok true w := by kernel_rfl
set_option maxRecDepth 100000 in
theorem sizeOfFi (w : World) : (Go.sizeOf (sortFL_ren.t 24)).run Tryz.prog w = .ok 5 w := by kernel_rfl
theorem flatK_list [Inhabited Fs] (d : Array Fs) : (flatK (fun x : Fs => x.f.cs) 5 d).toList = (d.toList.map (·.f)).flatMap Fi.cs := by
 have hl : ((d.toList.map (·.f)).flatMap Fi.cs).length = d.size * 5 := by rw [flat_len Fi.cs_length, List.length_map, Array.length_toList]
 apply List.ext_getElem?
 intro t
 by_cases ht : t < d.size * 5
 ·have hq : t / 5 < d.size := by omega
  have h1 := get_flatK (fun x : Fs => x.f.cs) 5 d t ht
  have hx : (d.toList.map (·.f))[t / 5]? = some (d[t / 5]!).f := by
   rw [List.getElem?_map, Array.getElem?_toList, Array.getElem?_eq_getElem hq]
   simp [hq]
  have hr : t % 5 < ((d[t / 5]!).f.cs).length := by rw [Fi.cs_length]; omega
  have h2 := flat_in Fi.cs_length hx (t % 5) _ (List.getElem?_eq_getElem hr)
  rw [show t / 5 * 5 + t % 5 = t by omega] at h2
  have ht2 : t < (flatK (fun x : Fs => x.f.cs) 5 d).size := by rw [size_flatK]; exact ht
  rw [h2, Array.getElem?_toList, Array.getElem?_eq_getElem ht2]
  rw [getElem!_pos (flatK (fun x : Fs => x.f.cs) 5 d) t ht2] at h1
  rw [h1, getElem!_pos (d[t / 5]!).f.cs (t % 5) hr]
 ·have e1 : (flatK (fun x : Fs => x.f.cs) 5 d).toList.length ≤ t := by rw [Array.length_toList, size_flatK]; omega
  have e2 : ((d.toList.map (·.f)).flatMap Fi.cs).length ≤ t := by rw [hl]; omega
  rw [List.getElem?_eq_none e1, List.getElem?_eq_none e2]
/-- An image's files, sorted. -/
theorem sortFs_any {W w : World} {l : List Fi} {a : Option Addr} {n c : Nat} (h : OwnR Fi.cs 5 51 W (.slice a n c) l w) (hl : ∀ f ∈ l, f.path.length ≤ 1000) (hn : l.length ≤ 100000) :
  Calls Tryz.prog 26 #[.slice a n c, .func (.func 17) #[] #[]] w fun e w' => e = .returned (.tuple #[]) ∧ ∃ l' : List Fi, l'.Perm l ∧ Srt l' ∧ OwnR Fi.cs 5 51 W (.slice a n c) l' w' := by
 have : Inhabited Fs := ⟨fsZero⟩
 obtain ⟨a', c', hf⟩ := h.form
 simp only [Value.slice.injEq] at hf
 obtain ⟨rfl, rfl, rfl⟩ := hf
 by_cases h0 : l = []
 ·subst h0
  refine (AnyF.slices_SortFunc_none (ρ := sortFL_ren) { sortFL with } a c _ w).mono ?_
  rintro e w' ⟨he, rfl⟩
  exact ⟨he, [], List.Perm.refl _, List.Pairwise.nil, h⟩
 ·obtain ⟨⟨h1, h2⟩, hb⟩ := h
  rcases h2 with ⟨h2, h3⟩ | ⟨g, cap, cur, h2, h3, h4, h5, h6, h7, h8⟩
  ·exact absurd (List.length_eq_zero_iff.1 h3) h0
  ·simp only [Value.slice.injEq] at h2
   obtain ⟨rfl, _, rfl⟩ := h2
   obtain ⟨d, hd⟩ : ∃ d : Array Fs, d.toList.map (·.f) = l := ⟨(l.attach.map fun x => (⟨x.1, hl x.1 x.2⟩ : Fs)).toArray, by rw [List.toList_toArray]; rw [List.map_map]; exact List.attach_map_subtype_val l⟩
   have hds : d.size = l.length := by rw [← hd]; simp
   have hgl : g < w.heap.size := (Array.getElem?_eq_some_iff.1 h4).1
   have hF : (flatK (fun x : Fs => x.f.cs) 5 d).toList = l.flatMap Fi.cs := by rw [flatK_list, hd]
   have hH : HoldsK (fun x : Fs => x.f.cs) 5 w g 0 d := by
    intro j hj
    rw [size_flatK] at hj
    have hj2 : j < (flatK (fun x : Fs => x.f.cs) 5 d).size := by rw [size_flatK]; exact hj
    rw [Nat.zero_add]
    refine ⟨?_, frozen_of_row _ _ _ _ _ h4⟩
    have e1 : cur[j]? = some (flatK (fun x : Fs => x.f.cs) 5 d)[j] := by
     have : (l.flatMap Fi.cs)[j]? = some (flatK (fun x : Fs => x.f.cs) 5 d)[j] := by rw [← hF, Array.getElem?_toList, Array.getElem?_eq_getElem hj2]
     rw [← h8, List.getElem?_take_of_lt (by omega), Array.getElem?_toList] at this
     exact this
    rw [cell_of_row _ _ _ _ _ _ h4, e1, getElem!_pos (flatK (fun x : Fs => x.f.cs) 5 d) j hj2]
    rfl
   have hc := AnyQ.slices_SortFunc (ρ := sortFL_ren) sortFL 5 isAggFi sizeOfFi (fun x : Fs => x.f.cs) (fun _ => rfl) (fun x => fi_one x.f) (fun x y => cmpF x.f y.f) swoFs 17 #[] g 0 c d w (enters_of Tryz.func17 (by kernel_rfl) rfl) (fcmpLays g 0 d.size w) hH hgl (by omega)
   rw [hds] at hc
   refine hc.mono ?_
   rintro e w' ⟨he, d', m, os, hp, hs, rfl⟩
   refine ⟨he, d'.toList.map (·.f), ?_, ?_, ?_⟩
   ·have h9 := hp.2.2
    have e1 : d'.extract 0 l.length = d' := Array.extract_eq_self_of_le (by rw [hp.1, hds]; exact Nat.le_refl _)
    have e2 : d.extract 0 l.length = d := Array.extract_eq_self_of_le (by rw [hds]; exact Nat.le_refl _)
    rw [e1, e2] at h9
    have h10 := h9.map (·.f)
    rw [hd] at h10
    exact h10
   ·unfold Srt
    rw [List.pairwise_map, List.pairwise_iff_getElem]
    intro i j hi hj hij
    have hsz' : d'.size = l.length := by rw [hp.1]; exact hds
    have hi' : i < d'.size := by simpa using hi
    have hj' : j < d'.size := by simpa using hj
    have h9 := hs i j (Nat.zero_le _) hij (by omega)
    rw [getElem!_pos d' i hi', getElem!_pos d' j hj'] at h9
    rw [Array.getElem_toList, Array.getElem_toList]
    exact h9
   ·have hsz' : d'.size = l.length := by rw [hp.1]; exact hds
    have hF' : (flatK (fun x : Fs => x.f.cs) 5 d').toList = (d'.toList.map (·.f)).flatMap Fi.cs := flatK_list d'
    have hrow : (sortWorldK (fun x : Fs => x.f.cs) 5 w g 0 m d' os).heap[g]? = some (.cells (putCells id 0 (flatK (fun x : Fs => x.f.cs) 5 d') cur) 51 (0, 0)) := by
     unfold sortWorldK
     rw [heap_grow_old _ _ (by show g < (mapBlock (Sort.ahead w m) g _).heap.size; simpa [mapBlock] using hgl)]
     show ((Sort.ahead w m).heap.modify g _)[g]? = _
     rw [Array.getElem?_modify, if_pos rfl]
     show (w.heap[g]?).map _ = _
     rw [h4]
     rfl
    have hln : (d'.toList.map (·.f)).length = l.length := by rw [List.length_map, Array.length_toList]; exact hsz'
    have hsF : (flatK (fun x : Fs => x.f.cs) 5 d').size = l.length * 5 := by rw [size_flatK, hsz']
    refine ⟨⟨by rw [flat_len Fi.cs_length], .inr ⟨g, c, _, by rw [hln], h3, hrow, by rw [hln]; exact h5, h6, ?_, ?_⟩⟩, ?_⟩
    ·unfold putCells
     rw [Array.size_mapIdx]; exact h7
    ·rw [hln, ← hF']
     apply List.ext_getElem?
     intro t
     by_cases ht : t < l.length * 5
     ·have ht2 : t < (flatK (fun x : Fs => x.f.cs) 5 d').size := by rw [hsF]; exact ht
      have ht3 : t < cur.size := by rw [h7]; omega
      rw [List.getElem?_take_of_lt ht, Array.getElem?_toList, Array.getElem?_toList, Array.getElem?_eq_getElem ht2]
      unfold putCells
      rw [Array.getElem?_mapIdx, Array.getElem?_eq_getElem ht3]
      show some (if 0 ≤ t ∧ t < 0 + _ then _ else _) = _
      rw [if_pos ⟨Nat.zero_le _, by rw [Nat.zero_add]; exact ht2⟩, Nat.sub_zero, getElem!_pos (flatK (fun x : Fs => x.f.cs) 5 d') t ht2]
      rfl
     ·rw [List.getElem?_eq_none (by rw [List.length_take]; omega), List.getElem?_eq_none (by rw [Array.length_toList, hsF]; omega)]
    ·refine ⟨hb.os, hb.tape, hb.output, ?_, fun k hk => ?_⟩
     ·refine Nat.le_trans hb.size ?_
      unfold sortWorldK
      rw [size_grow]
      show w.heap.size ≤ (mapBlock (Sort.ahead w m) g _).heap.size + _
      simp [mapBlock, Sort.ahead]
     ·refine Eq.trans ?_ (hb.block k hk)
      unfold sortWorldK
      have hkw : k < w.heap.size := Nat.lt_of_lt_of_le hk hb.size
      rw [heap_grow_old _ _ (by show k < (mapBlock (Sort.ahead w m) g _).heap.size; simpa [mapBlock, Sort.ahead] using hkw)]
      show ((Sort.ahead w m).heap.modify g _)[k]? = _
      rw [Array.getElem?_modify, if_neg (by omega)]
      rfl
end Go.Proofs.YtnbhchdaobimmaaGreatDoor
/- Contract: the image of a tree. -/
namespace Go.Proofs.YtnbhchdaobimmaaGreatDoor
open Go.RowKit Go.Img Go.Shelf Go.Rws Go.MapInt
open Go.Mov hiding fold
attribute [local go_sem] Oper.semAt_some
set_option maxHeartbeats 8000000 in
set_option maxRecDepth 100000 in
theorem of_any {b : Nat} {mb : Option Nat} {T : Ths} (w : World) (hv : Vt w) (h : ThsAt Tryz.prog 49 b mb T w) (hf : Fine T) (hd : Dirs T) (hl : T.length ≤ 127) (hn : ∀ x ∈ T, x.name.size ≤ 1000000) :
  Calls Tryz.prog 8 #[.pointer (some ⟨b, 0, none⟩)] w fun e w' => ∃ v, e = .returned v ∧ OwnR Fi.cs 5 51 w v (img T) w' := by
 refine (callsIn_wide (n := 9)).1 ?_
 obtain ⟨w0, hw0⟩ : ∃ w0, (w.alloc (.map #[] 0)).alloc (.cells #[.map (some w.heap.size)] 74) = w0 := ⟨_, rfl⟩
 have k0 : Below w.heap.size w w0 := by rw [← hw0]; exact ((Below.refl _ w).alloc (Nat.le_refl _) _).alloc (by simp) _
 have hz0 : w0.heap.size = w.heap.size + 2 := by rw [← hw0]; simp
 have hm0 : MapL Tryz.prog 49 slE w0 w.heap.size [] := by
  rw [← hw0]
  exact (MapL.made Tryz.prog 49 slE w).below ((Below.refl _ _).alloc (Nat.le_refl _) _)
 have hb0 : Boxed w0 (w.heap.size + 1) 74 (.map (some w.heap.size)) := by
  rw [← hw0]
  have := Boxed.new (w.alloc (.map #[] 0)) 74 (.map (some w.heap.size))
  rwa [World.size_alloc] at this
 have HA := hide (all_any w0 (h.below k0) hf.rises hf.fits (by omega))
 have H0 := hide (And.intro k0 (And.intro hz0 (And.intro hm0 (And.intro hb0 hv))))
 have HT := hide (And.intro hf (And.intro hd hn))
 have HW0 := hide hw0
 clear h k0 hz0 hm0 hb0 hw0 hf hd hn hv
 refine callsIn_of_wp_marks Tryz.func8 rfl trivial ?_ rfl
 simp only [Tryz.ntmps8, List.size_toArray, List.length_cons, List.length_nil, Nat.reduceAdd, Nat.reduceSub, Array.replicate_succ, Array.replicate_zero, List.push_toArray, List.append_toArray, List.nil_append, List.cons_append]
 refine wpIn_wide.2 ?_
 have hmk := @run_makeMap Tryz.prog
 go_upto_region 2 with fail
 clear hmk
 rw [HW0.out]
 go_wp2_with (go_at_call 24; refine HA.out.mono ?_; rintro r w7 ⟨bx, rfl, hall⟩; have HALL := hide hall; clear hall HA)
 obtain ⟨aA, cA, gA, hbx1, hbx2, hgA, hgA1, hgA2, hTs, hkA⟩ := HALL.out
 obtain ⟨k0, hz0, hm0, hb0, hv⟩ := H0.out
 have hbxl : bx < w7.heap.size := cell_lt hbx2
 have k7 : Below w.heap.size w w7 := k0.trans (hkA.mono k0.size)
 have hz7 := hkA.size
 have hb7 : Boxed w7 (w.heap.size + 1) 74 (.map (some w.heap.size)) := (hkA.block _ (by omega)).trans hb0
 have hm7 : MapL Tryz.prog 49 slE w7 w.heap.size [] := hm0.kept (hkA.block _ (by omega))
 have HG0 : Hid (Gd (w.heap.size + 1) w.heap.size w7.heap.size (fun q => q = bx ∨ q = gA) w [] w7) := ⟨⟨[], Kd.start.2 hm7⟩, hb7, k7, Nat.le_refl _⟩
 have HVs := hide (vals_of (fun x => x ∈ T) T (fun _ h => h) bx gA 8 w7 hbx2 hgA hTs (by omega))
 have HX := hide (And.intro hbx1 (And.intro hbxl (And.intro hgA1 (And.intro hgA2 (And.intro hz0 hz7)))))
 clear hbx1 hbx2 hgA hgA1 hgA2 hTs hkA HALL k0 hz0 hm0 hb0 hv hbxl k7 hz7 hb7 hm7
 refine (wpIn_wide (n := 9)).1 ?_
 generalize hA : Act.mk _ [] = A
 refine wpIn_rangeFunc_ownH rfl (by decide) (gf := 86) (lb := #[.pointer (some ⟨bx, 0, none⟩)]) (by subst hA; rfl) trivial (enters_of Tryz.func86 (by kernel_rfl) rfl)
  HVs.out (fun h k => KpB_t _ _ h k) (KpB_b _ _ _ HX.out.2.1 HX.out.2.2.2.1) (Below.refl _ _) (fun _ => rfl)
  (fun pre W => Gd (w.heap.size + 1) w.heap.size w7.heap.size (fun q => q = bx ∨ q = gA) w (pre.map (·.1)) W)
  (fun _ _ _ => False)
  (Gd.own _ _ _ _ _ _ HG0.out.2.2.1.size (by have := HX.out; omega) (by have := HX.out; omega)) (fun c s A B row h => h.elim) HG0.out
  (fun x a' W => ∃ Bt, w7.heap.size ≤ Bt ∧ W.heap[Bt]? = some (.cells x.1.cs.toArray 79 (0, 0)) ∧ Fr w.heap.size Bt W ∧ a' = { tmps := (A.tmps.setIfInBounds 10 x.1.v).setIfInBounds 4 (.pointer (some ⟨Bt, 0, none⟩)), defers := [] }) ?hAx ?assign ?body ?done ?stop
 case hAx =>
  rintro x a' _ X Y row ⟨Bt, h1, h2, hfr, h3⟩ hg hr
  refine ⟨Bt, h1, (hg.block Bt (Array.getElem?_eq_some_iff.1 h2).1 (fun e => by obtain ⟨_, o, ho, hc⟩ := hr Bt e.symm; rw [h2] at ho; cases ho; cases hc)).trans h2, hfr.kept ?_, h3⟩
  refine hg.block _ ?_ fun e => ?_
  ·have := (Array.getElem?_eq_some_iff.1 h2).1; have := HX.out; omega
  ·have := (hr _ e.symm).1; have := HX.out; omega
 case assign =>
  rintro lq pre ⟨x, hx⟩ W K hI hK
  subst hA
  dsimp only
  unfold Th.v
  gi_wp2
  have kz := (Below.refl _ W).alloc (Nat.le_refl _) (.cells x.cs.toArray 79)
  have hzW := hI.2.2.2
  exact hK _ _ ((KeepsOthers.alloc _ _).from _) ⟨kz.size, kz.block _ (by have := HX.out.2.1; omega), kz.block _ (by have := HX.out.2.2.2.1; omega)⟩ (hI.step kz) ⟨W.heap.size, hzW, heap_alloc_new W _, Fr.new hI (kz.block _ (by have := HX.out; omega)) (Nat.le_refl _), rfl⟩
 case body =>
  rintro lq pre ⟨x, hx⟩ a' W hlq hrec ⟨⟨L, g1⟩, g2, g3, g4⟩ ⟨Bt, h1, h2, hfr, rfl⟩ hlen2
  subst hA
  dsimp only at g1
  obtain ⟨pl, hpl⟩ : ∃ pl, pl = pre.map (·.1) := ⟨_, rfl⟩
  have hpll : pl.length < 128 := by rw [hpl, List.length_map]; omega
  rw [← hpl] at g1
  have HPL := hide hpl
  clear hpl hlen2 hrec
  have hpn : Num x.par := (HT.out.1.fits x hx).par
  have hLl : L.length < maxLen := by have := g1.len; unfold maxLen; omega
  simp only [List.setIfInBounds_toArray, List.set_cons_succ, List.set_cons_zero]
  gi_wp2_with fail
  refine RoundR.held2 (fun v => v.heap[w.heap.size + 1]? = some (.cells #[.map (some w.heap.size)] 74 (0, 0)) ∧ v.heap[Bt]? = some (.cells x.cs.toArray 79 (0, 0))) [0, 1, 2, 3, 4, 5, 7] 6 8 [(false, 9), (false, 10)] (by kernel_rfl) (by kernel_rfl) (by kernel_rfl) rfl ⟨g2, h2⟩ ?_
  have g1' : Kd Tryz.prog 49 79 w.heap.size w.heap.size (fun q => q = bx ∨ q = gA) pl L W.drew := g1.below (Below.refl _ W).drew
  have hlook := g1'.look u64Key undKm (zeroThs _) x.par hpn
  have ga : Below W.heap.size W (W.drew.alloc (.cells x.cs.toArray 79)) := ((Below.refl _ W).drew).alloc (Nat.le_refl _) _
  have hlookA := (g1.below ga).look u64Key undKm (zeroThs _) x.par hpn
  have hbtl : Bt < W.heap.size := (Array.getElem?_eq_some_iff.1 h2).1
  have hS5 : W.drew.heap[w.heap.size + 1]? = some (.cells #[.map (some w.heap.size)] 74 (0, 0)) ∧ W.drew.heap[Bt]? = some (.cells x.cs.toArray 79 (0, 0)) := ⟨g2, h2⟩
  have hSA : (W.drew.alloc (.cells x.cs.toArray 79)).heap[w.heap.size + 1]? = some (.cells #[.map (some w.heap.size)] 74 (0, 0)) ∧ (W.drew.alloc (.cells x.cs.toArray 79)).heap[Bt]? = some (.cells x.cs.toArray 79 (0, 0)) := ⟨(ga.block _ g2.lt).trans g2, (ga.block _ hbtl).trans h2⟩
  obtain ⟨g', cap', W2, hrun, r1, r2, r3⟩ := Kd.grows g1 ga (by have := g3.size; simp; omega) (by omega) W.heap.size (heap_alloc_new W.drew _)
  have hmW : w.heap.size < W.heap.size := g1.map.lt
  have hm2 : W2.heap[w.heap.size]? = W.heap[w.heap.size]? := (r2.block _ (by simp; omega) (fun e => g1.ne_map _ e.symm)).trans (ga.block _ hmW)
  have hk2 : W2.heap[w.heap.size + 1]? = W.heap[w.heap.size + 1]? := (r2.block _ (by simp; have := g2.lt; omega) (fun e => g2.not_row (by decide) (g1.row x.par) e)).trans (ga.block _ g2.lt)
  have ht2 : W2.heap[Bt]? = W.heap[Bt]? := (r2.block _ (by simp; omega) (fun e => hfr L g1.map x.par e.symm)).trans (ga.block _ hbtl)
  obtain ⟨W3, hup, m3, u3⟩ := MapL.set (g1.map.kept hm2) u64Key undKm hLl x.par hpn (⟨some g', (kidsOf pl x.par).length + 1, cap'⟩ : Sl)
  have hnext := g1.next ga r2 r1 r3 (by
   intro q hq
   have := HX.out
   rcases hq with rfl | rfl <;> omega) m3 u3
  have hS2 : W2.heap[w.heap.size + 1]? = some (.cells #[.map (some w.heap.size)] 74 (0, 0)) ∧ W2.heap[Bt]? = some (.cells x.cs.toArray 79 (0, 0)) := ⟨hk2.trans g2, ht2.trans h2⟩
  have hS3 : W3.heap[w.heap.size + 1]? = some (.cells #[.map (some w.heap.size)] 74 (0, 0)) ∧ W3.heap[Bt]? = some (.cells x.cs.toArray 79 (0, 0)) := ⟨(u3.block _ (by have := r2.size; simp at this; have := g2.lt; omega) (fun e => by have : w.heap.size + 1 = w.heap.size := (by injection e); omega)).trans hS2.1, (u3.block _ (by have := r2.size; simp at this; omega) (fun e => by have h9 : Bt = w.heap.size := (by injection e); have := HX.out; omega)).trans hS2.2⟩
  have hsz3 : W.heap.size ≤ W3.heap.size := by have := r2.size; have := u3.size; simp at *; omega
  have hB3 : ∀ q, q < W.heap.size → q ≠ w.heap.size → (at_ L x.par).v.ownBlock ≠ some q → W3.heap[q]? = W.heap[q]? := fun q h1 h2 h3 => (u3.block q (by have := r2.size; simp at this; omega) (fun e => h2 (by injection e))).trans ((r2.block q (by simp; omega) (fun e => h3 e.symm)).trans (ga.block q h1))
  have hbel3 : Below w.heap.size w W3 := by
   have hx := HX.out
   exact ((g3.trans (ga.mono g3.size)).grown r2 (by simp; have := g3.size; omega) (fun j e => ((g1.row x.par).lt j e).1)).grown u3 (by have := r2.size; simp at this; have := g3.size; omega) (fun j e => by cases e; exact Nat.le_refl _)
  have HFin : Hid (KeepsFrom w7.heap.size W W3 ∧ KpB bx gA W W3 ∧ Gd (w.heap.size + 1) w.heap.size w7.heap.size (fun q => q = bx ∨ q = gA) w ((pre ++ [(⟨x, hx⟩ : Tp fun x => x ∈ T)]).map (·.1)) W3) := by
   have hx9 := HX.out
   refine ⟨⟨hsz3, fun q o hq hqo hno => ?_⟩, ⟨hsz3, hB3 bx (by omega) (by omega) (fun e => g1.free x.par _ e (.inl rfl)), hB3 gA (by omega) (by omega) (fun e => g1.free x.par _ e (.inr rfl))⟩, ⟨cut L x.par ++ [(x.par, ⟨some g', (kidsOf pl x.par).length + 1, cap'⟩)], ?_⟩, hS3.1, hbel3, by omega⟩
   ·refine (hB3 q (Array.getElem?_eq_some_iff.1 hqo).1 (by omega) (fun e => ?_)).trans hqo
    rcases (g1.row x.par).2 with ⟨e1, _⟩ | ⟨j, cap, cur, e1, _, h3, _⟩
    ·rw [e1] at e; cases e
    ·rw [e1] at e
     have : j = q := by injection e
     subst this
     rw [hqo] at h3
     cases h3
     cases hno
   ·rw [List.map_append, ← HPL.out]
    exact hnext
  have hup' : (Instr.mapUpdate 74 (.map (some w.heap.size)) (.int .u64 x.par) (.slice (some ⟨g', 0, none⟩) ((kidsOf pl x.par).length + 1) cap')).run Tryz.prog W2 = .ok () W3 := hup
  clear hup
  generalize hvp : (at_ L x.par).v = vp at hlook hlookA hrun
  simp only [Th.cs] at hlookA hrun h2 hS5 hSA
  have hlookB : (Instr.lookup 74 (.map (some w.heap.size)) (.int .u64 x.par) false).run Tryz.prog (W.alloc (.cells #[.int .u64 x.id, .int .u64 x.par, .string x.name, .bool x.dir, .string x.dg, .int .i64 x.size] 79)).drew = .ok vp (W.alloc (.cells #[.int .u64 x.id, .int .u64 x.par, .string x.name, .bool x.dir, .string x.dg, .int .i64 x.size] 79)).drew := hlookA
  clear hlookA
  unfold Th.v
  refine HeldO.first (.map (some w.heap.size)) rfl rfl (fun v hv => by have hc := cell_of_row _ (w.heap.size + 1) 0 _ _ _ hv.1; simp only [List.getElem_toArray, List.getElem_cons_zero]; go_simp) ?_; simp only [List.getElem_toArray, List.getElem_cons_zero, Act.put, List.setIfInBounds_toArray, List.set_cons_succ, List.set_cons_zero]
  refine HeldO.first (.pointer (some ⟨Bt, 1, none⟩)) rfl rfl (fun _ _ => by kernel_rfl) ?_; simp only [List.getElem_toArray, List.getElem_cons_succ, List.getElem_cons_zero, Act.put, List.setIfInBounds_toArray, List.set_cons_succ, List.set_cons_zero]
  refine HeldO.first (.int .u64 x.par) rfl rfl (fun v hv => by have hc := (cell_of_row _ Bt 1 _ _ _ hv.2).trans (rfl : _ = some (Value.int .u64 x.par)); simp only [List.getElem_toArray, List.getElem_cons_succ, List.getElem_cons_zero]; go_simp) ?_; simp only [List.getElem_toArray, List.getElem_cons_succ, List.getElem_cons_zero, Act.put, List.setIfInBounds_toArray, List.set_cons_succ, List.set_cons_zero]
  refine HeldO.first (.map (some w.heap.size)) rfl rfl (fun v hv => by have hc := cell_of_row _ (w.heap.size + 1) 0 _ _ _ hv.1; simp only [List.getElem_toArray, List.getElem_cons_succ, List.getElem_cons_zero]; go_simp) ?_; simp only [List.getElem_toArray, List.getElem_cons_succ, List.getElem_cons_zero, Act.put, List.setIfInBounds_toArray, List.set_cons_succ, List.set_cons_zero]
  refine HeldO.first (.pointer (some ⟨Bt, 1, none⟩)) rfl rfl (fun _ _ => by kernel_rfl) ?_; simp only [List.getElem_toArray, List.getElem_cons_succ, List.getElem_cons_zero, Act.put, List.setIfInBounds_toArray, List.set_cons_succ, List.set_cons_zero]
  refine HeldO.first (.int .u64 x.par) rfl rfl (fun v hv => by have hc := (cell_of_row _ Bt 1 _ _ _ hv.2).trans (rfl : _ = some (Value.int .u64 x.par)); simp only [List.getElem_toArray, List.getElem_cons_succ, List.getElem_cons_zero]; go_simp) ?_; simp only [List.getElem_toArray, List.getElem_cons_succ, List.getElem_cons_zero, Act.put, List.setIfInBounds_toArray, List.set_cons_succ, List.set_cons_zero]
  refine HeldO.firstRow 79 _ rfl rfl rfl Bt rfl 79 _ (0, 0) _ (fun v hv => hv.2) Tryz.underlying79 rfl infoTh ?_; simp only [List.getElem_toArray, List.getElem_cons_succ, List.getElem_cons_zero, Act.put, List.setIfInBounds_toArray, List.set_cons_succ, List.set_cons_zero]
  refine ⟨?_, ?_⟩
  ·refine HeldO.turns vp W.drew rfl rfl (by simp only [Th.cs, List.getElem_toArray, List.getElem_cons_succ, List.getElem_cons_zero]; go_simp) hS5 ?_; simp only [List.getElem_toArray, List.getElem_cons_succ, List.getElem_cons_zero, Act.put, List.setIfInBounds_toArray, List.set_cons_succ, List.set_cons_zero]
   refine HeldO.turns (.slice (some ⟨W.heap.size, 0, none⟩) 1 1) (W.drew.alloc (.cells #[.int .u64 x.id, .int .u64 x.par, .string x.name, .bool x.dir, .string x.dg, .int .i64 x.size] 79)) rfl rfl (by simp only [Th.cs, List.getElem_toArray, List.getElem_cons_succ, List.getElem_cons_zero]; go_simp) hSA ?_; simp only [List.getElem_toArray, List.getElem_cons_succ, List.getElem_cons_zero, Act.put, List.setIfInBounds_toArray, List.set_cons_succ, List.set_cons_zero]
   refine HeldO.step rfl rfl ?_
   simp only [Th.cs, List.getElem_toArray, List.getElem_cons_succ, List.getElem_cons_zero]
   unfold Oper.wp
   have hap : ∀ (a : Act) (o : Oper), o.op = .call { callee := .builtin .append, args := #[.tmp 17, .tmp 19], argTypes := #[80, 80] } → o.type = 80 → a.eval (.tmp 17) = vp → a.eval (.tmp 19) = .slice (some ⟨W.heap.size, 0, none⟩) 1 1 → (execOp a.eval o).run Tryz.prog (W.drew.alloc (.cells #[.int .u64 x.id, .int .u64 x.par, .string x.name, .bool x.dir, .string x.dg, .int .i64 x.size] 79)) = .ok (.value (.slice (some ⟨g', 0, none⟩) ((kidsOf pl x.par).length + 1) cap')) W2 := fun a o h1 h4 h2 h3 => by
    simp [execOp, h1, h2, h3, h4, resolve, invoke, builtin, hrun, Result.andThen]
   rw [hap _ _ rfl rfl rfl rfl]
   refine ⟨hS2, ?_⟩
   simp only [Act.put, List.setIfInBounds_toArray, List.set_cons_succ, List.set_cons_zero]
   refine HeldO.step rfl rfl ?_
   simp only [List.getElem_toArray, List.getElem_cons_succ, List.getElem_cons_zero]
   unfold Oper.wp
   go_simp
   exact ⟨rfl, HFin.out⟩
  ·refine HeldO.turns (.slice (some ⟨W.heap.size, 0, none⟩) 1 1) (W.drew.alloc (.cells #[.int .u64 x.id, .int .u64 x.par, .string x.name, .bool x.dir, .string x.dg, .int .i64 x.size] 79)) rfl rfl (by simp only [Th.cs, List.getElem_toArray, List.getElem_cons_succ, List.getElem_cons_zero]; go_simp) hSA ?_; simp only [List.getElem_toArray, List.getElem_cons_succ, List.getElem_cons_zero, Act.put, List.setIfInBounds_toArray, List.set_cons_succ, List.set_cons_zero]
   refine HeldO.turns vp (W.drew.alloc (.cells #[.int .u64 x.id, .int .u64 x.par, .string x.name, .bool x.dir, .string x.dg, .int .i64 x.size] 79)) rfl rfl (by simp only [Th.cs, List.getElem_toArray, List.getElem_cons_succ, List.getElem_cons_zero]; go_simp) hSA ?_; simp only [List.getElem_toArray, List.getElem_cons_succ, List.getElem_cons_zero, Act.put, List.setIfInBounds_toArray, List.set_cons_succ, List.set_cons_zero]
   refine HeldO.step rfl rfl ?_
   simp only [Th.cs, List.getElem_toArray, List.getElem_cons_succ, List.getElem_cons_zero]
   unfold Oper.wp
   have hap : ∀ (a : Act) (o : Oper), o.op = .call { callee := .builtin .append, args := #[.tmp 17, .tmp 19], argTypes := #[80, 80] } → o.type = 80 → a.eval (.tmp 17) = vp → a.eval (.tmp 19) = .slice (some ⟨W.heap.size, 0, none⟩) 1 1 → (execOp a.eval o).run Tryz.prog (W.drew.alloc (.cells #[.int .u64 x.id, .int .u64 x.par, .string x.name, .bool x.dir, .string x.dg, .int .i64 x.size] 79)) = .ok (.value (.slice (some ⟨g', 0, none⟩) ((kidsOf pl x.par).length + 1) cap')) W2 := fun a o h1 h4 h2 h3 => by
    simp [execOp, h1, h2, h3, h4, resolve, invoke, builtin, hrun, Result.andThen]
   rw [hap _ _ rfl rfl rfl rfl]
   refine ⟨hS2, ?_⟩
   simp only [Act.put, List.setIfInBounds_toArray, List.set_cons_succ, List.set_cons_zero]
   refine HeldO.step rfl rfl ?_
   simp only [List.getElem_toArray, List.getElem_cons_succ, List.getElem_cons_zero]
   unfold Oper.wp
   go_simp
   exact ⟨rfl, HFin.out⟩
 case done =>
  rintro D xs W hD hxs ⟨⟨L, g1⟩, g2, g3, g4⟩ hK
  subst hA
  rw [hxs] at g1
  have hzW := g3.size
  have hN : ∀ (f : List UInt8) (k : Int) (v : World), Below W.heap.size W v → f.length ≤ 1000 → Calls Tryz.prog 25 #[.string ⟨f.toArray⟩, (at_ L k).v] v fun e w' => ∃ v', e = .returned v' ∧ OwnR Fi.cs 5 51 v v' (Img.named f (kidsOf T k)) w' := fun f k v hb hf => by
   have hr : RowsAt Th.cs 6 v (at_ L k).v (kidsOf T k) := (RowsAt.of_own Th.cs_length (g1.row k)).below hb
   refine named_any f (kidsOf T k) _ v (H0.out.2.2.2.2.below H0.out.2.2.2.2.size (g3.trans (hb.mono hzW))) hr ?_ (fun x hx => HT.out.2.2 x (kids_par hx).1) hf
   exact Nat.le_trans (List.length_filter_le _ _) (by omega)
  have HN := hide hN
  have HLK : Hid (∀ (k : Int) (v : World), Num k → Below W.heap.size W v → (Instr.lookup 74 (.map (some w.heap.size)) (.int .u64 k) false).run Tryz.prog v = .ok (at_ L k).v v) := fun k v hk hb => (g1.below hb).look u64Key undKm (zeroThs _) k hk
  have HW := hide (And.intro g2 (And.intro g3 (And.intro hK hD)))
  have c3 := g2.cell
  have hl0 := HLK.out 0 W ⟨by decide, by decide⟩ (Below.refl _ W)
  have HN0 := hide (HN.out [] 0 W (Below.refl _ W) (by decide))
  generalize hv0 : (at_ L 0).v = v0 at hl0 HN0
  have HGc := hide (And.intro (Gw.start HT.out.1) (Cl.start T))
  clear hN g1 g2 g3 g4 hK hD hxs hv0
  dsimp only
  go_wp2_with (go_at_call 25; refine HN0.out.mono ?_; rintro e w2 ⟨v', rfl, ho⟩; obtain ⟨va, vc, rfl⟩ := ho.form; have HO := hide ho; clear HN0 ho)
  go_loopw [5, 6] (fun v5 v6 wr => ∃ (i n : Nat) (l : List Fi) (a : Option Addr) (c : Nat), v6 = .int .i64 i ∧ i ≤ n ∧ n ≤ 127 ∧ v5 = .slice a n c ∧ Hid (n = l.length ∧ OwnR Fi.cs 5 51 W (.slice a n c) l wr ∧ Gw T i l ∧ Cl T i l)) (fun _ v6 _ => 200 - (intOf v6).toNat)
  case atStart =>
   refine ⟨0, _, Img.start T, va, vc, rfl, Nat.zero_le _, ?_, rfl, rfl, HO.out, HGc.out⟩
   have := HGc.out.1.len
   show (Img.start T).length ≤ 127
   omega
  case round =>
   obtain ⟨i, n, l, a, c, rfl, hi, hnl, rfl, HI⟩ := hrel
   clear HO
   have h0 : (0 : Int) ≤ i := by omega
   by_cases hin : i < n
   ·obtain ⟨f, hf⟩ : ∃ f, l[i]? = some f := ⟨_, List.getElem?_eq_getElem (by have := HI.out.1; omega)⟩
    have hRl := HI.out.2.1.rows Fi.cs_length
    have hNI := HI.out.1
    obtain ⟨g, off, hla, hq, hcap, hgl, hrg⟩ := hRl.at (fun e => by rw [e] at hf; cases hf)
    subst hla
    have hinI : (i : Int) < n := by omega
    have hcI : (n : Int) ≤ c := by omega
    have HRW := hide (And.intro (hrg i f hf) hgl)
    clear hq hRl hcap hgl hrg hNI
    go_upto_region 9 with fail
    have hbW := HI.out.2.1.below
    have hnum : Num f.id := by
     obtain ⟨x, hx, e, _⟩ := HI.out.2.2.1.part f (List.mem_of_getElem? hf)
     rw [← e]; exact (HT.out.1.fits x hx).id
    have hfl : f.path.length ≤ 238 := by
     have h9 := met_path (by omega) (HI.out.2.2.2.met f (List.mem_of_getElem? hf)) (.inl rfl)
     unfold okPath at h9
     simp only [Bool.and_eq_true, decide_eq_true_eq] at h9
     exact h9.1
    have HNf := hide (HN.out f.path f.id wr.drew hbW.drew (by omega))
    have HNl : Hid ((Img.named f.path (kidsOf T f.id)).length ≤ 127) := Nat.le_trans (List.length_filterMap_le _ _) (by rw [List.length_zip]; have := List.length_filter_le (fun x : Th => decide (x.par = f.id)) T; unfold kidsOf; omega)
    have HF := hide hf
    have HNx := hide (And.intro (HI.out.2.2.1.next HT.out.1 hf) (HI.out.2.2.2.next hf))
    have hLK2 := hide (fun v hb => HLK.out f.id v hnum hb)
    generalize hvf : (at_ L f.id).v = vf at hLK2 HNf
    clear hvf hf hnum hfl
    have HNl : Hid ((Img.named f.path (kidsOf T f.id)).length ≤ 127) := Nat.le_trans (List.length_filterMap_le _ _) (by rw [List.length_zip]; have := List.length_filter_le (fun x : Th => decide (x.par = f.id)) T; unfold kidsOf; omega)
    have hSd : Below W.heap.size W wr.drew ∧ wr.drew.rangeAt g (off + i * 5) f.cs := ⟨hbW.drew, HRW.out.1⟩
    refine RoundR.held_out (fun v => Below W.heap.size W v ∧ v.rangeAt g (off + i * 5) f.cs) [(true, 0), (true, 1), (true, 2), (true, 3), (true, 4), (true, 5), (true, 6), (true, 7), (true, 8), (true, 9), (true, 10), (true, 11), (true, 12), (false, 13), (false, 14), (false, 15)] (by kernel_rfl) (by kernel_rfl) rfl hSd ?_
    refine HeldO.take (.slice (some ⟨g, off, none⟩) n c) rfl rfl (fun v hv => by simp only [List.getElem_toArray, List.getElem_cons_zero]; go_simp) ?_; simp only [List.getElem_toArray, List.getElem_cons_zero, Act.put, List.setIfInBounds_toArray, List.set_cons_succ, List.set_cons_zero]
    refine HeldO.take (.slice (some ⟨g, off, none⟩) n c) rfl rfl (fun v hv => by simp only [List.getElem_toArray, List.getElem_cons_succ, List.getElem_cons_zero]; go_simp) ?_; simp only [List.getElem_toArray, List.getElem_cons_succ, List.getElem_cons_zero, Act.put, List.setIfInBounds_toArray, List.set_cons_succ, List.set_cons_zero]
    refine HeldO.take (.int .i64 i) rfl rfl (fun v hv => by simp only [List.getElem_toArray, List.getElem_cons_succ, List.getElem_cons_zero]; go_simp) ?_; simp only [List.getElem_toArray, List.getElem_cons_succ, List.getElem_cons_zero, Act.put, List.setIfInBounds_toArray, List.set_cons_succ, List.set_cons_zero]
    refine HeldO.take (.pointer (some ⟨g, off + i * 5, none⟩)) rfl rfl (fun v hv => by simp only [List.getElem_toArray, List.getElem_cons_succ, List.getElem_cons_zero]; go_simp) ?_; simp only [List.getElem_toArray, List.getElem_cons_succ, List.getElem_cons_zero, Act.put, List.setIfInBounds_toArray, List.set_cons_succ, List.set_cons_zero]
    refine HeldO.take (.pointer (some ⟨g, off + i * 5, none⟩)) rfl rfl (fun v hv => by simp only [List.getElem_toArray, List.getElem_cons_succ, List.getElem_cons_zero]; go_simp) ?_; simp only [List.getElem_toArray, List.getElem_cons_succ, List.getElem_cons_zero, Act.put, List.setIfInBounds_toArray, List.set_cons_succ, List.set_cons_zero]
    refine HeldO.take (.string ⟨f.path.toArray⟩) rfl rfl (fun v hv => by have hc := (cells5f hv.2).1; simp only [List.getElem_toArray, List.getElem_cons_succ, List.getElem_cons_zero]; go_simp) ?_; simp only [List.getElem_toArray, List.getElem_cons_succ, List.getElem_cons_zero, Act.put, List.setIfInBounds_toArray, List.set_cons_succ, List.set_cons_zero]
    refine HeldO.take (.map (some w.heap.size)) rfl rfl (fun v hv => by have hc := (hv.1.cell (p := ⟨w.heap.size + 1, 0, none⟩) HW.out.1.lt).trans HW.out.1.cell; simp only [List.getElem_toArray, List.getElem_cons_succ, List.getElem_cons_zero]; go_simp) ?_; simp only [List.getElem_toArray, List.getElem_cons_succ, List.getElem_cons_zero, Act.put, List.setIfInBounds_toArray, List.set_cons_succ, List.set_cons_zero]
    refine HeldO.take (.slice (some ⟨g, off, none⟩) n c) rfl rfl (fun v hv => by simp only [List.getElem_toArray, List.getElem_cons_succ, List.getElem_cons_zero]; go_simp) ?_; simp only [List.getElem_toArray, List.getElem_cons_succ, List.getElem_cons_zero, Act.put, List.setIfInBounds_toArray, List.set_cons_succ, List.set_cons_zero]
    refine HeldO.take (.int .i64 i) rfl rfl (fun v hv => by simp only [List.getElem_toArray, List.getElem_cons_succ, List.getElem_cons_zero]; go_simp) ?_; simp only [List.getElem_toArray, List.getElem_cons_succ, List.getElem_cons_zero, Act.put, List.setIfInBounds_toArray, List.set_cons_succ, List.set_cons_zero]
    refine HeldO.take (.pointer (some ⟨g, off + i * 5, none⟩)) rfl rfl (fun v hv => by simp only [List.getElem_toArray, List.getElem_cons_succ, List.getElem_cons_zero]; go_simp) ?_; simp only [List.getElem_toArray, List.getElem_cons_succ, List.getElem_cons_zero, Act.put, List.setIfInBounds_toArray, List.set_cons_succ, List.set_cons_zero]
    refine HeldO.take (.pointer (some ⟨g, off + i * 5 + 2, none⟩)) rfl rfl (fun v hv => by simp only [List.getElem_toArray, List.getElem_cons_succ, List.getElem_cons_zero]; go_simp) ?_; simp only [List.getElem_toArray, List.getElem_cons_succ, List.getElem_cons_zero, Act.put, List.setIfInBounds_toArray, List.set_cons_succ, List.set_cons_zero]
    refine HeldO.take (.int .u64 f.id) rfl rfl (fun v hv => by have hc := (cells5f hv.2).2.2.1; simp only [List.getElem_toArray, List.getElem_cons_succ, List.getElem_cons_zero]; go_simp) ?_; simp only [List.getElem_toArray, List.getElem_cons_succ, List.getElem_cons_zero, Act.put, List.setIfInBounds_toArray, List.set_cons_succ, List.set_cons_zero]
    refine HeldO.take vf rfl rfl (fun v hv => by have hc := hLK2.out v hv.1; simp only [List.getElem_toArray, List.getElem_cons_succ, List.getElem_cons_zero]; go_simp) ?_; simp only [List.getElem_toArray, List.getElem_cons_succ, List.getElem_cons_zero, Act.put, List.setIfInBounds_toArray, List.set_cons_succ, List.set_cons_zero]
    refine HeldO.step rfl rfl ?_
    simp only [List.getElem_toArray, List.getElem_cons_succ, List.getElem_cons_zero]
    unfold Oper.wp
    go_simp
    refine HNf.out.mono ?_
    rintro e w3 ⟨v3, rfl, h3⟩
    have HS3 := hide h3
    have HS2 := hide ((Below.refl _ wr).drew.trans h3.below)
    have hrg3 : w3.rangeAt g (off + i * 5) f.cs := fun q u hu => (h3.below.cell (p := ⟨g, off + i * 5 + q, none⟩) HRW.out.2).trans (HRW.out.1 q u hu)
    have hSf : Below W.heap.size W w3 ∧ w3.rangeAt g (off + i * 5) f.cs := ⟨hbW.trans (HS2.out.mono hbW.size), hrg3⟩
    refine ⟨hSf, ?_⟩
    refine HeldO.step rfl rfl ?_
    simp only [List.getElem_toArray, List.getElem_cons_succ, List.getElem_cons_zero]
    refine OwnR.appendWp (HI.out.2.1.step HS2.out) (Img.named f.path (kidsOf T f.id)) Fi.cs_length (fun u hu => by obtain ⟨y, _, hy⟩ := List.mem_flatMap.1 hu; exact fi_one y u hy) (by decide) infoFi rfl (by have := HNl.out; have := HI.out.1; omega) (by decide) (.tmp 30) (.tmp 43) 27 undFs (by rfl) (by rfl) (by exact RegionOwn.Holds.of_own HS3.out.own) ?_
    intro a1 c1 w4 h4 hkp
    obtain ⟨n2, hn2⟩ : ∃ n2, n2 = (l ++ Img.named f.path (kidsOf T f.id)).length := ⟨_, rfl⟩
    rw [← hn2] at h4 ⊢
    have HN2 := hide hn2
    have hnn : n2 ≤ 127 := by have := HNx.out.1.len; omega
    have hin2 : i + 1 ≤ n2 := by rw [hn2, List.length_append]; have := HI.out.1; omega
    clear hn2
    have H4 := hide h4
    refine ⟨⟨h4.below, hkp g off i f rfl HF.out hrg3⟩, ?_⟩
    have hS4 : Below W.heap.size W w4 ∧ w4.rangeAt g (off + i * 5) f.cs := ⟨h4.below, hkp g off i f rfl HF.out hrg3⟩
    clear h4 hkp hSf hSd h3
    simp only [Act.put, List.setIfInBounds_toArray, List.set_cons_succ, List.set_cons_zero]
    refine HeldO.step rfl rfl ?_
    simp only [List.getElem_toArray, List.getElem_cons_succ, List.getElem_cons_zero]
    unfold Oper.wp
    go_simp
    simp only [HeldO.wp, RoundR.Only]
    go_wp2
    go_roundw
    case rel => exact ⟨i + 1, n2, _, _, _, by simp, hin2, hnn, rfl, HN2.out, H4.out, HNx.out⟩
    case measure => simp [intOf]; omega
   ·obtain rfl : i = n := by omega
    have hiI : ¬ (i : Int) < i := by omega
    have hpl : ∀ f ∈ l, f.path.length ≤ 1000 := fun f hf => by
     have h9 := met_path (by omega) (HI.out.2.2.2.met f hf) (.inl rfl)
     unfold okPath at h9
     simp only [Bool.and_eq_true, decide_eq_true_eq] at h9
     omega
    have HSF := hide (sortFs_any HI.out.2.1 hpl (by have := HI.out.1; omega))
    have himg : ∀ l' : List Fi, l'.Perm l → Srt l' → l' = img T := fun l' hp hs => by
     have h1 := HI.out.2.2.1
     have h2 := HI.out.2.2.2
     rw [HI.out.1] at h1 h2
     exact img_is HT.out.1 HT.out.2.1 (by omega) h1 h2 hp hs
    have HIM := hide himg
    clear hpl himg
    go_wp2_with (go_at_call 26; refine HSF.out.mono ?_; rintro e w5 ⟨rfl, l', hp, hs, ho⟩; have HO5 := hide (And.intro (HIM.out l' hp hs) ho); clear hp hs ho HSF)
    obtain ⟨rfl, ho⟩ := HO5.out
    obtain ⟨g2, g3, hK, hD⟩ := HW.out
    have hDl : D < W.heap.size := (Array.getElem?_eq_some_iff.1 hK).1
    have e1 : w5.heap[D]? = some (.deferred (some [])) := (ho.below.block D hDl).trans hK
    refine ⟨by simp, .inl ⟨_, _, rfl, run_takeDeferred e1, ?_⟩⟩
    refine ⟨.slice a i c, by simp [results, Tryz.f8, go_sem], _, rfl, ?_⟩
    have h5 := ho.wider g3
    refine h5.kept (fun q hq => ?_) (h5.below.grown (grownBy_putObj' _ D (.deferred none)) h5.below.size (fun j e => by cases e; have := HX.out; omega))
    have hqD : q ≠ D := fun e => by
     rw [e] at hq
     rcases h5.own.2 with ⟨e2, _⟩ | ⟨j, cap, cur, e2, _, h3, _⟩
     ·rw [e2] at hq; cases hq
     ·rw [e2] at hq
      have hj : j = D := by injection hq
      rw [hj, e1] at h3
      cases h3
    exact putObj_other (fun e => hqD (by first | exact e | exact e.symm))
 case stop => exact fun D c pre W hD _ h _ => h.elim
end Go.Proofs.YtnbhchdaobimmaaGreatDoor
