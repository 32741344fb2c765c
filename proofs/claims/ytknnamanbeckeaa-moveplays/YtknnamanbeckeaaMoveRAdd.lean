/- Contract: the document's own adding of an operation. -/
import Derived.Test.YtknnamanbeckeaaMoveBefore
import Derived.Test.YtknnamanbeckeaaRowsAll
import Derived.Test.YtknnamanbeckeaaQuietAll
namespace Go.Mov
open Go.RowKit
theorem En.cs_length (e : En) : e.cs.length = 10 := rfl
theorem en_one (e : En) : ∀ u ∈ e.cs, u.oneCell' = true := by
  intro u hu
  unfold En.cs at hu
  simp only [List.mem_cons, List.not_mem_nil, or_false] at hu
  rcases hu with rfl | rfl | rfl | rfl | rfl | rfl | rfl | rfl | rfl | rfl <;> rfl
theorem ens_one (es : List En) : ∀ u ∈ es.flatMap En.cs, u.oneCell' = true := fun u hu => by
  obtain ⟨s, _, h2⟩ := List.mem_flatMap.1 hu
  exact en_one s u h2
theorem place_ahead {l : List En} (h : Ord l) (e : En) {i : Nat} {x : En} (hx : l[i]? = some x) : bfB x e = decide (i < place l e) := by
  obtain ⟨h1, h2⟩ := place_spec (e := e) h
  unfold bfB
  rw [Bool.eq_iff_iff, decide_eq_true_iff, decide_eq_true_iff, cmpE_lt]
  have hil := (List.getElem?_eq_some_iff.1 hx).1
  constructor
  · intro hb
    rcases Nat.lt_or_ge i (place l e) with h | h
    · exact h
    · refine absurd hb (h2 x (List.mem_iff_getElem?.2 ⟨i - place l e, ?_⟩))
      rw [List.getElem?_drop, show place l e + (i - place l e) = i by omega]
      exact hx
  · intro hi
    exact h1 x (List.mem_iff_getElem?.2 ⟨i, by rw [List.getElem?_take_of_lt hi]; exact hx⟩)
theorem known_at {l : List En} (h : Ord l) (e : En) {x : En} (hx : l[place l e]? = some x) : known l e = !bfB e x := by
  have h1 := place_ahead h e hx
  rw [decide_eq_false (Nat.lt_irrefl _)] at h1
  unfold known
  rw [hx]
  show (cmpE x e == 0) = _
  rw [bfB_gt]
  unfold bfB at h1
  rw [decide_eq_false_iff_not] at h1
  rcases cmpE_spec x e with ⟨h2, _⟩ | ⟨h2, _⟩ | ⟨h2, _⟩ <;> rw [h2] at h1 ⊢ <;> simp at h1 ⊢
theorem known_end {l : List En} {e : En} (h : l.length ≤ place l e) : known l e = false := by
  unfold known
  rw [List.getElem?_eq_none h]
end Go.Mov
namespace Go.Proofs.Ytknnamanbeckeaa
open Go.RowKit Go.Opn Go.Stamp Go.MapInt Go.Mov Go.Shelf Go.Rws
attribute [local go_sem] Oper.semAt_some
theorem sliceHiN (x : World) : (Instr.sliceAt 27 (.slice none 0 0) none (some (.int .i64 0)) none).run Try.prog x = .ok (.slice none 0 0) x := by kernel_rfl
theorem sliceLoN (x : World) : (Instr.sliceAt 27 (.slice none 0 0) (some (.int .i64 0)) none none).run Try.prog x = .ok (.slice none 0 0) x := by kernel_rfl
set_option maxRecDepth 100000 in
theorem sliceHi (g off n c k : Nat) (x : World) (hc : k ≤ c) : (Instr.sliceAt 27 (.slice (some ⟨g, off, none⟩) n c) none (some (.int .i64 (k : Int))) none).run Try.prog x = .ok (.slice (some ⟨g, off, none⟩) k c) x := by
  have h1 : (k : Int) ≤ c := by omega
  go_simp
set_option maxRecDepth 100000 in
theorem sliceLo (g off n c k : Nat) (x : World) (hk : k ≤ n) (hc : n ≤ c) : (Instr.sliceAt 27 (.slice (some ⟨g, off, none⟩) n c) (some (.int .i64 (k : Int))) none none).run Try.prog x = .ok (restV (some ⟨g, off, none⟩) n c k 10) x := by
  have h1 : (k : Int) ≤ c := by omega
  have h2 : (k : Int) ≤ n := by omega
  have h3 : (n : Int) ≤ c := by omega
  unfold restV
  by_cases e : c = k
  · subst e
    rw [if_pos rfl]
    go_simp
  · rw [if_neg e]
    have e2 : ¬ (c : Int) = k := by omega
    go_simp
theorem sliceHiA {a : Option Addr} {n c k : Nat} (h : Nice (.slice a n c)) (hk : k ≤ n) (x : World) : (Instr.sliceAt 27 (.slice a n c) none (some (.int .i64 (k : Int))) none).run Try.prog x = .ok (.slice a k c) x := by
  have hc := h.cap
  rcases h with h | ⟨g, off, n', c', h, _⟩
  · simp only [Value.slice.injEq] at h
    obtain ⟨rfl, rfl, rfl⟩ := h
    obtain rfl : k = 0 := by omega
    exact sliceHiN x
  · simp only [Value.slice.injEq] at h
    obtain ⟨rfl, rfl, rfl⟩ := h
    exact sliceHi g off n c k x (by omega)
theorem sliceLoA {a : Option Addr} {n c k : Nat} (h : Nice (.slice a n c)) (hk : k ≤ n) (x : World) : (Instr.sliceAt 27 (.slice a n c) (some (.int .i64 (k : Int))) none none).run Try.prog x = .ok (restV a n c k 10) x := by
  have hc := h.cap
  rcases h with h | ⟨g, off, n', c', h, _⟩
  · simp only [Value.slice.injEq] at h
    obtain ⟨rfl, rfl, rfl⟩ := h
    obtain rfl : k = 0 := by omega
    exact sliceLoN x
  · simp only [Value.slice.injEq] at h
    obtain ⟨rfl, rfl, rfl⟩ := h
    exact sliceLo g off n c k x (by omega) hc
theorem infoREn3 : (Try.prog.info? 36).map (fun i => (i.zero, i.size, i.bytes)) = some (some (.agg #[.int .i64 0, .int .u64 0, .int .i64 0, .int .u64 0, .int .u64 0, .string ⟨#[]⟩, .bool false, .string ⟨#[]⟩, .int .i64 0, .string ⟨#[]⟩]), 10, 104) := by kernel_rfl
/-- What the document's Add leaves: the row of the new list. -/
structure Ra (w : World) (v0 v : Value) (l : List En) (w' : World) : Prop where
  row : RowsAt En.cs 10 w' v l
  spot : ∀ g, v.ownBlock = some g → v0.ownBlock = some g ∨ (w.heap.size ≤ g ∧ g < w'.heap.size)
  nice : Nice v
  k : Below w.heap.size w w'
set_option maxHeartbeats 4000000 in
set_option maxRecDepth 100000 in
theorem radd_any (l : List En) (e : En) (v : Value) (w : World) (hR : RowsAt En.cs 10 w v l) (hN : Nice v) (ho : Ord l) (hl : l.length ≤ 100000) :
    Calls Try.prog 8 #[v, e.v] w fun r w' => ∃ v', r = .returned (.tuple #[v', .bool (!known l e)]) ∧ Ra w v v' (addE l e) w' := by
  obtain ⟨la, lc, rfl⟩ := hR.form
  obtain ⟨p, hp⟩ : ∃ p, p = place l e := ⟨_, rfl⟩
  have hpl : p ≤ l.length := hp ▸ place_le l e
  have HB := hide (fun (a b : En) v => rbefore13_any a b v)
  have HO := hide ho
  have HP := hide hp
  have HN := hide hN
  have hev : e.v = .agg e.cs.toArray := rfl
  have I0 : Hid (Below w.heap.size w (w.alloc (.cells e.cs.toArray 36)) ∧ (w.alloc (.cells e.cs.toArray 36)).heap[w.heap.size]? = some (.cells e.cs.toArray 36 (0, 0))) := ⟨(Below.refl _ w).alloc (Nat.le_refl _) _, heap_alloc_new w _⟩
  have HR := hide hR
  have hlc := hN.cap
  have hlI : (l.length : Int) ≤ lc := by omega
  clear hR ho hN hp
  go_enter Try.func8, Try.ntmps8
  go_wp2_with fail
  go_loopw [6] (fun v6 wr => ∃ i : Nat, v6 = .int .i64 i ∧ i ≤ p ∧ Hid (Below w.heap.size w wr ∧ wr.heap[w.heap.size]? = some (.cells e.cs.toArray 36 (0, 0)))) (fun v6 _ => p - (intOf v6).toNat)
  case atStart => exact ⟨0, rfl, Nat.zero_le _, I0.out⟩
  case round =>
    obtain ⟨i, rfl, hi, HI⟩ := hrel
    clear I0
    by_cases hip : i < p
    · obtain ⟨x, hx⟩ : ∃ x, l[i]? = some x := ⟨_, List.getElem?_eq_getElem (by omega)⟩
      obtain ⟨g, off, hla, _, _, hgl, hrg⟩ := HR.out.at (fun e => by rw [e] at hx; cases hx)
      subst hla
      have HX := hide hx
      have HG := hide (And.intro hgl hrg)
      have hbx := place_ahead HO.out e hx
      rw [← HP.out] at hbx
      have h0 : (0 : Int) ≤ i := by omega
      have hiI : (i : Int) < l.length := by omega
      clear hx hgl hrg
      rw [decide_eq_true hip] at hbx
      go_upto_region 2 with fail
      refine QuietCalls.region (by kernel_rfl) (by kernel_rfl) ?_
      iterate 8 (first | go_big_quiet_step (fail) | quiet_step (fail))
      refine QuietCalls.loadMid rfl 36 _ rfl g (off + i * 10) rfl x.cs _ (fun v k => rangeAt_below (HG.out.2 _ x HX.out) HG.out.1 (HI.out.1.trans (k.mono HI.out.1.size))) Try.underlying36 rfl infoREn ?_; simp only [Act.put, List.setIfInBounds_toArray, List.set_cons_succ, List.set_cons_zero]
      refine QuietCalls.load rfl 36 _ rfl _ rfl _ _ _ _ HI.out.2 Try.underlying36 rfl infoREn ?_; simp only [Act.put, List.setIfInBounds_toArray, List.set_cons_succ, List.set_cons_zero]
      refine QuietCalls.call rfl 22 #[.agg x.cs.toArray, .agg e.cs.toArray] (.bool (bfB x e)) (fun v _ => HB.out x e v) (fun v => by go_simp) ?_; simp only [Act.put, List.setIfInBounds_toArray, List.set_cons_succ, List.set_cons_zero]
      rw [hbx]
      iterate 1 (first | go_big_quiet_step (fail) | quiet_step (fail))
      refine wpQuiet_nil ?_
      intro w2 k2
      have HI2 : Hid (Below w.heap.size w w2 ∧ w2.heap[w.heap.size]? = some (.cells e.cs.toArray 36 (0, 0))) := ⟨HI.out.1.trans (k2.mono HI.out.1.size), (k2.block _ (Array.getElem?_eq_some_iff.1 HI.out.2).1).trans HI.out.2⟩
      clear k2
      clear HI
      go_wp2_with fail
      go_roundw
      case rel => exact ⟨i + 1, by simp, by omega, HI2.out⟩
      case measure => simp [intOf]; omega
    · obtain rfl : p = i := by omega
      by_cases hpl2 : p < l.length
      · obtain ⟨x, hx⟩ : ∃ x, l[p]? = some x := ⟨_, List.getElem?_eq_getElem (by omega)⟩
        obtain ⟨g, off, hla, _, _, hgl, hrg⟩ := HR.out.at (fun e => by rw [e] at hx; cases hx)
        subst hla
        have HX := hide hx
        have HG := hide (And.intro hgl hrg)
        have hbx := place_ahead HO.out e hx
        rw [← HP.out] at hbx
        have h0 : (0 : Int) ≤ p := by omega
        have hiI : (p : Int) < l.length := by omega
        clear hx hgl hrg
        have hbx2 := hbx
        rw [decide_eq_false (Nat.lt_irrefl _)] at hbx2
        have HKN0 : known l e = !bfB e x := known_at HO.out e (by rw [← HP.out]; exact HX.out)
        obtain ⟨q, hq⟩ : ∃ q, q = bfB e x := ⟨_, rfl⟩
        rw [← hq] at HKN0
        have HBq : Hid (∀ v, Calls Try.prog 22 #[.agg e.cs.toArray, .agg x.cs.toArray] v fun r w' => r = .returned (.bool q) ∧ Below v.heap.size v w') := fun v => by rw [hq]; exact HB.out e x v
        clear hbx hq
        go_upto_region 2 with fail
        refine QuietCalls.region (by kernel_rfl) (by kernel_rfl) ?_
        iterate 8 (first | go_big_quiet_step (fail) | quiet_step (fail))
        refine QuietCalls.loadMid rfl 36 _ rfl g (off + p * 10) rfl x.cs _ (fun v k => rangeAt_below (HG.out.2 _ x HX.out) HG.out.1 (HI.out.1.trans (k.mono HI.out.1.size))) Try.underlying36 rfl infoREn ?_; simp only [Act.put, List.setIfInBounds_toArray, List.set_cons_succ, List.set_cons_zero]
        refine QuietCalls.load rfl 36 _ rfl _ rfl _ _ _ _ HI.out.2 Try.underlying36 rfl infoREn ?_; simp only [Act.put, List.setIfInBounds_toArray, List.set_cons_succ, List.set_cons_zero]
        refine QuietCalls.call rfl 22 #[.agg x.cs.toArray, .agg e.cs.toArray] (.bool (bfB x e)) (fun v _ => HB.out x e v) (fun v => by go_simp) ?_; simp only [Act.put, List.setIfInBounds_toArray, List.set_cons_succ, List.set_cons_zero]
        rw [hbx2]
        iterate 1 (first | go_big_quiet_step (fail) | quiet_step (fail))
        refine wpQuiet_nil ?_
        intro w2 k2
        have HI2 : Hid (Below w.heap.size w w2 ∧ w2.heap[w.heap.size]? = some (.cells e.cs.toArray 36 (0, 0))) := ⟨HI.out.1.trans (k2.mono HI.out.1.size), (k2.block _ (Array.getElem?_eq_some_iff.1 HI.out.2).1).trans HI.out.2⟩
        clear k2
        clear HI
        have HI := HI2
        clear HI2
        go_upto_region 4 with fail
        refine QuietCalls.region (by kernel_rfl) (by kernel_rfl) ?_
        iterate 5 (first | go_big_quiet_step (fail) | quiet_step (fail))
        refine QuietCalls.load rfl 36 _ rfl _ rfl _ _ _ _ HI.out.2 Try.underlying36 rfl infoREn ?_; simp only [Act.put, List.setIfInBounds_toArray, List.set_cons_succ, List.set_cons_zero]
        iterate 3 (first | go_big_quiet_step (fail) | quiet_step (fail))
        refine QuietCalls.loadMid rfl 36 _ rfl g (off + p * 10) rfl x.cs _ (fun v k => rangeAt_below (HG.out.2 _ x HX.out) HG.out.1 (HI.out.1.trans (k.mono HI.out.1.size))) Try.underlying36 rfl infoREn ?_; simp only [Act.put, List.setIfInBounds_toArray, List.set_cons_succ, List.set_cons_zero]
        refine QuietCalls.call rfl 22 #[.agg e.cs.toArray, .agg x.cs.toArray] (.bool q) (fun v _ => HBq.out v) (fun v => by go_simp) ?_; simp only [Act.put, List.setIfInBounds_toArray, List.set_cons_succ, List.set_cons_zero]
        iterate 2 (first | go_big_quiet_step (fail) | quiet_step (fail))
        refine wpQuiet_nil ?_
        intro w2 k2
        have HI2 : Hid (Below w.heap.size w w2 ∧ w2.heap[w.heap.size]? = some (.cells e.cs.toArray 36 (0, 0))) := ⟨HI.out.1.trans (k2.mono HI.out.1.size), (k2.block _ (Array.getElem?_eq_some_iff.1 HI.out.2).1).trans HI.out.2⟩
        clear k2
        clear HI HBq hbx2
        cases q with
        | false =>
          have hkn : known l e = true := HKN0
          have HKN := hide hkn
          clear hkn HKN0
          go_wp2_with fail
          refine bodyPost_ret (results_tmp2 Try.results8 _ _ _) rfl ?_
          have e1 : addE l e = l := by unfold addE; rw [HKN.out]; rfl
          rw [HKN.out, e1]
          exact ⟨_, rfl, HR.out.below HI2.out.1, fun g h => .inl h, HN.out, HI2.out.1⟩
        | true =>
          have hkn : known l e = false := HKN0
          have HKN := hide hkn
          clear hkn HKN0
          obtain ⟨lv, hlv⟩ : ∃ lv, lv = Value.slice (some ⟨g, off, none⟩) l.length lc := ⟨_, rfl⟩
          obtain ⟨hv, hhv⟩ : ∃ hv, hv = Value.slice (some ⟨g, off, none⟩) p lc := ⟨_, rfl⟩
          obtain ⟨rv, hrv⟩ : ∃ rv, rv = restV (some ⟨g, off, none⟩) l.length lc p 10 := ⟨_, rfl⟩
          have hHi : Hid (∀ x, (Instr.sliceAt 27 lv none (some (.int .i64 (p : Int))) none).run Try.prog x = .ok hv x) := fun x => by rw [hlv, hhv]; exact sliceHiA HN.out hpl x
          have hLo : Hid (∀ x, (Instr.sliceAt 27 lv (some (.int .i64 (p : Int))) none none).run Try.prog x = .ok rv x) := fun x => by rw [hlv, hrv]; exact sliceLoA HN.out hpl x
          have HH1 : Hid (∀ x, Below w2.heap.size w2 x → RegionOwn.Holds x hv 10 p ((l.take p).flatMap En.cs) ∧ RegionOwn.Holds x rv 10 (l.length - p) ((l.drop p).flatMap En.cs)) := fun x hx => by
            have hr : RowsAt En.cs 10 x (.slice (some ⟨g, off, none⟩) l.length lc) l := HR.out.below (HI2.out.1.trans (hx.mono HI2.out.1.size))
            rw [hhv, hrv]
            exact ⟨hr.hi En.cs_length (by decide) HN.out hpl, hr.lo En.cs_length (by decide) HN.out hpl⟩
          have HE1 : Hid (∀ x, Below w2.heap.size w2 x → x.heap[w.heap.size]? = some (.cells e.cs.toArray 36 (0, 0))) := fun x hx => (hx.block _ (Array.getElem?_eq_some_iff.1 HI2.out.2).1).trans HI2.out.2
          have HONE : Hid ((∀ es : List En, ∀ u ∈ es.flatMap En.cs, u.oneCell' = true) ∧ ∀ u ∈ En.cs e, u.oneCell' = true) := ⟨ens_one, en_one e⟩
          obtain ⟨tinfo, hti, htz, hts, htb⟩ := info_parts infoREn3
          have HTI := hide (And.intro hti (And.intro htz (And.intro hts htb)))
          clear hti htz hts htb
          go_upto_region 6 with fail
          rw [← hlv]
          clear hlv hhv hrv
          refine RegionOwn.regionK 12 47 36 10 (fun i => match i with
            | 0 => RegionOwn.row 0 [] 4
            | 1 => RegionOwn.val lv
            | 2 => RegionOwn.val (.int .i64 (p : Nat))
            | 3 => RegionOwn.val hv
            | 4 => RegionOwn.row p ((l.take p).flatMap En.cs) 7
            | 5 => RegionOwn.val (.agg #[.int .i64 e.op.kind, .int .u64 e.op.tm.c, .int .i64 e.op.tm.k, .int .u64 e.op.thing, .int .u64 e.op.par, .string e.op.name, .bool e.op.dir, .string e.op.dg, .int .i64 e.op.size, .string e.h])
            | 6 => RegionOwn.row 1 (En.cs e) 7
            | 7 => RegionOwn.row (p + 1) ((l.take p).flatMap En.cs ++ En.cs e) 11
            | 8 => RegionOwn.val lv
            | 9 => RegionOwn.val (.int .i64 (p : Nat))
            | 10 => RegionOwn.val rv
            | 11 => RegionOwn.row (p + 1 + (l.length - p)) ((l.take p).flatMap En.cs ++ En.cs e ++ (l.drop p).flatMap En.cs) 12
            | _ => RegionOwn.val undef) (fun i => match i with | 0 => some 4 | 4 => some 7 | 6 => some 7 | 7 => some 11 | 11 => some 12 | _ => none) ?_ (by kernel_rfl) rfl (by kernel_rfl) ?_ ?_ ?_
          · intro i hi
            match i, hi with
            | 0, _ | 1, _ | 2, _ | 3, _ | 4, _ | 5, _ | 6, _ | 7, _ | 8, _ | 9, _ | 10, _ | 11, _ => rfl
            | i + 12, h => exact absurd h (by omega)
          · intro i p hi h
            match i, hi, h with
            | 0, _, h | 1, _, h | 2, _, h | 3, _, h | 4, _, h | 5, _, h | 6, _, h | 7, _, h | 8, _, h | 9, _, h | 10, _, h | 11, _, h => cases h
            | i + 12, h, _ => exact absurd h (by omega)
          · intro i hi y x hfr hbx hD hO K hK
            have el : RegionOwn.T y 0 = lv := hfr.at (by kernel_rfl) rfl
            have ea : RegionOwn.T y 6 = .int .i64 (p : Nat) := hfr.at (by kernel_rfl) rfl
            have ee : RegionOwn.T y 3 = .pointer (some ⟨w.heap.size, 0, none⟩) := hfr.at (by kernel_rfl) rfl
            have hsz := hbx.size
            match i, hi with
            | 0, _ =>
              refine RegionOwn.made (ob := .cells #[] 36) (v := .slice (some ⟨x.heap.size, 0, none⟩) 0 0) rfl rfl hK (World.ownsRow_made x #[] 0 hsz (Nat.zero_le _) rfl) (fun g h => by simp [Value.ownBlock] at h; omega) ?_
              clear hK hD hfr hO
              go_simp
            | 1, _ =>
              refine RegionOwn.quiet rfl rfl hK rfl rfl ?_
              clear hK hD hfr hO
              unfold RegionOwn.T at el
              go_simp
            | 2, _ =>
              refine RegionOwn.quiet rfl rfl hK rfl rfl ?_
              clear hK hD hfr hO
              unfold RegionOwn.T at ea
              go_simp
            | 3, _ =>
              refine RegionOwn.quiet rfl rfl hK rfl rfl ?_
              have q : RegionOwn.T y 36 = lv := hD 1 36 (by decide) rfl (by kernel_rfl) (.inl rfl)
              have q1 : RegionOwn.T y 37 = .int .i64 (p : Nat) := hD 2 37 (by decide) rfl (by kernel_rfl) (.inl rfl)
              have hr := hHi.out x
              clear hK hD hfr hO
              unfold RegionOwn.T at q q1
              go_simp
            | 4, _ =>
              have q : x.ownsRow w2.heap.size 36 10 (RegionOwn.T y 35) 0 [] := hD 0 35 (by decide) rfl (by kernel_rfl) (.inr rfl)
              have q1 : RegionOwn.T y 38 = hv := hD 3 38 (by decide) rfl (by kernel_rfl) (.inl rfl)
              refine RegionOwn.appended (j := 0) (k := p) (ys := (l.take p).flatMap En.cs) rfl rfl hK rfl tinfo _ 10 104 Try.underlying27 HTI.out.1 HTI.out.2.1 HTI.out.2.2.1 HTI.out.2.2.2 rfl (by decide) (by decide) rfl rfl q hsz (by rw [q1]; exact (HH1.out x hbx).1) (HONE.out.1 _) (by simp only [maxLen]; omega) (by omega) fun v z hz => ?_
              rw [Nat.zero_add] at hz
              exact hz
            | 5, _ =>
              refine RegionOwn.quiet rfl rfl hK rfl rfl ?_
              have xr := HE1.out x hbx
              have c0 := cell_of_row _ _ 0 _ _ _ xr
              have c1 := cell_of_row _ _ 1 _ _ _ xr
              have c2 := cell_of_row _ _ 2 _ _ _ xr
              have c3 := cell_of_row _ _ 3 _ _ _ xr
              have c4 := cell_of_row _ _ 4 _ _ _ xr
              have c5 := cell_of_row _ _ 5 _ _ _ xr
              have c6 := cell_of_row _ _ 6 _ _ _ xr
              have c7 := cell_of_row _ _ 7 _ _ _ xr
              have c8 := cell_of_row _ _ 8 _ _ _ xr
              have c9 := cell_of_row _ _ 9 _ _ _ xr
              simp [En.cs] at c0 c1 c2 c3 c4 c5 c6 c7 c8 c9
              clear hK hD hfr hO xr
              unfold RegionOwn.T at ee
              go_simp
            | 6, _ =>
              have q : RegionOwn.T y 40 = .agg #[.int .i64 e.op.kind, .int .u64 e.op.tm.c, .int .i64 e.op.tm.k, .int .u64 e.op.thing, .int .u64 e.op.par, .string e.op.name, .bool e.op.dir, .string e.op.dg, .int .i64 e.op.size, .string e.h] := hD 5 40 (by decide) rfl (by kernel_rfl) (.inl rfl)
              refine RegionOwn.made (ob := .cells (En.cs e).toArray 36) (v := .slice (some ⟨x.heap.size, 0, none⟩) 1 1) rfl rfl hK (RegionOwn.made_one x _ 36 10 (En.cs e).toArray hsz rfl) (fun g h => by simp [Value.ownBlock] at h; omega) ?_
              unfold En.cs
              clear hK hD hfr hO
              unfold RegionOwn.T at q
              have q' := q
              rw [Array.getD_eq_getD_getElem?] at q'
              go_simp
            | 7, _ =>
              have q : x.ownsRow w2.heap.size 36 10 (RegionOwn.T y 39) p ((l.take p).flatMap En.cs) := hD 4 39 (by decide) rfl (by kernel_rfl) (.inr rfl)
              have q1 : x.ownsRow w2.heap.size 36 10 (RegionOwn.T y 41) 1 (En.cs e) := hD 6 41 (by decide) rfl (by kernel_rfl) (.inr rfl)
              exact RegionOwn.appended (j := 4) (k := 1) (ys := En.cs e) rfl rfl hK rfl tinfo _ 10 104 Try.underlying27 HTI.out.1 HTI.out.2.1 HTI.out.2.2.1 HTI.out.2.2.2 rfl (by decide) (by decide) rfl rfl q hsz (.of_own q1) HONE.out.2 (by simp only [maxLen]; omega) (by omega) fun v z hz => hz
            | 8, _ =>
              refine RegionOwn.quiet rfl rfl hK rfl rfl ?_
              clear hK hD hfr hO
              unfold RegionOwn.T at el
              go_simp
            | 9, _ =>
              refine RegionOwn.quiet rfl rfl hK rfl rfl ?_
              clear hK hD hfr hO
              unfold RegionOwn.T at ea
              go_simp
            | 10, _ =>
              refine RegionOwn.quiet rfl rfl hK rfl rfl ?_
              have q : RegionOwn.T y 43 = lv := hD 8 43 (by decide) rfl (by kernel_rfl) (.inl rfl)
              have q1 : RegionOwn.T y 44 = .int .i64 (p : Nat) := hD 9 44 (by decide) rfl (by kernel_rfl) (.inl rfl)
              have hr := hLo.out x
              clear hK hD hfr hO
              unfold RegionOwn.T at q q1
              go_simp
            | 11, _ =>
              have q : x.ownsRow w2.heap.size 36 10 (RegionOwn.T y 42) (p + 1) ((l.take p).flatMap En.cs ++ En.cs e) := hD 7 42 (by decide) rfl (by kernel_rfl) (.inr rfl)
              have q1 : RegionOwn.T y 45 = rv := hD 10 45 (by decide) rfl (by kernel_rfl) (.inl rfl)
              exact RegionOwn.appended (j := 7) (k := l.length - p) (ys := (l.drop p).flatMap En.cs) rfl rfl hK rfl tinfo _ 10 104 Try.underlying27 HTI.out.1 HTI.out.2.1 HTI.out.2.2.1 HTI.out.2.2.2 rfl (by decide) (by decide) rfl rfl q hsz (by rw [q1]; exact (HH1.out x hbx).2) (HONE.out.1 _) (by simp only [maxLen]; omega) (by omega) fun v z hz => hz
            | i + 12, h => exact absurd h (by omega)
          · intro y x hfr hbx hD
            have q : x.ownsRow w2.heap.size 36 10 (RegionOwn.T y 46) (p + 1 + (l.length - p)) ((l.take p).flatMap En.cs ++ En.cs e ++ (l.drop p).flatMap En.cs) := hD 11 46 (by decide) rfl (fun i hi e => by cases e; omega)
            obtain ⟨va, vc, hv'⟩ := RegionOwn.own_form q
            have hl47 : List.range 47 = [0, 1, 2, 3, 4, 5, 6, 7, 8, 9, 10, 11, 12, 13, 14, 15, 16, 17, 18, 19, 20, 21, 22, 23, 24, 25, 26, 27, 28, 29, 30, 31, 32, 33, 34, 35, 36, 37, 38, 39, 40, 41, 42, 43, 44, 45, 46] := by decide
            have hdf : y.defers = [] := hfr.defers
            have hrow : RowsAt En.cs 10 x (RegionOwn.T y 46) (addE l e) := by
              have e1 : addE l e = l.take p ++ e :: l.drop p := by
                unfold addE
                rw [HKN.out, HP.out]; rfl
              have e2 : (addE l e).length = p + 1 + (l.length - p) := by rw [e1, List.length_append, List.length_cons, List.length_take, List.length_drop]; omega
              refine RowsAt.of_own (base := w2.heap.size) (e := 36) En.cs_length ?_
              rw [e2, e1, List.flatMap_append, List.flatMap_cons, ← List.append_assoc]
              exact q
            have HG46 : Hid (∀ g, (RegionOwn.T y 46).ownBlock = some g → w.heap.size ≤ g ∧ g < x.heap.size) := fun g hg => ⟨Nat.le_trans HI2.out.1.size (q.lt g hg).1, (q.lt g hg).2⟩
            have HF := hide (And.intro hrow (And.intro (Nice.of_own q) (HI2.out.1.trans (hbx.mono HI2.out.1.size))))
            rw [hv'] at HF HG46
            rw [RegionOwn.act_lit y 47 (hfr.size.trans rfl), hl47, hdf]
            simp only [List.map_cons, List.map_nil, List.drop_succ_cons, List.drop_zero, hv']
            clear hD hfr q hrow hl47 hdf hv'
            go_wp2
            refine bodyPost_ret (results_tmp2 Try.results8 _ _ _) rfl ?_
            rw [HKN.out]
            exact ⟨_, rfl, HF.out.1, fun g h => .inr (HG46.out g h), HF.out.2.1, HF.out.2.2⟩
      · have hie : p = l.length := by omega
        have hkn : known l e = false := known_end (by rw [← HP.out]; omega)
        have HKN := hide hkn
        clear hkn hie
        have hnl : ¬ (p : Int) < l.length := by omega
        go_upto_region 2 with fail
        refine QuietCalls.region (by kernel_rfl) (by kernel_rfl) ?_
        iterate 12 (first | go_big_quiet_step (fail) | quiet_step (fail))
        refine wpQuiet_nil ?_
        intro w2 k2
        have HI2 : Hid (Below w.heap.size w w2 ∧ w2.heap[w.heap.size]? = some (.cells e.cs.toArray 36 (0, 0))) := ⟨HI.out.1.trans (k2.mono HI.out.1.size), (k2.block _ (Array.getElem?_eq_some_iff.1 HI.out.2).1).trans HI.out.2⟩
        clear k2
        clear HI
        have HI := HI2
        clear HI2
        go_upto_region 4 with fail
        refine QuietCalls.region (by kernel_rfl) (by kernel_rfl) ?_
        iterate 13 (first | go_big_quiet_step (fail) | quiet_step (fail))
        refine wpQuiet_nil ?_
        intro w2 k2
        have HI2 : Hid (Below w.heap.size w w2 ∧ w2.heap[w.heap.size]? = some (.cells e.cs.toArray 36 (0, 0))) := ⟨HI.out.1.trans (k2.mono HI.out.1.size), (k2.block _ (Array.getElem?_eq_some_iff.1 HI.out.2).1).trans HI.out.2⟩
        clear k2
        clear HI
        obtain ⟨lv, hlv⟩ : ∃ lv, lv = Value.slice la l.length lc := ⟨_, rfl⟩
        obtain ⟨hv, hhv⟩ : ∃ hv, hv = Value.slice la p lc := ⟨_, rfl⟩
        obtain ⟨rv, hrv⟩ : ∃ rv, rv = restV la l.length lc p 10 := ⟨_, rfl⟩
        have hHi : Hid (∀ x, (Instr.sliceAt 27 lv none (some (.int .i64 (p : Int))) none).run Try.prog x = .ok hv x) := fun x => by rw [hlv, hhv]; exact sliceHiA HN.out hpl x
        have hLo : Hid (∀ x, (Instr.sliceAt 27 lv (some (.int .i64 (p : Int))) none none).run Try.prog x = .ok rv x) := fun x => by rw [hlv, hrv]; exact sliceLoA HN.out hpl x
        have HH1 : Hid (∀ x, Below w2.heap.size w2 x → RegionOwn.Holds x hv 10 p ((l.take p).flatMap En.cs) ∧ RegionOwn.Holds x rv 10 (l.length - p) ((l.drop p).flatMap En.cs)) := fun x hx => by
          have hr : RowsAt En.cs 10 x (.slice la l.length lc) l := HR.out.below (HI2.out.1.trans (hx.mono HI2.out.1.size))
          rw [hhv, hrv]
          exact ⟨hr.hi En.cs_length (by decide) HN.out hpl, hr.lo En.cs_length (by decide) HN.out hpl⟩
        have HE1 : Hid (∀ x, Below w2.heap.size w2 x → x.heap[w.heap.size]? = some (.cells e.cs.toArray 36 (0, 0))) := fun x hx => (hx.block _ (Array.getElem?_eq_some_iff.1 HI2.out.2).1).trans HI2.out.2
        have HONE : Hid ((∀ es : List En, ∀ u ∈ es.flatMap En.cs, u.oneCell' = true) ∧ ∀ u ∈ En.cs e, u.oneCell' = true) := ⟨ens_one, en_one e⟩
        obtain ⟨tinfo, hti, htz, hts, htb⟩ := info_parts infoREn3
        have HTI := hide (And.intro hti (And.intro htz (And.intro hts htb)))
        clear hti htz hts htb
        go_upto_region 6 with fail
        rw [← hlv]
        clear hlv hhv hrv
        refine RegionOwn.regionK 12 47 36 10 (fun i => match i with
          | 0 => RegionOwn.row 0 [] 4
          | 1 => RegionOwn.val lv
          | 2 => RegionOwn.val (.int .i64 (p : Nat))
          | 3 => RegionOwn.val hv
          | 4 => RegionOwn.row p ((l.take p).flatMap En.cs) 7
          | 5 => RegionOwn.val (.agg #[.int .i64 e.op.kind, .int .u64 e.op.tm.c, .int .i64 e.op.tm.k, .int .u64 e.op.thing, .int .u64 e.op.par, .string e.op.name, .bool e.op.dir, .string e.op.dg, .int .i64 e.op.size, .string e.h])
          | 6 => RegionOwn.row 1 (En.cs e) 7
          | 7 => RegionOwn.row (p + 1) ((l.take p).flatMap En.cs ++ En.cs e) 11
          | 8 => RegionOwn.val lv
          | 9 => RegionOwn.val (.int .i64 (p : Nat))
          | 10 => RegionOwn.val rv
          | 11 => RegionOwn.row (p + 1 + (l.length - p)) ((l.take p).flatMap En.cs ++ En.cs e ++ (l.drop p).flatMap En.cs) 12
          | _ => RegionOwn.val undef) (fun i => match i with | 0 => some 4 | 4 => some 7 | 6 => some 7 | 7 => some 11 | 11 => some 12 | _ => none) ?_ (by kernel_rfl) rfl (by kernel_rfl) ?_ ?_ ?_
        · intro i hi
          match i, hi with
          | 0, _ | 1, _ | 2, _ | 3, _ | 4, _ | 5, _ | 6, _ | 7, _ | 8, _ | 9, _ | 10, _ | 11, _ => rfl
          | i + 12, h => exact absurd h (by omega)
        · intro i p hi h
          match i, hi, h with
          | 0, _, h | 1, _, h | 2, _, h | 3, _, h | 4, _, h | 5, _, h | 6, _, h | 7, _, h | 8, _, h | 9, _, h | 10, _, h | 11, _, h => cases h
          | i + 12, h, _ => exact absurd h (by omega)
        · intro i hi y x hfr hbx hD hO K hK
          have el : RegionOwn.T y 0 = lv := hfr.at (by kernel_rfl) rfl
          have ea : RegionOwn.T y 6 = .int .i64 (p : Nat) := hfr.at (by kernel_rfl) rfl
          have ee : RegionOwn.T y 3 = .pointer (some ⟨w.heap.size, 0, none⟩) := hfr.at (by kernel_rfl) rfl
          have hsz := hbx.size
          match i, hi with
          | 0, _ =>
            refine RegionOwn.made (ob := .cells #[] 36) (v := .slice (some ⟨x.heap.size, 0, none⟩) 0 0) rfl rfl hK (World.ownsRow_made x #[] 0 hsz (Nat.zero_le _) rfl) (fun g h => by simp [Value.ownBlock] at h; omega) ?_
            clear hK hD hfr hO
            go_simp
          | 1, _ =>
            refine RegionOwn.quiet rfl rfl hK rfl rfl ?_
            clear hK hD hfr hO
            unfold RegionOwn.T at el
            go_simp
          | 2, _ =>
            refine RegionOwn.quiet rfl rfl hK rfl rfl ?_
            clear hK hD hfr hO
            unfold RegionOwn.T at ea
            go_simp
          | 3, _ =>
            refine RegionOwn.quiet rfl rfl hK rfl rfl ?_
            have q : RegionOwn.T y 36 = lv := hD 1 36 (by decide) rfl (by kernel_rfl) (.inl rfl)
            have q1 : RegionOwn.T y 37 = .int .i64 (p : Nat) := hD 2 37 (by decide) rfl (by kernel_rfl) (.inl rfl)
            have hr := hHi.out x
            clear hK hD hfr hO
            unfold RegionOwn.T at q q1
            go_simp
          | 4, _ =>
            have q : x.ownsRow w2.heap.size 36 10 (RegionOwn.T y 35) 0 [] := hD 0 35 (by decide) rfl (by kernel_rfl) (.inr rfl)
            have q1 : RegionOwn.T y 38 = hv := hD 3 38 (by decide) rfl (by kernel_rfl) (.inl rfl)
            refine RegionOwn.appended (j := 0) (k := p) (ys := (l.take p).flatMap En.cs) rfl rfl hK rfl tinfo _ 10 104 Try.underlying27 HTI.out.1 HTI.out.2.1 HTI.out.2.2.1 HTI.out.2.2.2 rfl (by decide) (by decide) rfl rfl q hsz (by rw [q1]; exact (HH1.out x hbx).1) (HONE.out.1 _) (by simp only [maxLen]; omega) (by omega) fun v z hz => ?_
            rw [Nat.zero_add] at hz
            exact hz
          | 5, _ =>
            refine RegionOwn.quiet rfl rfl hK rfl rfl ?_
            have xr := HE1.out x hbx
            have c0 := cell_of_row _ _ 0 _ _ _ xr
            have c1 := cell_of_row _ _ 1 _ _ _ xr
            have c2 := cell_of_row _ _ 2 _ _ _ xr
            have c3 := cell_of_row _ _ 3 _ _ _ xr
            have c4 := cell_of_row _ _ 4 _ _ _ xr
            have c5 := cell_of_row _ _ 5 _ _ _ xr
            have c6 := cell_of_row _ _ 6 _ _ _ xr
            have c7 := cell_of_row _ _ 7 _ _ _ xr
            have c8 := cell_of_row _ _ 8 _ _ _ xr
            have c9 := cell_of_row _ _ 9 _ _ _ xr
            simp [En.cs] at c0 c1 c2 c3 c4 c5 c6 c7 c8 c9
            clear hK hD hfr hO xr
            unfold RegionOwn.T at ee
            go_simp
          | 6, _ =>
            have q : RegionOwn.T y 40 = .agg #[.int .i64 e.op.kind, .int .u64 e.op.tm.c, .int .i64 e.op.tm.k, .int .u64 e.op.thing, .int .u64 e.op.par, .string e.op.name, .bool e.op.dir, .string e.op.dg, .int .i64 e.op.size, .string e.h] := hD 5 40 (by decide) rfl (by kernel_rfl) (.inl rfl)
            refine RegionOwn.made (ob := .cells (En.cs e).toArray 36) (v := .slice (some ⟨x.heap.size, 0, none⟩) 1 1) rfl rfl hK (RegionOwn.made_one x _ 36 10 (En.cs e).toArray hsz rfl) (fun g h => by simp [Value.ownBlock] at h; omega) ?_
            unfold En.cs
            clear hK hD hfr hO
            unfold RegionOwn.T at q
            have q' := q
            rw [Array.getD_eq_getD_getElem?] at q'
            go_simp
          | 7, _ =>
            have q : x.ownsRow w2.heap.size 36 10 (RegionOwn.T y 39) p ((l.take p).flatMap En.cs) := hD 4 39 (by decide) rfl (by kernel_rfl) (.inr rfl)
            have q1 : x.ownsRow w2.heap.size 36 10 (RegionOwn.T y 41) 1 (En.cs e) := hD 6 41 (by decide) rfl (by kernel_rfl) (.inr rfl)
            exact RegionOwn.appended (j := 4) (k := 1) (ys := En.cs e) rfl rfl hK rfl tinfo _ 10 104 Try.underlying27 HTI.out.1 HTI.out.2.1 HTI.out.2.2.1 HTI.out.2.2.2 rfl (by decide) (by decide) rfl rfl q hsz (.of_own q1) HONE.out.2 (by simp only [maxLen]; omega) (by omega) fun v z hz => hz
          | 8, _ =>
            refine RegionOwn.quiet rfl rfl hK rfl rfl ?_
            clear hK hD hfr hO
            unfold RegionOwn.T at el
            go_simp
          | 9, _ =>
            refine RegionOwn.quiet rfl rfl hK rfl rfl ?_
            clear hK hD hfr hO
            unfold RegionOwn.T at ea
            go_simp
          | 10, _ =>
            refine RegionOwn.quiet rfl rfl hK rfl rfl ?_
            have q : RegionOwn.T y 43 = lv := hD 8 43 (by decide) rfl (by kernel_rfl) (.inl rfl)
            have q1 : RegionOwn.T y 44 = .int .i64 (p : Nat) := hD 9 44 (by decide) rfl (by kernel_rfl) (.inl rfl)
            have hr := hLo.out x
            clear hK hD hfr hO
            unfold RegionOwn.T at q q1
            go_simp
          | 11, _ =>
            have q : x.ownsRow w2.heap.size 36 10 (RegionOwn.T y 42) (p + 1) ((l.take p).flatMap En.cs ++ En.cs e) := hD 7 42 (by decide) rfl (by kernel_rfl) (.inr rfl)
            have q1 : RegionOwn.T y 45 = rv := hD 10 45 (by decide) rfl (by kernel_rfl) (.inl rfl)
            exact RegionOwn.appended (j := 7) (k := l.length - p) (ys := (l.drop p).flatMap En.cs) rfl rfl hK rfl tinfo _ 10 104 Try.underlying27 HTI.out.1 HTI.out.2.1 HTI.out.2.2.1 HTI.out.2.2.2 rfl (by decide) (by decide) rfl rfl q hsz (by rw [q1]; exact (HH1.out x hbx).2) (HONE.out.1 _) (by simp only [maxLen]; omega) (by omega) fun v z hz => hz
          | i + 12, h => exact absurd h (by omega)
        · intro y x hfr hbx hD
          have q : x.ownsRow w2.heap.size 36 10 (RegionOwn.T y 46) (p + 1 + (l.length - p)) ((l.take p).flatMap En.cs ++ En.cs e ++ (l.drop p).flatMap En.cs) := hD 11 46 (by decide) rfl (fun i hi e => by cases e; omega)
          obtain ⟨va, vc, hv'⟩ := RegionOwn.own_form q
          have hl47 : List.range 47 = [0, 1, 2, 3, 4, 5, 6, 7, 8, 9, 10, 11, 12, 13, 14, 15, 16, 17, 18, 19, 20, 21, 22, 23, 24, 25, 26, 27, 28, 29, 30, 31, 32, 33, 34, 35, 36, 37, 38, 39, 40, 41, 42, 43, 44, 45, 46] := by decide
          have hdf : y.defers = [] := hfr.defers
          have hrow : RowsAt En.cs 10 x (RegionOwn.T y 46) (addE l e) := by
            have e1 : addE l e = l.take p ++ e :: l.drop p := by
              unfold addE
              rw [HKN.out, HP.out]; rfl
            have e2 : (addE l e).length = p + 1 + (l.length - p) := by rw [e1, List.length_append, List.length_cons, List.length_take, List.length_drop]; omega
            refine RowsAt.of_own (base := w2.heap.size) (e := 36) En.cs_length ?_
            rw [e2, e1, List.flatMap_append, List.flatMap_cons, ← List.append_assoc]
            exact q
          have HG46 : Hid (∀ g, (RegionOwn.T y 46).ownBlock = some g → w.heap.size ≤ g ∧ g < x.heap.size) := fun g hg => ⟨Nat.le_trans HI2.out.1.size (q.lt g hg).1, (q.lt g hg).2⟩
          have HF := hide (And.intro hrow (And.intro (Nice.of_own q) (HI2.out.1.trans (hbx.mono HI2.out.1.size))))
          rw [hv'] at HF HG46
          rw [RegionOwn.act_lit y 47 (hfr.size.trans rfl), hl47, hdf]
          simp only [List.map_cons, List.map_nil, List.drop_succ_cons, List.drop_zero, hv']
          clear hD hfr q hrow hl47 hdf hv'
          go_wp2
          refine bodyPost_ret (results_tmp2 Try.results8 _ _ _) rfl ?_
          rw [HKN.out]
          exact ⟨_, rfl, HF.out.1, fun g h => .inr (HG46.out g h), HF.out.2.1, HF.out.2.2⟩
end Go.Proofs.Ytknnamanbeckeaa
