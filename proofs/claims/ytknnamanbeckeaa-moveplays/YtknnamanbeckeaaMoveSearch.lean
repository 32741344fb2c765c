/- Contract: where an operation stands among those that were done. -/
import Derived.Test.YtknnamanbeckeaaMoveCompare
import Derived.Test.YtknnamanbeckeaaOpAll
import Derived.Deep.Cut
namespace Go.Mov
open Go.RowKit
/-- A slice value of what was done. -/
def StepsAt (w : World) (v : Value) (ss : List Sp) : Prop :=
  (v = .slice none 0 0 ∧ ss = []) ∨ ∃ g off cap, v = .slice (some ⟨g, off, none⟩) ss.length cap ∧ g < w.heap.size ∧ ss.length ≤ cap ∧ ∀ i s, ss[i]? = some s → w.rangeAt g (off + i * 17) s.cs
theorem StepsAt.below {w w' : World} {v : Value} {ss : List Sp} (h : StepsAt w v ss) (k : Below w.heap.size w w') : StepsAt w' v ss := by
  rcases h with h | ⟨g, off, cap, h1, h2, h3, h4⟩
  · exact .inl h
  · refine .inr ⟨g, off, cap, h1, Nat.lt_of_lt_of_le h2 k.size, h3, fun i s hs j u hu => ?_⟩
    rw [← h4 i s hs j u hu]
    exact k.cell (p := ⟨g, off + i * 17 + j, none⟩) h2
theorem StepsAt.form {w : World} {v : Value} {ss : List Sp} (h : StepsAt w v ss) : ∃ a c, v = .slice a ss.length c := by
  rcases h with ⟨rfl, rfl⟩ | ⟨g, off, cap, rfl, _⟩
  · exact ⟨_, _, rfl⟩
  · exact ⟨_, _, rfl⟩
theorem StepsAt.at {w : World} {a : Option Addr} {n c : Nat} {ss : List Sp} (h : StepsAt w (.slice a n c) ss) (hn : ss ≠ []) : ∃ g off, a = some ⟨g, off, none⟩ ∧ n = ss.length ∧ ss.length ≤ c ∧ g < w.heap.size ∧ ∀ i s, ss[i]? = some s → w.rangeAt g (off + i * 17) s.cs := by
  rcases h with ⟨_, h⟩ | ⟨g, off, cap, h1, h2, h3, h4⟩
  · exact absurd h hn
  · simp only [Value.slice.injEq] at h1
    obtain ⟨rfl, rfl, rfl⟩ := h1
    exact ⟨g, off, rfl, rfl, h3, h2, h4⟩
theorem ord_at {ss : List Sp} (ho : Ord (ss.map (·.en))) {i j : Nat} {a b : Sp} (ha : ss[i]? = some a) (hb : ss[j]? = some b) (h : i < j) : Bf a.en b.en := by
  obtain ⟨h1, rfl⟩ := List.getElem?_eq_some_iff.1 ha
  obtain ⟨h2, rfl⟩ := List.getElem?_eq_some_iff.1 hb
  have := List.pairwise_iff_getElem.1 ho i j (by simpa using h1) (by simpa using h2) h
  simpa using this
theorem place_of {ss : List Sp} {e : En} (ho : Ord (ss.map (·.en))) {n : Nat} (hn : n ≤ ss.length) (h1 : ∀ t s, t < n → ss[t]? = some s → cmpE s.en e < 0) (h2 : ∀ t s, n ≤ t → ss[t]? = some s → ¬ cmpE s.en e < 0) : place (ss.map (·.en)) e = n := by
  obtain ⟨p1, p2⟩ := place_spec (e := e) ho
  have hp := place_le (ss.map (·.en)) e
  generalize hq : place (ss.map (·.en)) e = p at *
  rw [List.length_map] at hp
  rcases Nat.lt_trichotomy p n with h | h | h
  · exfalso
    have hlt : p < ss.length := by omega
    have e1 : ss[p]? = some ss[p] := List.getElem?_eq_getElem hlt
    refine p2 ss[p].en ?_ (cmpE_lt.1 (h1 p _ h e1))
    rw [List.mem_iff_getElem?]
    exact ⟨0, by rw [List.getElem?_drop, List.getElem?_map, Nat.add_zero, e1]; rfl⟩
  · exact h
  · exfalso
    have hlt : n < ss.length := by omega
    have e1 : ss[n]? = some ss[n] := List.getElem?_eq_getElem hlt
    refine h2 n _ (Nat.le_refl _) e1 (cmpE_lt.2 (p1 ss[n].en ?_))
    rw [List.mem_iff_getElem?]
    exact ⟨n, by rw [List.getElem?_take_of_lt h, List.getElem?_map, e1]; rfl⟩
theorem Sp.cs_length (s : Sp) : s.cs.length = 17 := rfl
theorem cs_at : ∀ {ss : List Sp} {i : Nat} {s : Sp}, ss[i]? = some s → ∀ j u, s.cs[j]? = some u → (ss.flatMap Sp.cs)[i * 17 + j]? = some u
  | [], i, s, h, _, _, _ => by simp at h
  | a :: r, 0, s, h, j, u, hu => by
    simp only [List.getElem?_cons_zero, Option.some.injEq] at h
    subst h
    rw [List.flatMap_cons, List.getElem?_append_left]
    · simpa using hu
    · have := (List.getElem?_eq_some_iff.1 hu).1
      simpa using this
  | a :: r, i + 1, s, h, j, u, hu => by
    simp only [List.getElem?_cons_succ] at h
    rw [List.flatMap_cons, List.getElem?_append_right (by rw [Sp.cs_length]; omega), Sp.cs_length, show (i + 1) * 17 + j - 17 = i * 17 + j by omega]
    exact cs_at h j u hu
theorem StepsAt.of_own {w : World} {base e : Nat} {v : Value} {ss : List Sp} (h : w.ownsRow base e 17 v ss.length (ss.flatMap Sp.cs)) : StepsAt w v ss := by
  rcases h.2 with ⟨h1, h2⟩ | ⟨g, cap, cur, h1, h2, h3, h4, h5, h6, h7⟩
  · exact .inl ⟨h1, List.length_eq_zero_iff.1 h2⟩
  · refine .inr ⟨g, 0, cap, h1, (Array.getElem?_eq_some_iff.1 h3).1, h4, fun i s hs j u hu => ?_⟩
    rw [cell_of_row _ _ _ _ _ _ h3]
    have hlt : i * 17 + j < ss.length * 17 := by
      have a1 := (List.getElem?_eq_some_iff.1 hs).1
      have a2 := (List.getElem?_eq_some_iff.1 hu).1
      rw [Sp.cs_length] at a2
      omega
    have := cs_at hs j u hu
    rw [← h7, List.getElem?_take_of_lt hlt] at this
    simpa using this
end Go.Mov
namespace Go.Proofs.Ytknnamanbeckeaa
open Go.RowKit Go.Opn Go.Stamp Go.MapInt Go.Mov
attribute [local go_sem] Oper.semAt_some
set_option maxRecDepth 100000 in
theorem searchCmp_any (s : Sp) (e : En) (w : World) : Calls Try.prog 24 #[s.v, e.v] w fun r w' => r = .returned (.int .i64 (cmpE s.en e)) ∧ Below w.heap.size w w' := by
  have HC := hide (compareE_any s.en e)
  obtain ⟨⟨⟨k1, ⟨c1, t1⟩, th1, pa1, nm1, d1, g1, z1⟩, h1⟩, was⟩ := s
  obtain ⟨⟨k2, ⟨c2, t2⟩, th2, pa2, nm2, d2, g2, z2⟩, h2⟩ := e
  unfold Sp.v Sp.x
  unfold En.v at *
  dsimp only at *
  generalize cmpE _ _ = E at *
  generalize was.getD Th.zero = x
  generalize was.isSome = is
  go_enter Try.func24, Try.ntmps24
  go_wp2_with (go_at_call 25; refine (HC.out _).mono ?_; rintro e w1 ⟨rfl, k⟩)
  go_ret
  exact ⟨rfl, (((Below.refl _ w).alloc (Nat.le_refl _) _).alloc (by simp) _).trans (k.mono (by simp; omega))⟩
theorem rangeAt_below {w v : World} {g o : Nat} {cs : List Value} (h : w.rangeAt g o cs) (hg : g < w.heap.size) (k : Below w.heap.size w v) : v.rangeAt g o cs := fun j u hu => (k.cell (p := ⟨g, o + j, none⟩) hg).trans (h j u hu)
theorem infoSp : (Try.prog.info? 75).map (·.size) = some 17 := by kernel_rfl
theorem infoEn : (Try.prog.info? 45).map (·.size) = some 10 := by kernel_rfl
set_option maxHeartbeats 4000000 in
set_option maxRecDepth 100000 in
theorem search_any (v : Value) (ss : List Sp) (e : En) (w : World) (hR : StepsAt w v ss) (hn : ss.length ≤ 1000000) (ho : Ord (ss.map (·.en))) :
    Calls Try.prog 23 #[v, e.v, .func (.func 24) #[] #[]] w fun r w' =>
      r = .returned (.tuple #[.int .i64 (place (ss.map (·.en)) e : Nat), .bool (known (ss.map (·.en)) e)]) ∧ Below w.heap.size w w' := by
  obtain ⟨a, c, rfl⟩ := hR.form
  obtain ⟨ec, hec⟩ : ∃ ec, ec = e.v := ⟨_, rfl⟩
  have HC : Hid (∀ (s : Sp) (w : World), Calls Try.prog 24 #[.agg s.cs.toArray, .agg e.cs.toArray] w fun r w' => r = .returned (.int .i64 (cmpE s.en e)) ∧ Below w.heap.size w w') := fun s w => searchCmp_any s e w
  have hev : e.v = .agg (e.cs.toArray) := rfl
  have HR := hide hR
  have HO := hide ho
  have I0 : Hid (Below w.heap.size w (w.alloc (.cells e.cs.toArray 45)) ∧ (w.alloc (.cells e.cs.toArray 45)).heap[w.heap.size]? = some (.cells e.cs.toArray 45 (0, 0))) := ⟨(Below.refl _ w).alloc (Nat.le_refl _) _, heap_alloc_new w _⟩
  clear hR ho hec
  go_enter Try.func23, Try.ntmps23
  go_wp2_with fail
  go_loopw [9, 10] (fun v9 v10 wr => ∃ lo hi : Nat, v9 = .int .i64 lo ∧ v10 = .int .i64 hi ∧ lo ≤ hi ∧ hi ≤ ss.length ∧ Hid ((Below w.heap.size w wr ∧ wr.heap[w.heap.size]? = some (.cells e.cs.toArray 45 (0, 0))) ∧ (∀ t s, t < lo → ss[t]? = some s → cmpE s.en e < 0) ∧ (∀ t s, hi ≤ t → ss[t]? = some s → ¬ cmpE s.en e < 0))) (fun v9 v10 _ => (intOf v10).toNat - (intOf v9).toNat)
  case atStart => exact ⟨0, ss.length, rfl, rfl, Nat.zero_le _, Nat.le_refl _, I0.out, (fun t s h => absurd h (Nat.not_lt_zero _)), fun t s h h2 => absurd (List.getElem?_eq_some_iff.1 h2).1 (by omega)⟩
  case round =>
    obtain ⟨lo, hi, rfl, rfl, hlh, hhi, HI⟩ := hrel
    clear I0
    by_cases hlt : lo < hi
    · have hlt' : (lo : Int) < hi := by omega
      obtain ⟨g, off, ha, _, hcap, hgl, hrg⟩ := HR.out.at (fun e => by rw [e] at hhi; simp at hhi; omega)
      subst ha
      obtain ⟨s, hs⟩ : ∃ s, ss[(lo + hi) / 2]? = some s := ⟨_, List.getElem?_eq_getElem (by omega)⟩
      have HS := hide hs
      have HG := hide (And.intro hgl hrg)
      clear hs hgl hrg
      go_upto_region 5 with fail
      refine QuietCalls.region (by kernel_rfl) (by kernel_rfl) ?_
      have hm0 : (0 : Int) ≤ (lo + hi) / 2 := by omega
      have hm1 : ((lo : Int) + hi) / 2 < ss.length := by omega
      iterate 4 (first | go_big_quiet_step (fail) | quiet_step (fail))
      refine QuietCalls.loadMid rfl 75 _ rfl g (off + (lo + hi) / 2 * 17) rfl s.cs _ (fun v k => rangeAt_below (HG.out.2 _ s HS.out) HG.out.1 (HI.out.1.1.trans (k.mono HI.out.1.1.size))) Try.underlying75 rfl infoSp ?_; simp only [Act.put, List.setIfInBounds_toArray, List.set_cons_succ, List.set_cons_zero]
      refine QuietCalls.load rfl 45 _ rfl _ rfl _ _ _ _ HI.out.1.2 Try.underlying45 rfl infoEn ?_; simp only [Act.put, List.setIfInBounds_toArray, List.set_cons_succ, List.set_cons_zero]
      refine QuietCalls.call rfl 24 #[.agg s.cs.toArray, .agg e.cs.toArray] (.int .i64 (cmpE s.en e)) (fun v _ => HC.out s v) (fun v => by go_simp) ?_; simp only [Act.put, List.setIfInBounds_toArray, List.set_cons_succ, List.set_cons_zero]
      by_cases hc : cmpE s.en e < 0
      · iterate 1 (first | go_big_quiet_step (fail) | quiet_step (fail))
        refine wpQuiet_nil ?_
        intro w2 k2
        have HI2 : Hid (Below w.heap.size w w2 ∧ w2.heap[w.heap.size]? = some (.cells e.cs.toArray 45 (0, 0))) := ⟨HI.out.1.1.trans (k2.mono HI.out.1.1.size), (k2.block _ (Array.getElem?_eq_some_iff.1 HI.out.1.2).1).trans HI.out.1.2⟩
        clear k2
        go_wp2_with fail
        go_roundw
        case rel =>
          refine ⟨(lo + hi) / 2 + 1, hi, by congr 1 <;> omega, rfl, by omega, hhi, HI2.out, fun t s' ht hs' => ?_, HI.out.2.2⟩
          by_cases e1 : t = (lo + hi) / 2
          · subst e1
            rw [HS.out] at hs'
            cases hs'
            exact hc
          · exact cmpE_lt.2 ((ord_at HO.out hs' HS.out (by omega)).trans (cmpE_lt.1 hc))
        case measure => simp only [intOf]; omega
      · iterate 1 (first | go_big_quiet_step (fail) | quiet_step (fail))
        refine wpQuiet_nil ?_
        intro w2 k2
        have HI2 : Hid (Below w.heap.size w w2 ∧ w2.heap[w.heap.size]? = some (.cells e.cs.toArray 45 (0, 0))) := ⟨HI.out.1.1.trans (k2.mono HI.out.1.1.size), (k2.block _ (Array.getElem?_eq_some_iff.1 HI.out.1.2).1).trans HI.out.1.2⟩
        clear k2
        go_wp2_with fail
        go_roundw
        case rel =>
          refine ⟨lo, (lo + hi) / 2, rfl, by congr 1 <;> omega, by omega, by omega, HI2.out, HI.out.2.1, fun t s' ht hs' hb => ?_⟩
          by_cases e1 : t = (lo + hi) / 2
          · subst e1
            rw [HS.out] at hs'
            cases hs'
            exact hc hb
          · exact hc (cmpE_lt.2 ((ord_at HO.out HS.out hs' (by omega)).trans (cmpE_lt.1 hb)))
        case measure => simp only [intOf]; omega
    · obtain rfl : hi = lo := by omega
      have HP : Hid (place (ss.map (·.en)) e = hi) := place_of HO.out hhi HI.out.2.1 HI.out.2.2
      by_cases hlt2 : hi < ss.length
      · have hlt2' : (hi : Int) < ss.length := by omega
        obtain ⟨g, off, ha, _, hcap, hgl, hrg⟩ := HR.out.at (fun e => by rw [e] at hlt2; simp at hlt2)
        subst ha
        obtain ⟨s, hs⟩ : ∃ s, ss[hi]? = some s := ⟨_, List.getElem?_eq_getElem hlt2⟩
        have HK : Hid (known (ss.map (·.en)) e = (cmpE s.en e == 0)) := by show _ = _; unfold known; rw [HP.out, List.getElem?_map, hs]; rfl
        have HS := hide hs
        have HG := hide (And.intro hgl hrg)
        clear hs hgl hrg
        go_upto_region 8 with fail
        refine QuietCalls.region (by kernel_rfl) (by kernel_rfl) ?_
        iterate 9 (first | go_big_quiet_step (fail) | quiet_step (fail))
        refine QuietCalls.loadMid rfl 75 _ rfl g (off + hi * 17) rfl s.cs _ (fun v k => rangeAt_below (HG.out.2 _ s HS.out) HG.out.1 (HI.out.1.1.trans (k.mono HI.out.1.1.size))) Try.underlying75 rfl infoSp ?_; simp only [Act.put, List.setIfInBounds_toArray, List.set_cons_succ, List.set_cons_zero]
        refine QuietCalls.load rfl 45 _ rfl _ rfl _ _ _ _ HI.out.1.2 Try.underlying45 rfl infoEn ?_; simp only [Act.put, List.setIfInBounds_toArray, List.set_cons_succ, List.set_cons_zero]
        refine QuietCalls.call rfl 24 #[.agg s.cs.toArray, .agg e.cs.toArray] (.int .i64 (cmpE s.en e)) (fun v _ => HC.out s v) (fun v => by go_simp) ?_; simp only [Act.put, List.setIfInBounds_toArray, List.set_cons_succ, List.set_cons_zero]
        generalize cmpE s.en e = C at *
        iterate 4 (first | go_big_quiet_step (fail) | quiet_step (fail))
        refine wpQuiet_nil ?_
        intro w2 k2
        go_wp2_with fail
        go_ret2
        exact ⟨by rw [HP.out, HK.out]; rfl, HI.out.1.1.trans (k2.mono HI.out.1.1.size)⟩
      · have hlt2' : ¬ (hi : Int) < ss.length := by omega
        have HK : Hid (known (ss.map (·.en)) e = false) := by show _ = _; unfold known; rw [HP.out, List.getElem?_map, List.getElem?_eq_none (by omega)]; rfl
        go_upto_region 8 with fail
        refine QuietCalls.region (by kernel_rfl) (by kernel_rfl) ?_
        iterate 16 (first | go_big_quiet_step (fail) | quiet_step (fail))
        refine wpQuiet_nil ?_
        intro w2 k2
        go_wp2_with fail
        go_ret2
        exact ⟨by rw [HP.out, HK.out]; rfl, HI.out.1.1.trans (k2.mono HI.out.1.1.size)⟩
end Go.Proofs.Ytknnamanbeckeaa
