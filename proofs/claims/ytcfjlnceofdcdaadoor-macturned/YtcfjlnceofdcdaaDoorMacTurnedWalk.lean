/- The walk of the statement on tags of which a byte is another one. -/
import Derived.Test.YtcfjlnceofdcdaaDoorMacChecksWalk
namespace Go.ByteRow
open Go.RowKit Go.Sha
/-- b[m] = d. -/
theorem Has.set {base g n cap m : Nat} {w : World} {l : List UInt8} {d : UInt8} (h : Has base w (.slice (some ⟨g, 0, none⟩) n cap) l) (hm : m < l.length) : Has base (w.setCell ⟨g, m, none⟩ (.int .u8 d.toNat)) (.slice (some ⟨g, 0, none⟩) n cap) (l.set m d) := by
  rcases h with ⟨h, _⟩ | ⟨g', cap', h1, h2, h3, h4, h5, h6⟩
  · cases h
  · simp only [Value.slice.injEq, Option.some.injEq, Addr.mk.injEq] at h1
    obtain ⟨⟨rfl, -, -⟩, hn, rfl⟩ := h1
    refine .inr ⟨g, cap, by simp [hn], h2, by simpa [World.setCell] using h3, by rw [List.length_set]; exact h4, fun j c hj => ?_, fun j hj => ?_⟩
    · by_cases e : j = m
      · subst e
        rw [List.getElem?_set_self hm] at hj
        cases hj
        obtain ⟨u, hu⟩ := Option.isSome_iff_exists.1 (h6 j (by omega)).1
        exact World.cell?_setCell_same w _ _ hu
      · rw [List.getElem?_set_ne (fun e2 => e e2.symm)] at hj
        rw [World.cell?_setCell_other w _ _ _ (by intro e2; simp only [Addr.mk.injEq, true_and, and_true] at e2; exact e e2.symm)]
        exact h5 j c hj
    · refine ⟨?_, by rw [World.frozen?_setCell]; exact (h6 j hj).2⟩
      obtain ⟨u, hu⟩ := Option.isSome_iff_exists.1 (h6 j hj).1
      obtain ⟨u', hu'⟩ := cell?_setCell_some (p := ⟨g, m, none⟩) (x := .int .u8 d.toNat) hu
      rw [hu']; rfl
theorem Has.cell {base g n cap m : Nat} {w : World} {l : List UInt8} {d : UInt8} (h : Has base w (.slice (some ⟨g, 0, none⟩) n cap) l) (hm : l[m]? = some d) : w.cell? ⟨g, m, none⟩ = some (.int .u8 d.toNat) ∧ w.frozen? ⟨g, m, none⟩ = false ∧ base ≤ g := by
  have hl := (List.getElem?_eq_some_iff.1 hm).1
  rcases h with ⟨h, _⟩ | ⟨g', cap', h1, h2, h3, h4, h5, h6⟩
  · cases h
  · simp only [Value.slice.injEq, Option.some.injEq, Addr.mk.injEq] at h1
    obtain ⟨⟨rfl, -, -⟩, hn, rfl⟩ := h1
    exact ⟨h5 m d hm, (h6 m (by omega)).2, h2⟩
end Go.ByteRow
namespace Go.Proofs.YtcfjlnceofdcdaaDoor
open Go.RowKit
open Go.Sort
set_option maxRecDepth 100000 in
set_option maxHeartbeats 1000000 in
theorem macTurned_any (s : ByteArray) (at' : Int) (c : UInt8) (w : World) (hs : s.size ≤ maxLen) (hst : Steps w) :
    Calls Tryd.prog 6 #[.string s, .int .i64 at', .int .u8 c.toNat] w fun e w' => e = .returned (.bool true) ∧ Below w.heap.size w w' := by
  have hpos := hst.pos
  have HS : Hid (Steps w) := hst
  clear hst
  obtain ⟨m, hm, hand⟩ := Mac.and_small at' 31 (by omega)
  have hand2 : bits .and .i64 at' 31 = (m : Int) := hand
  clear hand
  have hcs := Sha.cut400_size s
  generalize hS : Sha.cut400 s = S at hcs
  have HC : Hid (Sha.cut400 s = S) := hS
  clear hS
  have HK : Hid ((Mac.keysOf Mac.seedS 1)[0]? = some (Mac.keyOf Mac.seedS 0)) := Mac.keysOf_at Mac.seedS 1 0 (by decide)
  have hks := Mac.keyOf_size Mac.seedS 0
  generalize hK : Mac.keyOf Mac.seedS 0 = K at HK hks
  clear hK
  go_enter Tryd.func6, Tryd.ntmps6
  go_wp2_with fail
  refine (newRing_any Mac.seedS 1 _ (by omega) (by decide) HS.out).mono ?_
  rintro e w1 ⟨v, rfl, hr1, hb1⟩
  have H1 : Hid (Mac.RingAt w1 v (Mac.keysOf Mac.seedS 1) ∧ Below w.heap.size w w1 ∧ Steps w1) := ⟨hr1, hb1, Steps.by hb1 hpos HS.out⟩
  clear hr1 hb1
  go_wp2_with (go_at_call 9; refine (cut400_any _ _ (by assumption)).mono ?_; rintro e w1 ⟨rfl, rfl⟩; rw [HC.out])
  refine (tag_in v _ 0 K S _ H1.out.1 HK.out (by omega) (by omega) H1.out.2.2).mono ?_
  rintro e w2 ⟨rfl, hb2⟩
  have H2 : Hid (Mac.RingAt w2 v (Mac.keysOf Mac.seedS 1) ∧ Below w.heap.size w w2 ∧ Steps w2) := ⟨H1.out.1.below hb2 (Nat.le_refl _), H1.out.2.1.trans (hb2.mono H1.out.2.1.size), Steps.by hb2 H1.out.2.2.pos H1.out.2.2⟩
  clear hb2 H1
  obtain ⟨G, hG⟩ : ∃ G : ByteArray, G = ⟨(Sha.tag K.data.toList S.data.toList).toArray⟩ := ⟨_, rfl⟩
  rw [← hG]
  have HG : Hid (Sha.tag K.data.toList S.data.toList = G.data.toList) := by show _ = _; rw [hG]
  have hgs : G.size = 32 := by rw [hG, MacW.size, Sha.tag_length]
  clear hG
  go_wp2_with fail
  refine (awake_any _ H2.out.2.2).mono ?_
  rintro e w3 ⟨rfl, hb3⟩
  have H3 : Hid (Mac.RingAt w3 v (Mac.keysOf Mac.seedS 1) ∧ Below w.heap.size w w3 ∧ Steps w3) := ⟨H2.out.1.below hb3 (Nat.le_refl _), H2.out.2.1.trans (hb3.mono H2.out.2.1.size), Steps.by hb3 H2.out.2.2.pos H2.out.2.2⟩
  clear hb3 H2
  obtain ⟨x, hx⟩ : ∃ x, G.data.toList[m]? = some x := ⟨_, List.getElem?_eq_getElem (by rw [show G.data.toList.length = G.size by simp]; omega)⟩
  have HX : Hid (G.data.toList[m]? = some x) := hx
  clear hx
  obtain ⟨y, hy⟩ : ∃ y, y = x ^^^ c := ⟨_, rfl⟩
  have hxor := Sha.xor_byte x c
  rw [← hy] at hxor
  have HY : Hid (y = x ^^^ c) := hy
  clear hy
  have hm2 : (m : Int) < 32 := by omega
  go_wp2_with (refine ByteRow.of_string _ rfl 9 40 5 _ rfl G rfl under9 under46 under5 ?_
               intro vb wb hhb hbb
               obtain ⟨g, cap, rfl, hcap⟩ := hhb.form (by rw [ne_eq, ← List.length_eq_zero_iff, show G.data.toList.length = G.size by simp]; omega)
               rw [show G.data.toList.length = G.size by simp, hgs] at hhb hcap ⊢
               obtain ⟨hcm, hfm, hgm⟩ := hhb.cell HX.out
               have HB : Hid (ByteRow.Has w3.heap.size wb (.slice (some ⟨g, 0, none⟩) 32 cap) G.data.toList ∧ Below w3.heap.size w3 wb ∧ w3.heap.size ≤ g) := ⟨hhb, hbb, hgm⟩
               clear hhb hbb)
  obtain ⟨L, hL⟩ : ∃ L, L = G.data.toList.set m y := ⟨_, rfl⟩
  have hGl : G.data.toList.length = 32 := by rw [show G.data.toList.length = G.size by simp, hgs]
  have hLl : L.length = 32 := by rw [hL, List.length_set, hGl]
  have hln : L ≠ [] := by rw [ne_eq, ← List.length_eq_zero_iff, hLl]; omega
  have HW0 : Hid (ByteRow.Has w3.heap.size (wb.setCell ⟨g, m, none⟩ (.int .u8 y.toNat)) (.slice (some ⟨g, 0, none⟩) 32 cap) L ∧ Below w3.heap.size w3 (wb.setCell ⟨g, m, none⟩ (.int .u8 y.toNat))) := by
    rw [hL]
    exact ⟨HB.out.1.set (by omega), HB.out.2.1.setCell (p := ⟨g, m, none⟩) HB.out.2.2 _⟩
  generalize wb.setCell ⟨g, m, none⟩ (.int .u8 y.toNat) = W at HW0
  have HWr : Hid (Mac.RingAt W v (Mac.keysOf Mac.seedS 1) ∧ Steps W) := ⟨H3.out.1.below HW0.out.2 (Nat.le_refl _), Steps.by HW0.out.2 H3.out.2.2.pos H3.out.2.2⟩
  have HWb : Hid (Below w.heap.size w W) := H3.out.2.1.trans (HW0.out.2.mono H3.out.2.1.size)
  have HL : Hid (∀ w', (∃ p : Regrown, w' = grow (redrawn W p.d) p.os) → ByteRow.Has w3.heap.size w' (.slice (some ⟨g, 0, none⟩) 32 cap) L) := by
    rintro w' ⟨p, rfl⟩
    exact HW0.out.1.below (below_regrown W p.d p.os) (Nat.le_refl _)
  have HF : Hid (∀ d os, Calls Tryd.prog 9 #[.string s] (grow (redrawn W d) os) fun e w'' => e = .returned (.string S) ∧ ∃ p : Regrown, w'' = grow (redrawn W p.d) p.os) := by
    intro d os
    refine Calls.regrown_of ((cut400_any s _ hs).mono ?_)
    rintro e w' ⟨rfl, rfl⟩
    exact ⟨by rw [HC.out], Below.refl _ _⟩
  have HCk : Hid (∀ (t : ByteArray) (q : Bool), decide (t.data.toList = G.data.toList) = q → ∀ d os, Calls Tryd.prog 15 #[v, .int .i64 0, .string S, .string t] (grow (redrawn W d) os) fun e w'' => e = .returned (.bool q) ∧ ∃ p : Regrown, w'' = grow (redrawn W p.d) p.os) := by
    intro t q hq d os
    have hbl := below_regrown W d os
    refine Calls.regrown_of ((check_in v _ 0 K S t _ (HWr.out.1.below hbl (Nat.le_refl _)) HK.out (by omega) (by omega) (Steps.by hbl HWr.out.2.pos HWr.out.2)).mono ?_)
    rintro e w' ⟨rfl, hb⟩
    exact ⟨by rw [HG.out, hq], hb⟩
  obtain ⟨t1, ht1⟩ : ∃ t1 : ByteArray, t1 = ⟨L.toArray⟩ := ⟨_, rfl⟩
  have HI : Hid ((⟨L.toArray⟩ : ByteArray) = t1) := ht1.symm
  have hdec : decide (t1.data.toList = G.data.toList) = decide (c = 0) := by
    refine decide_eq_decide.2 ?_
    rw [ht1]
    show L = G.data.toList ↔ _
    rw [hL, HY.out]
    constructor
    · intro e
      have h1 : (G.data.toList.set m (x ^^^ c))[m]? = some (x ^^^ c) := List.getElem?_set_self (by omega)
      rw [e, HX.out] at h1
      have h2 : x = x ^^^ c := Option.some.inj h1
      have h3 : x ^^^ (x ^^^ c) = 0 := (Sha.xor_zero _ _).2 h2
      rw [← UInt8.xor_assoc, UInt8.xor_self, UInt8.zero_xor] at h3
      exact h3
    · rintro rfl
      rw [UInt8.xor_zero]
      obtain ⟨hlt, he⟩ := List.getElem?_eq_some_iff.1 HX.out
      rw [← he]
      exact List.set_getElem_self hlt
  clear ht1
  have HC2 : Hid (∀ d os, Calls Tryd.prog 15 #[v, .int .i64 0, .string S, .string (G.extract 1 32)] (grow (redrawn W d) os) fun e w'' => e = .returned (.bool false) ∧ ∃ p : Regrown, w'' = grow (redrawn W p.d) p.os) := by
    refine HCk.out _ _ (decide_eq_false fun e => ?_)
    have h1 := congrArg List.length e
    have hsz : ∀ b : ByteArray, b.data.toList.length = b.size := fun b => by simp
    rw [hGl, hsz, ByteArray.size_extract] at h1
    omega
  have HC3 : Hid (∀ d os, Calls Tryd.prog 15 #[v, .int .i64 0, .string S, .string (G ++ ⟨#[120]⟩)] (grow (redrawn W d) os) fun e w'' => e = .returned (.bool false) ∧ ∃ p : Regrown, w'' = grow (redrawn W p.d) p.os) := by
    refine HCk.out _ _ (decide_eq_false fun e => ?_)
    have h1 := congrArg List.length e
    rw [Sha.app_list, List.length_append, hGl] at h1
    exact absurd h1 (by decide)
  have HC10 : Hid (∀ d os, Calls Tryd.prog 15 #[v, .int .i64 0, .string S, .string t1] (grow (redrawn W d) os) fun e w'' => e = .returned (.bool (decide (c = 0))) ∧ ∃ p : Regrown, w'' = grow (redrawn W p.d) p.os) := HCk.out _ _ hdec
  clear HCk hdec HW0 HWr hL HY hLl hGl HX hcm hfm hgm HB H3 hxor HK HG HC HS
  refine wp_region_quiet_below (by kernel_rfl) (by kernel_rfl) ?_
  by_cases hc0 : c = 0
  · have HC1 : Hid (∀ d os, Calls Tryd.prog 15 #[v, .int .i64 0, .string S, .string t1] (grow (redrawn W d) os) fun e w'' => e = .returned (.bool true) ∧ ∃ p : Regrown, w'' = grow (redrawn W p.d) p.os) := by
      have h := HC10.out
      rw [decide_eq_true hc0] at h
      exact h
    have hcb : ((c.toNat : Int) == 0) = true := by rw [hc0]; rfl
    clear HC10 hc0
    quiet_step (fail)
    quiet_step (fail)
    quiet_step (exact HF.out _ _)
    quiet_step (fail)
    refine ByteRow.quiet_to_string rfl 40 9 5 _ rfl L rfl HL.out hln under46 under5 under9 ?_
    rw [HI.out]
    quiet_step (exact HC1.out _ _)
    quiet_step (fail)
    quiet_step (fail)
    quiet_step (fail)
    quiet_step (fail)
    quiet_step (fail)
    quiet_step (fail)
    quiet_step (exact HF.out _ _)
    quiet_step (fail)
    quiet_step (fail)
    quiet_step (exact HC2.out _ _)
    quiet_step (fail)
    quiet_step (fail)
    quiet_step (fail)
    quiet_step (fail)
    quiet_step (fail)
    quiet_step (exact HF.out _ _)
    quiet_step (fail)
    quiet_step (fail)
    quiet_step (exact HC3.out _ _)
    quiet_step (fail)
    quiet_step (fail)
    quiet_step (fail)
    refine wpQuiet_nil ?_
    rintro _ ⟨⟨dq, osq⟩, rfl⟩
    go_wp2
    go_ret
    exact ⟨rfl, HWb.out.trans ((below_regrown W dq osq).mono HWb.out.size)⟩
  · have HC1 : Hid (∀ d os, Calls Tryd.prog 15 #[v, .int .i64 0, .string S, .string t1] (grow (redrawn W d) os) fun e w'' => e = .returned (.bool false) ∧ ∃ p : Regrown, w'' = grow (redrawn W p.d) p.os) := by
      have h := HC10.out
      rw [decide_eq_false hc0] at h
      exact h
    have hcb : ((c.toNat : Int) == 0) = false := by
      rw [beq_eq_false_iff_ne]
      intro e
      exact hc0 (UInt8.toNat_inj.1 (by simpa using e))
    clear HC10 hc0
    quiet_step (fail)
    quiet_step (fail)
    quiet_step (exact HF.out _ _)
    quiet_step (fail)
    refine ByteRow.quiet_to_string rfl 40 9 5 _ rfl L rfl HL.out hln under46 under5 under9 ?_
    rw [HI.out]
    quiet_step (exact HC1.out _ _)
    quiet_step (fail)
    quiet_step (fail)
    quiet_step (fail)
    quiet_step (fail)
    quiet_step (fail)
    quiet_step (fail)
    quiet_step (exact HF.out _ _)
    quiet_step (fail)
    quiet_step (fail)
    quiet_step (exact HC2.out _ _)
    quiet_step (fail)
    quiet_step (fail)
    quiet_step (fail)
    quiet_step (fail)
    quiet_step (fail)
    quiet_step (exact HF.out _ _)
    quiet_step (fail)
    quiet_step (fail)
    quiet_step (exact HC3.out _ _)
    quiet_step (fail)
    quiet_step (fail)
    quiet_step (fail)
    refine wpQuiet_nil ?_
    rintro _ ⟨⟨dq, osq⟩, rfl⟩
    go_wp2
    go_ret
    exact ⟨rfl, HWb.out.trans ((below_regrown W dq osq).mono HWb.out.size)⟩
end Go.Proofs.YtcfjlnceofdcdaaDoor
