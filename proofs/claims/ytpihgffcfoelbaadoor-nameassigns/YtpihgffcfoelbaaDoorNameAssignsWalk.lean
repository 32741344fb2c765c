/- The walk of the statement on names that are assigned. -/
import Derived.Test.YtpihgffcfoelbaaDoorNameKeepsWalk
import Derived.Deep.RegionLaw
import Derived.Laws.AppendOwn
namespace Go.Proofs.YtpihgffcfoelbaaDoor
open Go.RowKit Go.Names
/-- Things with names in a row of one's own, and their names in another. -/
structure Gs (W : World) (vg vs : Value) (gs : List (Int × ByteArray)) (ss : List ByteArray) (w : World) : Prop where
  g : w.ownsRow W.heap.size 31 2 vg gs.length (gvCells gs)
  s : w.ownsRow W.heap.size 9 1 vs ss.length (ss.map Value.string)
  below : Below W.heap.size W w
theorem Gs.ne {W w : World} {vg vs : Value} {gs : List (Int × ByteArray)} {ss : List ByteArray} (h : Gs W vg vs gs ss w) : vs.ownBlock ≠ vg.ownBlock ∨ (vs.ownBlock = none ∧ vg.ownBlock = none) := by
  cases e1 : vs.ownBlock with
  | none =>
    cases e2 : vg.ownBlock with
    | none => exact .inr ⟨rfl, rfl⟩
    | some j => exact .inl (by simp)
  | some i =>
    refine .inl fun e => ?_
    obtain ⟨_, c1, z1, h1⟩ := own_at h.s e1
    obtain ⟨_, c2, z2, h2⟩ := own2_at h.g e.symm
    rw [h1] at h2
    cases h2
theorem Gs.alloc {W w : World} {vg vs : Value} {gs : List (Int × ByteArray)} {ss : List ByteArray} (h : Gs W vg vs gs ss w) (o : Obj) : Gs W vg vs gs ss (w.alloc o) := ⟨h.g.alloc o, h.s.alloc o, h.below.alloc h.below.size _⟩
theorem Gs.drew {W w : World} {vg vs : Value} {gs : List (Int × ByteArray)} {ss : List ByteArray} (h : Gs W vg vs gs ss w) : Gs W vg vs gs ss w.drew := ⟨h.g, h.s, h.below.drew⟩
theorem Gs.made (W : World) : Gs W (.slice (some ⟨W.heap.size, 0, none⟩) 0 0) (.slice (some ⟨W.heap.size + 1, 0, none⟩) 0 0) [] [] ((W.alloc (.cells #[] 31)).alloc (.cells #[] 9)) := by
  have h := Gr.made W
  refine ⟨h.own.alloc _, ?_, h.below.alloc h.below.size _⟩
  have h2 := World.ownsRow_made (base := W.heap.size) (e := 9) (size := 1) (W.alloc (.cells #[] 31)) #[] 0 (by simp) (Nat.zero_le _) rfl
  simpa using h2
theorem Gs.appendG {W w : World} {a0 : Option Addr} {n0 c0 : Nat} {vs : Value} {gs : List (Int × ByteArray)} {ss : List ByteArray} (h : Gs W (.slice a0 n0 c0) vs gs ss w) (g : Int × ByteArray) (hlen : gs.length ≤ 1000) {tt : TypeId} {w2 : World} (hw2 : w2 = w.alloc (.cells #[.int .u64 g.1, .string g.2] tt))
    {ops : Array Oper} {o : Oper} {a : Act} {K : Act → World → Prop} {Q : Exit → Act → World → Prop} {E : Prop} (hg : o.guard = none) (s y : Operand)
    (ho : o.op = .call { callee := .builtin .append, args := #[s, y], argTypes := #[28, 28] }) (hs : a.eval s = .slice a0 n0 c0) (hy : a.eval y = .slice (some ⟨w.heap.size, 0, none⟩) 1 1)
    (k : ∀ a1 c1 w1, Gs W (.slice a1 (gs.length + 1) c1) vs (gs ++ [g]) ss w1 → K (a.put o.dst (.slice a1 (gs.length + 1) c1)) w1) :
    if Region.wanted o (yielded ops a.tmps) = true then Oper.wp Tryd.prog o a w2 K Q else E := by
  subst hw2
  have hw : Region.wanted o (yielded ops a.tmps) = true := by simp [Region.wanted, hg]
  rw [if_pos hw]
  obtain ⟨i, hi, hz0, hz1, hz2⟩ := info_parts gvInfo
  have hsz := h.below.size
  refine wp_append_own _ s y 28 ho W.heap.size 31 i (.agg #[.int .u64 0, .string ⟨#[]⟩]) 2 24 gvUnder hi hz0 hz1 hz2 rfl (by decide) _ _ _ hs (h.g.alloc _) ⟨w.heap.size, 0, none⟩ 1 1 [.int .u64 g.1, .string g.2] hy rfl (cells2_new _ _ _ _) (fun u hu => by simp at hu; rcases hu with rfl | rfl <;> rfl) (by unfold maxLen; omega) (by omega) (by simp; omega) ?_
  intro v' w1 hown hgrow _
  obtain ⟨a1, c1, rfl⟩ := own2_slice hown
  refine k a1 c1 w1 ⟨?_, (h.s.alloc _).kept hgrow ?_, (h.below.alloc hsz _).grown hgrow (by simp; omega) fun j e => (own2_at h.g e).1⟩
  · rw [List.length_append, gvCells_append]
    exact hown
  · rcases h.ne with e | ⟨e, _⟩
    · exact .inr e
    · exact .inl e
theorem Gs.appendS {W w : World} {a0 : Option Addr} {n0 c0 : Nat} {vg : Value} {gs : List (Int × ByteArray)} {ss : List ByteArray} (h : Gs W vg (.slice a0 n0 c0) gs ss w) (x : ByteArray) (hlen : ss.length ≤ 1000) {tt : TypeId} {w2 : World} (hw2 : w2 = w.alloc (.cells #[.string x] tt))
    {ops : Array Oper} {o : Oper} {a : Act} {K : Act → World → Prop} {Q : Exit → Act → World → Prop} {E : Prop} (hg : o.guard = none) (s y : Operand)
    (ho : o.op = .call { callee := .builtin .append, args := #[s, y], argTypes := #[27, 27] }) (hs : a.eval s = .slice a0 n0 c0) (hy : a.eval y = .slice (some ⟨w.heap.size, 0, none⟩) 1 1)
    (k : ∀ a1 c1 w1, Gs W vg (.slice a1 (ss.length + 1) c1) gs (ss ++ [x]) w1 → K (a.put o.dst (.slice a1 (ss.length + 1) c1)) w1) :
    if Region.wanted o (yielded ops a.tmps) = true then Oper.wp Tryd.prog o a w2 K Q else E := by
  subst hw2
  have hw : Region.wanted o (yielded ops a.tmps) = true := by simp [Region.wanted, hg]
  rw [if_pos hw]
  obtain ⟨i, hi, hz0, hz1, hz2⟩ := info_parts nInfo9
  have hsz := h.below.size
  refine wp_append_own _ s y 27 ho W.heap.size 9 i (.string ⟨#[]⟩) 1 16 nUnderS hi hz0 hz1 hz2 rfl (by decide) _ _ _ hs (h.s.alloc _) ⟨w.heap.size, 0, none⟩ 1 1 [.string x] hy rfl (cell_new _ _ _) (fun u hu => by simp at hu; subst hu; rfl) (by unfold maxLen; omega) (by omega) (by simp; omega) ?_
  intro v' w1 hown hgrow _
  obtain ⟨a1, c1, rfl⟩ := own_slice hown
  refine k a1 c1 w1 ⟨(h.g.alloc _).kept hgrow ?_, ?_, (h.below.alloc hsz _).grown hgrow (by simp; omega) fun j e => (own_at h.s e).1⟩
  · rcases h.ne with e | ⟨_, e⟩
    · exact .inr (Ne.symm e)
    · exact .inl e
  · rw [List.length_append, List.map_append]
    exact hown
theorem few_take {xs : List ByteArray} {i : Nat} {x : ByteArray} (h : xs[i]? = some x) : (xs.take (i + 1)).map few = (xs.take i).map few ++ [few x] := by
  rw [List.take_add_one, h]
  simp
set_option maxRecDepth 100000 in
set_option maxHeartbeats 2000000 in
theorem nameAssigns_any (v : Value) (xs : List ByteArray) (w : World) (hr : StrRow.Reads w v xs) (hxl : xs.length ≤ maxLen) (hv : Vt w) :
    Calls Tryd.prog 4 #[v] w fun e w' => e = .returned (.bool true) ∧ Below w.heap.size w w' := by
  obtain ⟨va, vc, rfl⟩ := hr.form
  have hxl' : (xs.length : Int) ≤ 9223372036854775807 := by unfold maxLen at hxl; omega
  have HR := hide hr
  have HV := hide hv
  clear hv hr hxl
  obtain ⟨n, hn⟩ : ∃ n, n = min xs.length 60 := ⟨_, rfl⟩
  have hn1 : n ≤ xs.length := by omega
  have hn2 : n ≤ 60 := by omega
  go_enter Tryd.func4, Tryd.ntmps4
  go_wp2
  go_loopw [3, 4, 5] (fun vg vs vi wr => ∃ (i : Nat) (ga sa : Option Addr) (gc sc : Nat), i ≤ n ∧ vg = .slice ga i gc ∧ vs = .slice sa i sc ∧ vi = .int .i64 i ∧ Hid (Gs w (.slice ga i gc) (.slice sa i sc) (giv (xs.take i)) ((xs.take i).map few) wr)) (fun _ _ vi _ => 1000 - (intOf vi).toNat)
  case atStart => exact ⟨0, _, _, _, _, Nat.zero_le _, rfl, rfl, rfl, Gs.made w⟩
  case round =>
    obtain ⟨i, ga, sa, gc, sc, hi, rfl, rfl, rfl, HH⟩ := hrel
    have hsl : Hid ((giv (xs.take i)).length = i) := by show _ = _; rw [giv_length, List.length_take_of_le (by omega)]
    have hsl2 : Hid (((xs.take i).map few).length = i) := by show _ = _; rw [List.length_map, List.length_take_of_le (by omega)]
    by_cases hlt : i < n
    · have hlt' : (i : Int) < xs.length := by omega
      have hlt2 : (i : Int) < 60 := by omega
      obtain ⟨x, hx⟩ : ∃ x, xs[i]? = some x := ⟨_, List.getElem?_eq_getElem (by omega)⟩
      have hnext := hide (giv_take hx)
      have hnext2 := hide (few_take hx)
      have HF := hide (few_any x)
      obtain ⟨b, off, cp, hvv, hcp, hb⟩ := HR.out.at (fun e => by rw [e] at hx; cases hx)
      cases hvv
      have hcp' : (xs.length : Int) ≤ vc := by omega
      have hcl : Hid (∀ w1 : World, Below w.heap.size w w1 → w1.cell? ⟨b, off + i, none⟩ = some (.string x)) := fun w1 h => (h.cell (p := ⟨b, off + i, none⟩) (by show b < _; exact hb)).trans (HR.out.cell hx)
      have hcell := hcl.out _ HH.out.below
      have hbr : b < wr.heap.size := Nat.lt_of_lt_of_le hb HH.out.below.size
      have hbn : ¬ b = wr.heap.size := by omega
      clear hb hx
      generalize few x = y at hnext hnext2 HF
      have hwr : Hid (IntKind.u64.wrap (IntKind.i64.wrap (16 + (i : Int))) = ((16 + i : Nat) : Int)) := by
        show _ = _
        rw [Sha.wrap_i64 _ (by omega) (by omega)]
        simp [IntKind.wrap, IntKind.bits, IntKind.signed]
        omega
      go_upto_region 5 with (fail)
      have hcellD := hcl.out _ HH.out.drew.below
      have hcellA : ∀ o, ((wr.alloc o).drew).cell? ⟨b, off + i, none⟩ = some (.string x) := fun o => hcl.out _ (HH.out.alloc o).drew.below
      have hcellB : ∀ o, ((wr.drew).alloc o).cell? ⟨b, off + i, none⟩ = some (.string x) := fun o => hcl.out _ (HH.out.drew.alloc o).below
      have hcellC : ∀ o, (wr.alloc o).cell? ⟨b, off + i, none⟩ = some (.string x) := fun o => hcl.out _ (HH.out.alloc o).below
      go_region_law (first
        | (refine HH.out.drew.appendG (((16 + i : Nat) : Int), y) (by rw [hsl.out]; omega) (tt := 31) (by first | rfl | (rw [hwr.out]; rfl)) (by rfl) (.tmp 22) (.tmp 32) (by rfl) (by rfl) (by rfl) ?_
           intro a1 c1 w1 h1
           rw [← hnext.out, hsl.out] at h1
           rw [hsl.out]
           have H1 := hide h1
           have hcell1 := hcl.out _ h1.below
           clear h1)
        | (refine H1.out.appendS y (by rw [hsl2.out]; omega) (tt := 9) (by rfl) (by rfl) (.tmp 34) (.tmp 40) (by rfl) (by rfl) (by rfl) ?_
           intro a2 c2 w2 h2
           rw [← hnext2.out, hsl2.out] at h2
           rw [hsl2.out]
           have H2 := hide h2
           clear h2)
        | (go_simp; go_at_call 7; refine (HF.out _).mono ?_; rintro e w9 ⟨rfl, h9⟩; replace h9 := h9.symm; subst h9))
      all_goals
        clear hcell hcellD hcellA hcellB hcellC H1
        go_wp2
        go_roundw
        case rel => exact ⟨i + 1, a1, a2, c1, c2, by omega, rfl, rfl, by go_num, H2.out⟩
        case measure => simp [intOf]; omega
    · have hin : i = n := by omega
      subst hin
      have hcase : ((i : Int) < xs.length ∧ ¬ (i : Int) < 60) ∨ ¬ (i : Int) < xs.length := by omega
      have hvr := HV.out.below HV.out.size HH.out.below
      have HA := hide (assignAll_any _ _ _ hvr (Gvs.of_own rfl HH.out.g) (by rw [hsl.out]; omega) (fun g hg => by have := giv_size _ g hg; omega))
      have HB : Hid (∀ w1 : World, Below wr.heap.size wr w1 → Calls Tryd.prog 20 #[.slice sa i sc] w1 fun e w' => ∃ a c, e = .returned (.slice a i c) ∧ w'.ownsRow w1.heap.size 9 1 (.slice a i c) i (strV (asg (namesOf (giv (xs.take i))))) ∧ Below w1.heap.size w1 w') := by
        intro w1 hb
        have := rassign_any _ _ w1 ((StrRow.Reads.of_own HH.out.s).below hb (Nat.le_refl _)) (by rw [hsl2.out]; omega) (fun x hx => by
          obtain ⟨y, _, rfl⟩ := List.mem_map.1 hx
          have := few_size y
          omega)
        rw [hsl2.out, ← giv_names] at this
        exact this
      rw [hsl.out] at HA
      have hLn : Hid ((asg (namesOf (giv (xs.take i)))).length = i) := by
        show _ = _
        rw [asg_length]
        exact (List.length_map _).trans hsl.out
      have hLg := hide (asg_legal (namesOf (giv (xs.take i))) (by rw [← asg_length, hLn.out]; omega))
      have hNd := hide (asg_nodup (namesOf (giv (xs.take i))))
      have HG := hide HH.out.below
      generalize asg (namesOf (giv (xs.take i))) = names at HA HB hLn hLg hNd
      replace hvr := hide hvr
      clear HR hn hn1 HH hsl hsl2
      obtain ⟨hc1, hc2⟩ | hc1 := hcase
      all_goals
        go_wp2_with (first
          | (go_at_call 19; refine HA.out.mono ?_; rintro e w2 ⟨la, lc, rfl, hown, k2⟩
             have H2 := hide (And.intro hown k2)
             clear hown k2 HA)
          | (go_at_call 20; refine (HB.out _ H2.out.2).mono ?_; rintro e w6 ⟨ma, mc, rfl, hown, k6⟩
             have H6 := hide (And.intro hown k6)
             clear hown k6 HB)
          | (go_at_call 10; refine (awake_any w6 ((hvr.out.below hvr.out.size H2.out.2).below (Nat.le_trans hvr.out.size H2.out.2.size) H6.out.2)).mono ?_; rintro e w7 ⟨rfl, k7⟩
             have H7 := hide (And.intro ((reads_of_strV H2.out.1).below (H6.out.2.trans (k7.mono H6.out.2.size)) (Nat.le_refl _)) (And.intro ((reads_of_strV H6.out.1).below k7 (Nat.le_refl _)) (HG.out.trans ((H2.out.2.trans ((H6.out.2.trans (k7.mono H6.out.2.size)).mono H2.out.2.size)).mono HG.out.size))))
             clear k7 H2 H6))
        clear hvr HV HG
        go_loopw [8] (fun vi wr => ∃ (j : Nat), j ≤ i ∧ vi = .int .i64 j ∧ Hid (Below w7.heap.size w7 wr)) (fun vi _ => 1000 - (intOf vi).toNat)
        case atStart => exact ⟨0, Nat.zero_le _, rfl, Below.refl _ _⟩
        case round =>
          obtain ⟨j, hj, rfl, HQ⟩ := hrel
          have hR1 := H7.out.1.below HQ.out (Nat.le_refl _)
          have hR2 := H7.out.2.1.below HQ.out (Nat.le_refl _)
          by_cases hlj : j < i
          · have hlj' : (j : Int) < i := by omega
            obtain ⟨x, hx⟩ : ∃ x, names[j]? = some x := ⟨_, List.getElem?_eq_getElem (by rw [hLn.out]; exact hlj)⟩
            have hxL := hLg.out x (List.mem_of_getElem? hx)
            obtain ⟨X, hX⟩ : ∃ X : ByteArray, X = ⟨x.toArray⟩ := ⟨_, rfl⟩
            have hXs : X.size ≤ 32 := by
              rw [hX, ba_size]
              simp only [legal, Bool.and_eq_true, decide_eq_true_eq] at hxL
              omega
            have hXd : X.data.toList = x := by rw [hX]
            have hx1 : (names.map fun x => (⟨x.toArray⟩ : ByteArray))[j]? = some X := by rw [List.getElem?_map, hx, hX]; rfl
            obtain ⟨b, off, cp, hvv, hcp, hb⟩ := hR1.at (fun e => by rw [e] at hx1; cases hx1)
            rw [List.length_map, hLn.out] at hvv hcp
            cases hvv
            obtain ⟨b2, off2, cp2, hvv2, hcp2, hb2⟩ := hR2.at (fun e => by rw [e] at hx1; cases hx1)
            rw [List.length_map, hLn.out] at hvv2 hcp2
            cases hvv2
            have hcell := hR1.cell hx1
            have hcell2 := hR2.cell hx1
            have hcp' : (i : Int) ≤ lc := by omega
            have hcp2' : (i : Int) ≤ mc := by omega
            have HL : Hid (∀ w1 : World, Calls Tryd.prog 12 #[.string X] w1 fun e w' => e = .returned (.bool true) ∧ Below w1.heap.size w1 w') := fun w1 =>
              (rlegal_any X w1 (by omega)).mono (fun e w' ⟨h1, h2⟩ => ⟨by rw [h1, hXd, hxL], by rw [h2]; exact Below.refl _ _⟩)
            have HFo := hide (fun w1 => rfold_any X w1 (by omega))
            obtain ⟨Y, hY⟩ : ∃ Y : ByteArray, Y = ⟨(fold X.data.toList).toArray⟩ := ⟨_, rfl⟩
            rw [← hY] at HFo
            have hYd : Hid (Y = ⟨(fold x).toArray⟩) := by show _ = _; rw [hY, hXd]
            have hnew := hide (fold_new hNd.out hx)
            have hcr := cell_regrown hcell
            have hcr2 := cell_regrown hcell2
            clear hY hX hXd hx1 hR1 hR2 hxL hx
            go_upto_region 12 with (fail)
            refine QuietCalls.region (by kernel_rfl) (by kernel_rfl) ?_
            first | go_big_quiet_step (fail) | quiet_step (fail)
            first | go_big_quiet_step (fail) | quiet_step (fail)
            first | go_big_quiet_step (fail) | quiet_step (fail)
            first | go_big_quiet_step (fail) | quiet_step (fail)
            first | go_big_quiet_step (fail) | quiet_step (fail)
            first | go_big_quiet_step (fail) | quiet_step (fail)
            first | go_big_quiet_step (fail) | quiet_step (fail)
            first | go_big_quiet_step (fail) | quiet_step (fail)
            first | go_big_quiet_step (fail) | quiet_step (fail)
            first | go_big_quiet_step (fail) | quiet_step (fail)
            first | go_big_quiet_step (fail) | quiet_step (fail)
            first | go_big_quiet_step (fail) | quiet_step (fail)
            first | go_big_quiet_step (fail) | quiet_step (fail)
            first | go_big_quiet_step (fail) | quiet_step (fail)
            refine QuietCalls.call1 rfl rfl Tryd.call12 (fun w _ => HL.out w) rfl ?_; simp only [Act.put, List.setIfInBounds_toArray, List.set_cons_succ, List.set_cons_zero]
            first | go_big_quiet_step (fail) | quiet_step (fail)
            first | go_big_quiet_step (fail) | quiet_step (fail)
            refine wpQuiet_nil ?_
            intro w8 k8
            have HQ8 := hide (HQ.out.trans (k8.mono HQ.out.size))
            have hcell8 : Hid (∀ w9 : World, Below w8.heap.size w8 w9 → w9.cell? ⟨b, off + j, none⟩ = some (.string X)) := fun w9 k9 => ((k9.cell (p := ⟨b, off + j, none⟩) (by show b < _; exact Nat.lt_of_lt_of_le hb k8.size)).trans (k8.cell (p := ⟨b, off + j, none⟩) (by show b < _; exact hb))).trans hcell
            clear hcr hcr2 hcell hcell2 k8 HQ hb hb2 HL
            go_wp2
            go_loopw [9] (fun vk wr => ∃ (k : Nat), k ≤ j ∧ vk = .int .i64 k ∧ Hid (Below w8.heap.size w8 wr)) (fun vk _ => 1000 - (intOf vk).toNat)
            case atStart => exact ⟨0, Nat.zero_le _, rfl, Below.refl _ _⟩
            case round =>
              obtain ⟨k, hk, rfl, HK⟩ := hrel
              by_cases hlk : k < j
              · have hlk' : (k : Int) < j := by omega
                have hlk2 : (k : Int) < i := by omega
                obtain ⟨z, hz⟩ : ∃ z, names[k]? = some z := ⟨_, List.getElem?_eq_getElem (by rw [hLn.out]; omega)⟩
                have hzL := hLg.out z (List.mem_of_getElem? hz)
                obtain ⟨Z, hZ⟩ : ∃ Z : ByteArray, Z = ⟨z.toArray⟩ := ⟨_, rfl⟩
                have hZs : Z.size ≤ 32 := by
                  rw [hZ, ba_size]
                  simp only [legal, Bool.and_eq_true, decide_eq_true_eq] at hzL
                  omega
                have hZd : Z.data.toList = z := by rw [hZ]
                have hz1 : (names.map fun x => (⟨x.toArray⟩ : ByteArray))[k]? = some Z := by rw [List.getElem?_map, hz, hZ]; rfl
                have hcellZ := (H7.out.1.below (HQ8.out.trans (HK.out.mono HQ8.out.size)) (Nat.le_refl _)).cell hz1
                have hcellX := hcell8.out _ HK.out
                have HFz := hide (fun w1 => rfold_any Z w1 (by omega))
                obtain ⟨V, hV⟩ : ∃ V : ByteArray, V = ⟨(fold Z.data.toList).toArray⟩ := ⟨_, rfl⟩
                rw [← hV] at HFz
                have hVd : V = ⟨(fold z).toArray⟩ := by rw [hV, hZd]
                have hYV : Y ≠ V := by
                  rw [hYd.out, hVd]
                  intro e
                  apply hnew.out
                  rw [ba_eq e]
                  refine List.mem_map.2 ⟨z, ?_, rfl⟩
                  refine List.mem_of_getElem? (i := k) ?_
                  rw [List.getElem?_take_of_lt hlk]
                  exact hz
                have hyz1 : (Y.toList == V.toList) = false := by
                  rw [beq_eq_false_iff_ne]
                  intro e
                  rw [ByteArray.toList_eq, ByteArray.toList_eq] at e
                  exact hYV (ByteArray.ext (Array.toList_inj.1 e))
                have hcrZ := cell_regrown hcellZ
                have hcrX := cell_regrown hcellX
                clear hV hVd hYV hZ hZd hz1 hzL hz
                go_upto_region 17 with (fail)
                refine QuietCalls.region (by kernel_rfl) (by kernel_rfl) ?_
                first | go_big_quiet_step (fail) | quiet_step (fail)
                first | go_big_quiet_step (fail) | quiet_step (fail)
                first | go_big_quiet_step (fail) | quiet_step (fail)
                first | go_big_quiet_step (fail) | quiet_step (fail)
                refine QuietCalls.call1 rfl rfl Tryd.call14 (fun w _ => HFo.out w) rfl ?_; simp only [Act.put, List.setIfInBounds_toArray, List.set_cons_succ, List.set_cons_zero]
                first | go_big_quiet_step (fail) | quiet_step (fail)
                first | go_big_quiet_step (fail) | quiet_step (fail)
                first | go_big_quiet_step (fail) | quiet_step (fail)
                first | go_big_quiet_step (fail) | quiet_step (fail)
                refine QuietCalls.call1 rfl rfl Tryd.call14 (fun w _ => HFz.out w) rfl ?_; simp only [Act.put, List.setIfInBounds_toArray, List.set_cons_succ, List.set_cons_zero]
                first | go_big_quiet_step (fail) | quiet_step (fail)
                refine wpQuiet_nil ?_
                intro w9 k9
                clear hcrZ hcrX hcellZ hcellX
                go_wp2
                go_roundw
                case rel => exact ⟨k + 1, by omega, by go_num, HK.out.trans (k9.mono HK.out.size)⟩
                case measure => simp [intOf]; omega
              · have hlk' : ¬ (k : Int) < j := by omega
                go_wp2
                go_roundw
                case rel => exact ⟨j + 1, by omega, by go_num, HQ8.out.trans (HK.out.mono HQ8.out.size)⟩
                case measure => simp [intOf]; omega
          · have hlj' : ¬ (j : Int) < i := by omega
            go_wp2
            go_ret
            exact ⟨rfl, H7.out.2.2.trans (HQ.out.mono H7.out.2.2.size)⟩
end Go.Proofs.YtpihgffcfoelbaaDoor
