/- The walk of MerkleRoots. -/
import Derived.Test.YtoopaeahhbkncabDoorMerkleAwake
import Derived.Test.YtoopaeahhbkncabDoorMerkleFilesWalk
import Derived.Test.YtoopaeahhbkncabDoorShaBig
namespace Go.Proofs.YtoopaeahhbkncabDoor
open Go.RowKit Go.Shelf Go.Wire Go.Mk Go.Chunk
attribute [local go_sem] Oper.semAt_some
set_option maxRecDepth 100000 in
set_option maxHeartbeats 4000000 in
theorem merkleRoots_any (xs : List ByteArray) (v : Value) (W : World) (hr : StrRow.Reads W v xs) (hx : ∀ s ∈ xs, s.size ≤ 140737488351232) (hm : xs.length ≤ maxLen) (hst : Steps W) :
    Calls Tryd.prog 4 #[v] W fun e w' => e = .returned (.bool true) ∧ Below W.heap.size W w' := by
  obtain ⟨i9, hi9, hz0, hz1, hz2⟩ := info_parts ciInfo9
  obtain ⟨la, lc, rfl⟩ := hr.form
  have HR := hide hr
  have HST := hide hst
  have HD := hide (fun (x : ByteArray) (w' : World) (hm : x ∈ xs) (h : Below W.heap.size W w') => digest_big x w' (hx x hm) (HST.out.kept h))
  have hm' : (xs.length : Int) ≤ 9223372036854775807 := by unfold maxLen at hm; omega
  clear hr hx hst
  obtain ⟨DD, HDD⟩ : ∃ DD : Nat → List ByteArray, Hid (∀ i, DD i = (xs.take i).map digest) := ⟨_, fun _ => rfl⟩
  have HDL : Hid (∀ i, i ≤ xs.length → (DD i).length = i) := fun i hi => by rw [HDD.out, List.length_map, List.length_take_of_le hi]
  have HDS : Hid (∀ i, ∀ x ∈ DD i, x.size = 32) := fun i x hx => by rw [HDD.out] at hx; obtain ⟨y, _, rfl⟩ := List.mem_map.1 hx; exact digest_size y
  go_enter Tryd.func4, Tryd.ntmps4
  go_wp2_with fail
  go_loopw [3, 4] (fun vo vi wr => ∃ i : Nat, i ≤ xs.length ∧ i ≤ 40 ∧ vi = .int .i64 i ∧ Hid (wr.ownsRow W.heap.size 9 1 vo i ((DD i).map Value.string) ∧ Below W.heap.size W wr)) (fun _ vi _ => 40 - (intOf vi).toNat)
  case atStart => exact ⟨0, Nat.zero_le _, by decide, rfl, by rw [HDD.out]; exact World.ownsRow_made W #[] 0 (Nat.le_refl _) (Nat.zero_le _) rfl, (Below.refl _ W).alloc (Nat.le_refl _) _⟩
  case round =>
    obtain ⟨i, hi, hi4, rfl, HH⟩ := hrel
    obtain ⟨oa, oc, hvo⟩ := own_slice HH.out.1
    subst hvo
    by_cases hlt : i < xs.length ∧ i < 40
    · have hlt1 : (i : Int) < xs.length := by omega
      have hlt2 : (i : Int) < 40 := by omega
      have hrd := HR.out
      obtain ⟨b, off, cap, hv, hcap, hbl⟩ := hrd.at (by intro h; rw [h] at hlt; simp at hlt)
      simp only [Value.slice.injEq, true_and] at hv
      obtain ⟨rfl, rfl⟩ := hv
      obtain ⟨x, hx⟩ : ∃ x, xs[i]? = some x := ⟨_, List.getElem?_eq_getElem hlt.1⟩
      have hcell : wr.cell? ⟨b, off + i, none⟩ = some (.string x) := (HH.out.2.cell (p := ⟨b, off + i, none⟩) hbl).trans (hrd.cell hx)
      have HDx := hide (fun (w' : World) (h : Below W.heap.size W w') => HD.out x w' (List.mem_of_getElem? hx) h)
      have HT : Hid ((DD (i + 1)).map Value.string = (DD i).map Value.string ++ [.string (digest x)]) := by show _ = _; rw [HDD.out, HDD.out, List.take_add_one, hx]; simp
      clear hx hrd hlt
      generalize digest x = D at *
      go_wp2_with (first
        | (go_at_call 12; refine (HDx.out _ HH.out.2).mono ?_; rintro e w2 ⟨rfl, hb2⟩; have HB2 := hide (And.intro (own_below HH.out.1 hb2) (HH.out.2.trans (hb2.mono HH.out.2.size))); clear hb2)
        | (at_builtin; refine wpList_append_own _ rfl _ _ 24 rfl W.heap.size 9 i9 (.string ⟨#[]⟩) 1 16 ciUnder24 hi9 hz0 hz1 hz2 rfl (by decide) _ _ _ rfl (HB2.out.1.alloc _) ⟨w2.heap.size, 0, none⟩ 1 1 [.string D] rfl rfl (cell_one_new _ _ _) ?a2 ?a3 ?a4 ?a5 ?_))
      case a2 => intro u hu; simp at hu; subst hu; rfl
      case a3 => unfold maxLen; omega
      case a4 => omega
      case a5 => have h1 := HB2.out.2.size; simp; omega
      intro v' w3 hown hgrow _
      have H3 : Hid (w3.ownsRow W.heap.size 9 1 v' (i + 1) ((DD (i + 1)).map Value.string) ∧ Below W.heap.size W w3) := by
        refine ⟨by rw [HT.out]; exact hown, (HB2.out.2.alloc HB2.out.2.size _).grown hgrow (HB2.out.2.alloc HB2.out.2.size _).size fun k e => own_base HB2.out.1 e⟩
      clear hown hgrow
      go_wp2
      go_roundw
      case rel => exact ⟨i + 1, by omega, by omega, by go_num, H3.out⟩
      case measure => simp [intOf]; omega
    · have HA := hide (fun (w' : World) (h : Below wr.heap.size wr w') => awake9_any w' (HST.out.kept (HH.out.2.trans (h.mono HH.out.2.size))))
      have hdl := HDL.out i hi
      have hRd : StrRow.Reads wr (.slice oa i oc) (DD i) := StrRow.Reads.of_own HH.out.1
      have HRT := hide (fun (w' : World) (h : Below wr.heap.size wr w') => root_any (DD i) _ w' (hRd.below h (Nat.le_refl _)) (by omega) (HDS.out i) (HST.out.kept (HH.out.2.trans (h.mono HH.out.2.size))))
      have HRR := hide (fun (w' : World) (h : Below wr.heap.size wr w') => rroot_any (DD i) _ w' (hRd.below h (Nat.le_refl _)) (by omega) (HDS.out i))
      have HB := hide HH.out.2
      have hex : (¬ ((i : Int) < xs.length)) ∨ ((i : Int) < xs.length ∧ ¬ ((i : Int) < 40)) := by omega
      clear hlt
      by_cases h1 : i = 1
      · have h1' : ¬ ((i : Int) < xs.length) := by omega
        subst h1
        obtain ⟨d, hd⟩ : ∃ d, DD 1 = [d] := by
          match h : DD 1, hdl with
          | [d], _ => exact ⟨d, rfl⟩
        rw [hd, root_one] at HRT HRR
        rw [hd] at hRd
        obtain ⟨b, off, cap, hv, hcap, hbl⟩ := hRd.at (by simp)
        simp only [List.length_cons, List.length_nil, Value.slice.injEq] at hv
        obtain ⟨rfl, _, rfl⟩ := hv
        have cd : wr.cell? ⟨b, off, none⟩ = some (.string d) := hRd.cell (j := 0) rfl
        have rd := cell_regrown cd
        clear HH hRd hdl hd HD hex
        go_upto_region 6 with fail
        refine QuietCalls.region (by kernel_rfl) (by kernel_rfl) ?_
        refine QuietCalls.call0 rfl rfl Tryd.call8 (fun w h => HA.out w h) ?_; simp only [Act.put, List.setIfInBounds_toArray, List.set_cons_succ, List.set_cons_zero]
        iterate 2 first | go_big_quiet_step (fail) | quiet_step (fail)
        refine QuietCalls.call1 rfl rfl Tryd.call13 (fun w h => HRT.out w h) rfl ?_; simp only [Act.put, List.setIfInBounds_toArray, List.set_cons_succ, List.set_cons_zero]
        iterate 1 first | go_big_quiet_step (fail) | quiet_step (fail)
        refine QuietCalls.call1 rfl rfl Tryd.call14 (fun w h => HRR.out w h) rfl ?_; simp only [Act.put, List.setIfInBounds_toArray, List.set_cons_succ, List.set_cons_zero]
        iterate 8 first | go_big_quiet_step (fail) | quiet_step (fail)
        refine QuietCalls.call1 rfl rfl Tryd.call13 (fun w h => HRT.out w h) rfl ?_; simp only [Act.put, List.setIfInBounds_toArray, List.set_cons_succ, List.set_cons_zero]
        iterate 7 first | go_big_quiet_step (fail) | quiet_step (fail)
        refine wpQuiet_nil ?_
        intro w2 hb2
        have HB2 := hide (HB.out.trans (hb2.mono HB.out.size))
        clear hb2
        go_wp2_with fail
        go_ret
        exact ⟨by simp, HB2.out⟩
      · have hi1 : ¬ ((i : Int) = 1) := by omega
        have hi2 : ((i : Int) == 1) = false := beq_eq_false_iff_ne.2 hi1
        clear HH hRd hdl HD
        generalize root (DD i) = R at *
        rcases hex with h3 | ⟨h3, h4⟩
        all_goals (
          go_upto_region 6 with fail
          refine QuietCalls.region (by kernel_rfl) (by kernel_rfl) ?_
          refine QuietCalls.call0 rfl rfl Tryd.call8 (fun w h => HA.out w h) ?_; simp only [Act.put, List.setIfInBounds_toArray, List.set_cons_succ, List.set_cons_zero]
          iterate 2 first | go_big_quiet_step (fail) | quiet_step (fail)
          refine QuietCalls.call1 rfl rfl Tryd.call13 (fun w h => HRT.out w h) rfl ?_; simp only [Act.put, List.setIfInBounds_toArray, List.set_cons_succ, List.set_cons_zero]
          iterate 1 first | go_big_quiet_step (fail) | quiet_step (fail)
          refine QuietCalls.call1 rfl rfl Tryd.call14 (fun w h => HRR.out w h) rfl ?_; simp only [Act.put, List.setIfInBounds_toArray, List.set_cons_succ, List.set_cons_zero]
          iterate 16 first | go_big_quiet_step (fail) | quiet_step (fail)
          refine wpQuiet_nil ?_
          intro w2 hb2
          have HB2 := hide (HB.out.trans (hb2.mono HB.out.size))
          clear hb2
          go_wp2_with fail
          go_ret
          exact ⟨by simp, HB2.out⟩)
end Go.Proofs.YtoopaeahhbkncabDoor
