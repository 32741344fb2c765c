/- Contract: Assign of any things. -/
import Derived.Test.YtpihgffcfoelbaaDoorNameAll
namespace Go.Proofs.YtpihgffcfoelbaaDoor
open Go.RowKit Go.Names Go.MapFun Go.Maps
theorem names_at {gs : List (Int × ByteArray)} {j : Nat} {g : Int × ByteArray} (h : gs[j]? = some g) : (namesOf gs)[j]? = some g.2.data.toList := by
  unfold namesOf
  rw [List.getElem?_map, h]
  rfl
theorem new_folder (W : World) (hv : Vt W) : An W 0 ⟨W.heap.size + 2, W.heap.size, W.heap.size + 1⟩ [] (.slice none 0 0) [] (((W.alloc (.map #[] 0)).alloc (.map #[] 0)).alloc (.cells #[.map (some W.heap.size), .map (some (W.heap.size + 1))] 48)) := by
  have k1 : Below W.heap.size W (W.alloc (.map #[] 0)) := (Below.refl _ W).alloc (Nat.le_refl _) _
  have k2 : Below (W.alloc (.map #[] 0)).heap.size (W.alloc (.map #[] 0)) ((W.alloc (.map #[] 0)).alloc (.map #[] 0)) := (Below.refl _ _).alloc (Nat.le_refl _) _
  have k3 : Below ((W.alloc (.map #[] 0)).alloc (.map #[] 0)).heap.size ((W.alloc (.map #[] 0)).alloc (.map #[] 0)) (((W.alloc (.map #[] 0)).alloc (.map #[] 0)).alloc (.cells #[.map (some W.heap.size), .map (some (W.heap.size + 1))] 48)) := (Below.refl _ _).alloc (Nat.le_refl _) _
  have m1 := MapG.made Tryd.prog 9 Value.string unE W
  have m2 := MapG.made Tryd.prog 60 rowV i64E (W.alloc (.map #[] 0))
  have s1 : (W.alloc (.map #[] 0)).heap.size = W.heap.size + 1 := by simp
  have s2 : ((W.alloc (.map #[] 0)).alloc (.map #[] 0)).heap.size = W.heap.size + 2 := by simp
  have e3 := heap_alloc_new ((W.alloc (.map #[] 0)).alloc (.map #[] 0)) (.cells #[.map (some W.heap.size), .map (some (W.heap.size + 1))] 48 (0, 0))
  rw [s2] at e3
  rw [s1] at m2
  have kk : Below W.heap.size W (((W.alloc (.map #[] 0)).alloc (.map #[] 0)).alloc (.cells #[.map (some W.heap.size), .map (some (W.heap.size + 1))] 48)) := (k1.trans (k2.mono (by omega))).trans (k3.mono (by omega))
  have hT : (fun _ => none : ByteArray → Option Unit) = tkn [] := by funext s; simp [tkn]
  rw [hT] at m1
  refine ⟨⟨fun _ => none, ⟨e3, ?_, ?_, by simp, by simp, by simp, by simp, hv.size, hv.below hv.size kk⟩, OkN.none _⟩, World.ownsRow_nil _ _ _ _, kk⟩
  · exact (m1.below (by omega) k2).below (by show W.heap.size < _; omega) k3
  · exact m2.below (by show W.heap.size + 1 < _; omega) k3
set_option maxRecDepth 100000 in
set_option maxHeartbeats 2000000 in
theorem assignAll_any (v : Value) (gs : List (Int × ByteArray)) (W : World) (hv : Vt W) (hg : Gvs W v gs) (hl : gs.length ≤ 130) (hs : ∀ g ∈ gs, g.2.size ≤ 1000000) :
    Calls Tryd.prog 19 #[v] W fun e w' => ∃ a c, e = .returned (.slice a gs.length c) ∧ w'.ownsRow W.heap.size 9 1 (.slice a gs.length c) gs.length (strV (asg (namesOf gs))) ∧ Below W.heap.size W w' := by
  obtain ⟨va, vc, rfl⟩ := hg.form
  have hnl : (namesOf gs).length = gs.length := List.length_map _
  have HN := hide (new_folder W hv)
  have HS := hide hs
  have HG := hide hg
  clear hg hs hv
  replace hnl := hide hnl
  go_enter Tryd.func19, Tryd.ntmps19
  have hmk := @run_makeMap Tryd.prog
  go_wp2
  clear hmk
  go_loopw [4, 12] (fun vo vi wr => ∃ (i : Nat) (oa : Option Addr) (oc : Nat), i ≤ gs.length ∧ vo = .slice oa i oc ∧ vi = .int .i64 i ∧ Hid (An W (20000 * i) ⟨W.heap.size + 2, W.heap.size, W.heap.size + 1⟩ ((asg ((namesOf gs).take i)).map fold) (.slice oa i oc) (asg ((namesOf gs).take i)) wr)) (fun _ vi _ => 1000 - (intOf vi).toNat)
  case atStart => exact ⟨0, none, 0, Nat.zero_le _, rfl, rfl, HN.out⟩
  case round =>
    clear HN
    obtain ⟨i, oa, oc, hi, rfl, rfl, HH⟩ := hrel
    by_cases hlt : i < gs.length
    · have hlt' : (i : Int) < gs.length := by omega
      obtain ⟨⟨id, nm⟩, hgi⟩ : ∃ g, gs[i]? = some g := ⟨_, List.getElem?_eq_getElem hlt⟩
      have hns := HS.out _ (List.mem_of_getElem? hgi)
      have hnext := hide (asg_take_succ (namesOf gs) (names_at hgi))
      obtain ⟨b, off, rfl, hbW, hnc, hcell⟩ := (HG.out.below (Nat.le_refl _) HH.out.below).at (by omega)
      obtain ⟨hc0, hc1⟩ := hcell i _ hgi
      have hnc' : (gs.length : Int) ≤ vc := by omega
      clear hcell
      have hLn : Hid ((asg ((namesOf gs).take i)).length = i) := by
        show _ = _
        rw [asg_length, List.length_take, hnl.out]
        omega
      generalize asg ((namesOf gs).take i) = outs at HH hnext hLn
      obtain ⟨X, hX⟩ : ∃ X : ByteArray, X = ⟨(fix nm.data.toList).toArray⟩ := ⟨_, rfl⟩
      have hXd : fix nm.data.toList = X.data.toList := by rw [hX]
      have hXs : X.size ≤ 32 := by rw [hX, ba_size]; exact (fix_length _).2
      have HF := hide (fun w1 => fix_any nm w1 hns)
      rw [← hX] at HF
      rw [hXd] at hnext
      have hTl : Hid ((outs.map fold).length ≤ 900) := by show _ ≤ _; rw [List.length_map, hLn.out]; omega
      clear hX hXd hgi HG hbW
      go_wp2_with (first
        | (go_at_call 15; refine (HF.out _).mono ?_; rintro e w1 ⟨rfl, k1⟩
           have H1 := hide ((HH.out.step ((Below.refl _ wr).alloc (Nat.le_refl _) _)).step k1)
           clear k1)
        | (go_at_call 26; refine (assign_any X w1 H1.out.fo hXs hTl.out (by omega)).mono ?_; rintro e w2 ⟨rfl, k2⟩
           have H2 := hide (H1.out.turn k2)
           clear k2)
        | (at_builtin; refine H2.out.append (pick (outs.map fold) X.data.toList) (by rw [hLn.out]; omega) rfl _ _ rfl rfl rfl ?_
           intro a1 c1 w3 h3
           have H3 := hide h3
           clear h3))
      go_roundw
      case rel =>
        refine ⟨i + 1, a1, c1, by omega, by rw [hLn.out], by go_num, ?_⟩
        show An _ _ _ _ _ _ _
        rw [hnext.out, List.map_append]
        have := H3.out
        rw [hLn.out] at this
        exact ⟨this.fo.mono (by omega), this.own, this.below⟩
      case measure => simp [intOf]; omega
    · have hlt' : ¬ (i : Int) < gs.length := by omega
      have hig : i = gs.length := by omega
      subst hig
      go_wp2
      go_ret
      have h9 := HH.out
      rw [List.take_of_length_le (by rw [hnl.out]; exact Nat.le_refl _)] at h9
      have h8 := h9.own
      rw [asg_length, hnl.out] at h8
      exact ⟨_, _, rfl, h8, h9.below⟩
end Go.Proofs.YtpihgffcfoelbaaDoor
