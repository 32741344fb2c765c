/- Contracts: the document's parts of a path, and what may be one. -/
import Derived.Test.YtpihgffcfoelbaaDoorNameParts
import Derived.Test.YtpihgffcfoelbaaDoorNameRefAsg
import Derived.Laws.OwnMore
namespace Go.Proofs.YtpihgffcfoelbaaDoor
open Go.RowKit Go.Names
theorem Ar.stored {W w : World} {g m c : Nat} {outs : List Bs} (h : Ar W (.slice (some ⟨g, 0, none⟩) m c) outs w) (hm : m = outs.length) (j : Nat) (x : Bs) : Ar W (.slice (some ⟨g, 0, none⟩) m c) (outs.set j x) (w.drew.setCell ⟨g, j, none⟩ (.string ⟨x.toArray⟩)) := by
  subst hm
  have h1 : w.drew.ownsRow W.heap.size 9 1 (.slice (some ⟨g, 0, none⟩) outs.length c) outs.length (strV outs) := h.own
  obtain ⟨h2, h3⟩ := h1.stored j (.string ⟨x.toArray⟩)
  refine ⟨?_, h.below.drew.grown h3 h.below.size fun k e => by cases e; exact (own_at h.own rfl).1⟩
  rw [List.length_set]
  unfold strV at h2 ⊢
  rw [List.map_set]
  exact h2
theorem Ar.some {W w : World} {a : Option Addr} {m c : Nat} {outs : List Bs} (h : Ar W (.slice a m c) outs w) (hm : 0 < outs.length) : ∃ g, a = .some ⟨g, 0, none⟩ := by
  rcases h.own.2 with ⟨_, h0⟩ | ⟨j, cap, cur, h1, _⟩
  · omega
  · cases h1; exact ⟨j, rfl⟩
set_option maxRecDepth 100000 in
set_option maxHeartbeats 2000000 in
theorem rparts_any (s : ByteArray) (w : World) (hs : s.size ≤ 500) :
    Calls Tryd.prog 25 #[.string s] w fun e w' => ∃ a c, e = .returned (.slice a (parts s.data.toList).length c) ∧ Ar w (.slice a (parts s.data.toList).length c) (parts s.data.toList) w' := by
  have hsz : s.data.toList.length = s.size := by simp
  go_enter Tryd.func25, Tryd.ntmps25
  go_wp2
  go_loopw [3, 4] (fun vo vi wr => ∃ (i g m c : Nat), i ≤ s.size ∧ vo = .slice (some ⟨g, 0, none⟩) m c ∧ vi = .int .i64 i ∧ Hid (m = (parts (s.data.toList.take i)).length ∧ Ar w (.slice (some ⟨g, 0, none⟩) m c) (parts (s.data.toList.take i)) wr)) (fun _ vi _ => 1000 - (intOf vi).toNat)
  case atStart =>
    refine ⟨0, w.heap.size, 1, 1, Nat.zero_le _, rfl, rfl, rfl, ?_, (Below.refl _ w).alloc (Nat.le_refl _) _⟩
    exact RegionOwn.made_one w w.heap.size 9 1 #[.string ⟨#[]⟩] (Nat.le_refl _) rfl
  case round =>
    obtain ⟨i, g, m, c, hi, rfl, rfl, HH⟩ := hrel
    have hm1 : 1 ≤ m := by
      rw [HH.out.1]
      exact List.length_pos_iff.2 (parts_ne _)
    have hm2 : m ≤ 501 := by
      rw [HH.out.1]
      have := parts_length (s.data.toList.take i)
      rw [List.length_take] at this
      omega
    by_cases hlt : i < s.size
    · have hlt' : (i : Int) < s.size := by omega
      have hi1 : (i : Int) + 1 ≤ s.size := by omega
      have hi0 : (i : Int) ≤ i + 1 := by omega
      have htk : s.data.toList.take (i + 1) = s.data.toList.take i ++ [s[i]] := by rw [List.take_add_one, data_get s i hlt]; rfl
      by_cases hc : s[i] = 47
      · have hcn : (s[i].toNat : Int) = 47 := by rw [hc]; rfl
        have hcb : ((s[i].toNat : Int) == 47) = true := by simp [hcn]
        have hnx := parts_snoc_cut (s.data.toList.take i)
        rw [← hc, ← htk] at hnx
        have HN := hide hnx
        clear hnx htk hc
        go_wp2_with (at_builtin; refine HH.out.2.append [] (by rw [← HH.out.1]; omega) rfl _ _ rfl rfl rfl rfl ?_
                     intro a1 c1 w1 h1
                     rw [← HN.out, ← HH.out.1] at h1
                     rw [← HH.out.1]
                     obtain ⟨g1, rfl⟩ := h1.some (List.length_pos_iff.2 (parts_ne _))
                     have H1 := hide h1
                     clear h1)
        go_roundw
        case rel => exact ⟨i + 1, g1, m + 1, c1, by omega, rfl, by go_num, by rw [HN.out, List.length_append, ← HH.out.1]; rfl, H1.out⟩
        case measure => simp [intOf]; omega
      · have hcn : ¬ (s[i].toNat : Int) = 47 := by
          intro e
          have h2 : s[i].toNat = 47 := by omega
          exact hc (UInt8.toNat_inj.1 (h2.trans rfl))
        have hcb : ((s[i].toNat : Int) == 47) = false := beq_eq_false_iff_ne.2 hcn
        have hnx := parts_snoc (s.data.toList.take i) hc
        rw [← htk] at hnx
        obtain ⟨q, rfl⟩ : ∃ q, m = q + 1 := ⟨m - 1, by omega⟩
        obtain ⟨p, hp⟩ : ∃ p, (parts (s.data.toList.take i))[q]? = some p := ⟨_, List.getElem?_eq_getElem (by rw [← HH.out.1]; omega)⟩
        rw [more1_at (k := q) HH.out.1.symm hp] at hnx
        have HN := hide hnx
        have hpr := HH.out.2.reads
        obtain ⟨P, hP⟩ : ∃ P : ByteArray, P = ⟨p.toArray⟩ := ⟨_, rfl⟩
        have hcell : wr.cell? ⟨g, 0 + q, none⟩ = some (.string P) := by
          refine hpr.cell (j := q) ?_
          rw [List.getElem?_map, hp, hP]
          rfl
        rw [Nat.zero_add] at hcell
        have hfz : wr.frozen? ⟨g, q, none⟩ = false := (HH.out.1 ▸ HH.out.2.own).frozenAt q
        have hcellD : wr.drew.cell? ⟨g, q, none⟩ = some (.string P) := hcell
        have hfzD : wr.drew.frozen? ⟨g, q, none⟩ = false := hfz
        have hmc : (q : Int) + 1 ≤ c := by
          have : q + 1 ≤ c := by
            have ho := HH.out.2.own
            rw [← HH.out.1] at ho
            rcases ho.2 with ⟨h1, _⟩ | ⟨_, cap, cur, h1, _, _, h4, _⟩
            · cases h1
            · cases h1; exact h4
          omega
        have hPs : P.size ≤ 500 := by
          rw [hP, ba_size]
          have := parts_le _ p (List.mem_of_getElem? hp)
          rw [List.length_take] at this
          omega
        have hnew : P ++ s.extract i (i + 1) = ⟨(p ++ [s[i]]).toArray⟩ := by
          apply ByteArray.ext
          rw [← Array.toList_inj, hP]
          simp [ByteArray.data_append, ByteArray.data_extract]
          rw [List.take_one, List.head?_drop, data_get s i hlt]
          rfl
        have HX : Hid (Ar w (.slice (some ⟨g, 0, none⟩) (q + 1) c) (parts (s.data.toList.take (i + 1))) (wr.drew.setCell ⟨g, q, none⟩ (.string (P ++ s.extract i (i + 1))))) := by
          show Ar _ _ _ _
          rw [HN.out, hnew]
          exact HH.out.2.stored HH.out.1 q _
        have HL : Hid (q + 1 = (parts (s.data.toList.take (i + 1))).length) := by
          show _ = _
          rw [HN.out, List.length_set]
          exact HH.out.1
        have hq0 : (0 : Int) ≤ q := by omega
        have hq1 : (q : Int) < q + 1 := by omega
        have hex : (s.extract i (i + 1)).size ≤ 1 := by rw [ByteArray.size_extract]; omega
        clear hnew hnx hpr hP hp htk hc HN HH
        go_upto_region 7 with (fail)
        go_region
        go_wp2
        go_roundw
        case rel => exact ⟨i + 1, g, q + 1, c, by omega, rfl, by go_num, HL.out, HX.out⟩
        case measure => simp [intOf]; omega
    · have hlt' : ¬ (i : Int) < s.size := by omega
      have hie : i = s.size := by omega
      have hte : s.data.toList.take i = s.data.toList := by rw [hie, ← hsz, List.take_length]
      obtain ⟨hm, hA⟩ := HH.out
      rw [hte] at hm hA
      subst hm
      have HA := hide hA
      clear hA HH
      go_wp2
      go_ret
      exact ⟨_, _, rfl, HA.out⟩
set_option maxRecDepth 100000 in
set_option maxHeartbeats 2000000 in
theorem rpath_any (s : ByteArray) (w : World) (hs : s.size ≤ 500) :
    Calls Tryd.prog 18 #[.string s] w fun e w' => e = .returned (.bool (pathB s.data.toList)) ∧ Below w.heap.size w w' := by
  have hsz : s.data.toList.length = s.size := by simp
  by_cases hbig : 238 < s.size
  · have hb : pathB s.data.toList = false := by unfold pathB; rw [hsz, decide_eq_false (by omega)]; rfl
    rw [hb]
    have hbi : (238 : Int) < s.size := by omega
    go_enter Tryd.func18, Tryd.ntmps18
    go_wp2
    go_ret
    exact ⟨rfl, Below.refl _ _⟩
  · have hb : pathB s.data.toList = (parts s.data.toList).all legal := by unfold pathB; rw [hsz, decide_eq_true (by omega)]; rfl
    rw [hb]
    have hbi : ¬ (238 : Int) < s.size := by omega
    have HP := hide (rparts_any s w hs)
    have hle : Hid (∀ p ∈ parts s.data.toList, p.length ≤ 500) := fun p hp => by have := parts_le _ p hp; omega
    have hln : (parts s.data.toList).length ≤ 501 := by have := parts_length s.data.toList; omega
    clear hb hsz
    generalize parts s.data.toList = ps at HP hle hln
    go_enter Tryd.func18, Tryd.ntmps18
    go_wp2_with (go_at_call 25; refine HP.out.mono ?_; rintro e w1 ⟨a, c, rfl, hA⟩
                 have HA := hide hA
                 clear hA)
    go_loopw [4] (fun vi wr => ∃ i : Nat, i ≤ ps.length ∧ vi = .int .i64 i ∧ Hid ((ps.take i).all legal = true ∧ wr = w1)) (fun vi _ => 1000 - (intOf vi).toNat)
    case atStart => exact ⟨0, Nat.zero_le _, rfl, rfl, rfl⟩
    case round =>
      obtain ⟨i, hi, rfl, HH⟩ := hrel
      obtain ⟨hall, rfl⟩ := HH.out
      clear HH
      by_cases hlt : i < ps.length
      · have hlt' : (i : Int) < ps.length := by omega
        obtain ⟨p, hp⟩ : ∃ p, ps[i]? = some p := ⟨_, List.getElem?_eq_getElem hlt⟩
        obtain ⟨P, hP⟩ : ∃ P : ByteArray, P = ⟨p.toArray⟩ := ⟨_, rfl⟩
        have hpi : (ps.map fun x => (⟨x.toArray⟩ : ByteArray))[i]? = some P := by rw [List.getElem?_map, hp, hP]; rfl
        have hR := HA.out.reads
        obtain ⟨b, off, cp, hvv, hcp, hb⟩ := hR.at (fun e => by rw [e] at hpi; cases hpi)
        rw [List.length_map] at hvv hcp
        cases hvv
        have hcell := hR.cell hpi
        have hcp' : (ps.length : Int) ≤ c := by omega
        have hPd : P.data.toList = p := by rw [hP]
        have HL := hide (rlegal_any P wr (by rw [hP, ba_size]; have := hle.out p (List.mem_of_getElem? hp); omega))
        rw [hPd] at HL
        have htk : (ps.take (i + 1)).all legal = legal p := by rw [List.take_add_one, hp]; simp [hall]
        cases hlp : legal p with
        | false =>
          rw [hlp] at HL
          have hno : ps.all legal = false := by
            rw [Bool.eq_false_iff]
            intro e
            rw [List.all_eq_true.1 e p (List.mem_of_getElem? hp)] at hlp
            cases hlp
          have HN := hide hno
          clear hno hlp htk hpi hR hP hPd hp hall
          go_wp2_with (go_at_call 12; refine HL.out.mono ?_; rintro e w2 ⟨rfl, rfl⟩)
          go_ret
          exact ⟨by rw [HN.out]; rfl, HA.out.below⟩
        | true =>
          rw [hlp] at HL htk
          have HT := hide htk
          clear hlp htk hpi hR hP hPd hp hall
          go_wp2_with (go_at_call 12; refine HL.out.mono ?_; rintro e w2 ⟨rfl, h2⟩; replace h2 := h2.symm; subst h2)
          go_roundw
          case rel => exact ⟨i + 1, by omega, by go_num, HT.out, trivial⟩
          case measure => simp [intOf]; omega
      · have hlt' : ¬ (i : Int) < ps.length := by omega
        have hie : i = ps.length := by omega
        rw [hie, List.take_length] at hall
        have HT := hide hall
        clear hall
        go_wp2
        go_ret
        exact ⟨by rw [HT.out]; rfl, HA.out.below⟩
end Go.Proofs.YtpihgffcfoelbaaDoor
