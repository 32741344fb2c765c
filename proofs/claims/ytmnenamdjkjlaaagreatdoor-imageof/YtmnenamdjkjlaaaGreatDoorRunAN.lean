/- Several texts in one: NameFix, NameMem. -/
import Derived.Test.YtmnenamdjkjlaaaGreatDoorRunAM
import Derived.Lib.MinMax
import Derived.Deep.CutBlock
import Derived.Deep.DeepCutAuto
import Derived.Test.YtmnenamdjkjlaaaGreatDoorRunAL
/- Contracts: a name that may be, made of any text: the program's and the document's. -/
namespace Go.Names
/-- What is fixed, byte by byte. -/
def pre (l : Bs) : Bs := if l = [] then [95] else l.take 32
theorem fix_pre (l : Bs) : fix l = fixN (pre l) := by
  unfold fix pre
  split
  · decide
  · rfl
theorem pre_ne (l : Bs) : pre l ≠ [] := by
  unfold pre
  split
  · decide
  · exact take_ne (by assumption)
theorem pre_length (l : Bs) : 1 ≤ (pre l).length ∧ (pre l).length ≤ 32 := by
  have := List.length_pos_iff.2 (pre_ne l)
  refine ⟨this, ?_⟩
  unfold pre
  split
  · decide
  · rw [List.length_take]; omega
theorem fixN_set (R : Bs) {k : Nat} {c : UInt8} (hk : R[k]? = some c) (hn : R.length = k + 1) : fixN R = (R.map fixB).set k (fixL c) := by
  have h : R ≠ [] := fun e => by subst e; cases hk
  obtain ⟨a, d, rfl⟩ := snoc_of h
  have hl : a.length = k := by simpa using hn
  subst hl
  have hd : d = c := by simpa using hk
  subst hd
  rw [fixN_snoc, List.map_append, List.set_append_right _ _ (by simp)]
  simp
theorem fixN_keep (R : Bs) {k : Nat} {c : UInt8} (hk : R[k]? = some c) (hn : R.length = k + 1) (hc : fixB c ≠ 46) : fixN R = R.map fixB := by
  have hL : fixL c = fixB c := by unfold fixL; rw [if_neg hc]
  rw [fixN_set R hk hn, hL]
  have hm : (R.map fixB)[k]? = some (fixB c) := by rw [List.getElem?_map, hk]; rfl
  have hl := (List.getElem?_eq_some_iff.1 hm).1
  rw [List.getElem?_eq_getElem hl] at hm
  rw [← Option.some.inj hm, List.set_getElem_self]
theorem fixL_46 {c : UInt8} (h : fixB c = 46) : fixL c = 95 := by unfold fixL; rw [if_pos h]
theorem fixN_length (R : Bs) : (fixN R).length = R.length := by
  by_cases h : R = []
  · subst h; rfl
  · obtain ⟨a, c, rfl⟩ := snoc_of h
    rw [fixN_snoc]
    simp
theorem cut_data (s : ByteArray) (n : Nat) : (s.extract 0 n).data.toList = s.data.toList.take n := by
  rw [ByteArray.data_extract, Array.toList_extract]
  simp
/-- What the document has put together up to a place. -/
def outAt (T : Bs) (k : Nat) : Bs := if k = T.length then fixN T else (T.take k).map fixB
theorem outAt_zero {T : Bs} (h : T ≠ []) : outAt T 0 = [] := by
  unfold outAt
  rw [if_neg (fun e => h (List.length_eq_zero_iff.1 e.symm))]
  rfl
theorem outAt_length {T : Bs} {k : Nat} (h : k ≤ T.length) : (outAt T k).length = k := by
  unfold outAt
  split
  · rename_i e; rw [fixN_length, e]
  · rw [List.length_map, List.length_take]; omega
theorem outAt_all (T : Bs) : outAt T T.length = fixN T := by unfold outAt; rw [if_pos rfl]
theorem outAt_mid {T : Bs} {k : Nat} {c : UInt8} (h : T[k]? = some c) (hk : k + 1 ≠ T.length) : outAt T (k + 1) = outAt T k ++ [fixB c] := by
  have hl := (List.getElem?_eq_some_iff.1 h).1
  unfold outAt
  rw [if_neg hk, if_neg (by omega), up_to h]
theorem outAt_last {T : Bs} {k : Nat} {c : UInt8} (h : T[k]? = some c) (hk : k + 1 = T.length) : outAt T (k + 1) = outAt T k ++ [fixL c] := by
  have hl := (List.getElem?_eq_some_iff.1 h).1
  unfold outAt
  rw [if_pos hk, if_neg (by omega)]
  have hne : T ≠ [] := fun e => by subst e; cases h
  obtain ⟨a, d, rfl⟩ := snoc_of hne
  have hal : a.length = k := by simp at hk; omega
  subst hal
  have hd : d = c := by simpa using h
  subst hd
  rw [fixN_snoc]
  simp
theorem fixB_no {c : UInt8} (h : okB c = false) : fixB c = 95 := by unfold fixB; rw [if_neg (by rw [h]; decide)]
theorem fixL_no {c : UInt8} (h : okB c = false) : fixL c = 95 := by unfold fixL; rw [fixB_no h]; decide
theorem fixL_ok' {c : UInt8} (h : okB c = true) (h2 : c ≠ 46) : fixL c = c := by unfold fixL; rw [fixB_id h, if_neg h2]
end Go.Names
namespace Go.Proofs.YtmnenamdjkjlaaaGreatDoor
open Go.RowKit Go.Shelf Go.Names
set_option maxRecDepth 100000 in
set_option maxHeartbeats 1000000 in
theorem fix_any (s : ByteArray) (w : World) (hs : s.size ≤ 1000000) :
    Calls Tryz.prog 79 #[.string s] w fun e w' => e = .returned (.string ⟨(fix s.data.toList).toArray⟩) ∧ Below w.heap.size w w' := by
  obtain ⟨i5, hi, hz0, hz1, hz2⟩ := info_parts nInfo5
  obtain ⟨m, hm⟩ : ∃ m, m = min s.size 32 := ⟨_, rfl⟩
  have hmi : min (s.size : Int) 32 = m := by omega
  have hmin : ∀ w, (Builtin.min_ #[3, 3] 3 #[.int .i64 (s.size : Int), .int .i64 32]).run Tryz.prog w = .ok (.int .i64 m) w := fun w => by
    rw [Lib.run_min_ints, hmi]
  have hm1 : (m : Int) ≤ s.size := by omega
  obtain ⟨t, ht⟩ : ∃ t, s.extract 0 m = t := ⟨_, rfl⟩
  have htd : t.data.toList = s.data.toList.take 32 := by
    rw [← ht, cut_data, hm]
    by_cases h : s.size ≤ 32
    · rw [List.take_of_length_le (by simp; omega), List.take_of_length_le (by simp; omega)]
    · rw [show min s.size 32 = 32 by omega]
  have hts : t.size = m := by rw [← ht, ByteArray.size_extract]; omega
  replace ht := hide ht
  have hpl := pre_length s.data.toList
  have hpre : Hid (pre s.data.toList = if t.size = 0 then [95] else t.data.toList) := by
    show _ = _
    unfold pre
    rw [hts, htd, hm]
    by_cases h : s.size = 0
    · rw [if_pos (by rw [← List.length_eq_zero_iff]; simpa using h), if_pos (by omega)]
    · rw [if_neg (by rw [← List.length_eq_zero_iff]; simpa using h), if_neg (by omega)]
  rw [fix_pre]
  generalize pre s.data.toList = R at hpre hpl
  have htl : Hid (t.data.toList.length = t.size) := by show _ = _; simp
  clear htd
  replace hm := hide hm
  replace hts := hide hts
  clear hmi
  go_enter Tryz.func79, Tryz.ntmps79
  go_upto_if 15 with (refine ByteRow.of_string_at _ rfl 9 66 5 _ rfl t (by show Value.string _ = _; rw [ht.out]) nUnder9 nUnderB nUnder5 ?_
                      intro g cap w1 hh hb
                      have HB := hide (And.intro hh hb)
                      clear hh hb)
  go_cut [3] (fun v wx => ∃ g c n, v = .slice (some ⟨g, 0, none⟩) n c ∧ n = R.length ∧ Hid (ByteRow.Has w.heap.size wx (.slice (some ⟨g, 0, none⟩) n c) R ∧ Below w.heap.size w wx))
  case first =>
    by_cases h0 : t.size = 0
    · have h0' : (t.size : Int) = 0 := by omega
      have h0b : ((t.size : Int) == 0) = true := by rw [h0']; rfl
      have hR : R = [95] := by rw [hpre.out, if_pos h0]
      have hE : t.data.toList = [] := List.length_eq_zero_iff.1 (by rw [htl.out, h0])
      rw [h0, hE] at HB
      go_wp2_with (at_builtin; refine ByteRow.append_one rfl _ _ 66 rfl 5 i5 nUnderB hi hz0 hz1 hz2 95 (k := 0) (by show Value.slice _ _ _ = _; rw [h0]) rfl HB.out rfl rfl (by omega) ?_
                   intro g' c' w1 HR
                   replace HR := hide HR)
      go_meet
      case rel => exact ⟨_, _, _, rfl, by rw [hR]; rfl, by rw [hR]; exact HR.out⟩
    · have h0b : ((t.size : Int) == 0) = false := beq_eq_false_iff_ne.2 (by omega)
      have h0' : ¬ (t.size : Int) = 0 := by omega
      have hR : R = t.data.toList := by rw [hpre.out, if_neg h0]
      go_wp2
      go_meet
      case rel => exact ⟨_, _, _, rfl, by rw [hR, htl.out], by rw [hR]; exact HB.out⟩
  case rest =>
    clear HB
    obtain ⟨g, cp, n, rfl, hn, HB⟩ := hcut
    have hn1 : 1 ≤ n := by omega
    have hn2 : n ≤ 32 := by omega
    have hnR := hide hn
    clear hn hpl hpre htl
    go_wp2
    go_loopw [21] (fun vi wr => ∃ k : Nat, k ≤ n ∧ vi = .int .i64 k ∧ Hid (ByteRow.Has w.heap.size wr (.slice (some ⟨g, 0, none⟩) n cp) (upTo fixB R k) ∧ Below w.heap.size w wr)) (fun vi _ => n - (intOf vi).toNat)
    case atStart => exact ⟨0, Nat.zero_le _, rfl, by show _ ∧ _; rw [upTo_zero]; exact HB.out⟩
    case round =>
      clear HB
      obtain ⟨k, hk, rfl, HH⟩ := hrel
      by_cases hlt : k < n
      · have hlt' : (k : Int) < n := by omega
        obtain ⟨c, hget⟩ : ∃ c, R[k]? = some c := ⟨_, List.getElem?_eq_getElem (by rw [← hnR.out]; exact hlt)⟩
        replace hget := hide hget
        obtain ⟨hcell, hfr, hbg⟩ := HH.out.1.cell (upTo_at fixB _ hget.out)
        have hst := stands_any c wr
        by_cases hc : okB c = true
        · rw [hc] at hst
          go_wp2_with (go_at_call 110; refine hst.mono ?_; rintro e w1 ⟨rfl, rfl⟩)
          go_roundw
          case rel => exact ⟨k + 1, by omega, by go_num, by show _ ∧ _; rw [← upTo_same fixB _ hget.out (fixB_id hc)]; exact HH.out⟩
          case measure => simp [intOf]; omega
        · have hc' : okB c = false := by simpa using hc
          rw [hc'] at hst
          go_wp2_with (go_at_call 110; refine hst.mono ?_; rintro e w1 ⟨rfl, rfl⟩)
          go_roundw
          case rel =>
            refine ⟨k + 1, by omega, by go_num, ?_⟩
            show _ ∧ _
            have e : fixB c = 95 := by unfold fixB; rw [if_neg hc]
            have h9 := HH.out.1.set (m := k) (d := 95) (by rw [upTo_length, ← hnR.out]; exact hlt)
            rw [← e, upTo_succ fixB _ hget.out] at h9
            rw [e] at h9
            exact ⟨h9, HH.out.2.setCell hbg _⟩
          case measure => simp [intOf]; omega
      · have hks : k = n := by omega
        have hlt' : ¬ (k : Int) < n := by omega
        have HF : Hid (ByteRow.Has w.heap.size wr (.slice (some ⟨g, 0, none⟩) n cp) (R.map fixB) ∧ Below w.heap.size w wr) := by
          have := HH.out
          rw [upTo_all _ _ (by rw [← hnR.out]; omega)] at this
          exact this
        clear HH
        obtain ⟨c, hget⟩ : ∃ c, R[n - 1]? = some c := ⟨_, List.getElem?_eq_getElem (by rw [← hnR.out]; omega)⟩
        have hm9 : (R.map fixB)[n - 1]? = some (fixB c) := by rw [List.getElem?_map, hget]; rfl
        obtain ⟨hcell, hfr, hbg⟩ := HF.out.1.cell hm9
        have hlen : R.length = n - 1 + 1 := by rw [← hnR.out]; omega
        replace hm9 := hide hm9
        replace hget := hide hget
        replace hlen := hide hlen
        subst hks
        by_cases hd : fixB c = 46
        · have hset := hide (fixN_set R hget.out hlen.out)
          have hL := hide (fixL_46 hd)
          rw [hd] at hcell
          have hcell' : wr.cell? ⟨g, k - 1, none⟩ = some (.int .u8 46) := hcell
          clear hcell
          have HS : Hid (ByteRow.Has w.heap.size (wr.setCell ⟨g, k - 1, none⟩ (.int .u8 95)) (.slice (some ⟨g, 0, none⟩) k cp) (fixN R) ∧ Below w.heap.size w (wr.setCell ⟨g, k - 1, none⟩ (.int .u8 95))) := by
            have h9 := HF.out.1.set (m := k - 1) (d := 95) (by rw [List.length_map, ← hnR.out]; omega)
            have h8 := hset.out
            rw [hL.out] at h8
            rw [← h8] at h9
            exact ⟨h9, HF.out.2.setCell hbg _⟩
          clear HF
          go_wp2_with (refine ByteRow.to_string_at _ rfl 66 9 5 _ rfl (fixN R) (by rw [fixN_length, ← hnR.out]) rfl HS.out.1 nUnderB nUnder5 nUnder9 ?_)
          go_ret
          exact ⟨rfl, HS.out.2⟩
        · have hkeep := hide (fixN_keep R hget.out hlen.out hd)
          have hd' : (((fixB c).toNat : Int) == 46) = false := beq_eq_false_iff_ne.2 fun h => hd (UInt8.toNat_inj.1 (by rw [show (46 : UInt8).toNat = 46 from rfl]; omega))
          go_wp2_with (refine ByteRow.to_string_at _ rfl 66 9 5 _ rfl (fixN R) (by rw [fixN_length, ← hnR.out]) rfl (by rw [hkeep.out]; exact HF.out.1) nUnderB nUnder5 nUnder9 ?_)
          go_ret
          exact ⟨rfl, HF.out.2⟩
set_option maxRecDepth 100000 in
set_option maxHeartbeats 1000000 in
theorem rfix_any (s : ByteArray) (w : World) (hs : s.size ≤ 1000000) :
    Calls Tryz.prog 58 #[.string s] w fun e w' => e = .returned (.string ⟨(fix s.data.toList).toArray⟩) ∧ Below w.heap.size w w' := by
  obtain ⟨i5, hi, hz0, hz1, hz2⟩ := info_parts nInfo5
  by_cases h0 : s.size = 0
  · have h0' : s = ⟨#[]⟩ := by
      obtain ⟨⟨l⟩⟩ := s
      have : l.length = 0 := h0
      rw [List.length_eq_zero_iff.1 this]
    subst h0'
    go_enter Tryz.func58, Tryz.ntmps58
    go_wp2
    go_ret
    exact ⟨rfl, Below.refl _ _⟩
  · have h0' : s.toList.isEmpty = false := empty_no s h0
    have hne : s.data.toList ≠ [] := fun e => h0 (by have := congrArg List.length e; simpa using this)
    have hfix : fix s.data.toList = fixN (s.data.toList.take 32) := by unfold fix; rw [if_neg hne]
    rw [hfix]
    clear hfix
    generalize hT : s.data.toList.take 32 = T
    replace hT := hide hT
    go_enter Tryz.func58, Tryz.ntmps58
    go_upto_if 9 with fail
    go_cut [0] (fun v wx => ∃ t : ByteArray, v = .string t ∧ t.size ≤ 32 ∧ t.size ≠ 0 ∧ wx = w ∧ Hid (T = t.data.toList))
    case first =>
      by_cases h3 : 32 < s.size
      · have h3' : (32 : Int) < s.size := by omega
        go_wp2
        go_meet
        case rel => exact ⟨s.extract 0 32, rfl, by rw [ByteArray.size_extract]; omega, by rw [ByteArray.size_extract]; omega, rfl, by show _ = _; rw [cut_data, hT.out]⟩
      · have h3' : ¬ (32 : Int) < s.size := by omega
        go_wp2
        go_meet
        case rel => exact ⟨s, rfl, by omega, h0, rfl, by show _ = _; rw [← hT.out, List.take_of_length_le (by simp; omega)]⟩
    case rest =>
      obtain ⟨t, rfl, ht1, ht2, rfl, ht⟩ := hcut
      have hTt := ht.out
      subst hTt
      have htn := hide (show t.data.toList ≠ [] from fun e => ht2 (by have := congrArg List.length e; simpa using this))
      have htl := hide (show t.data.toList.length = t.size by simp)
      clear ht h0' hne h0
      go_wp2
      go_loopw [3, 4] (fun vb vi wr => ∃ (k g c : Nat), k ≤ t.size ∧ vi = .int .i64 k ∧ vb = .slice (some ⟨g, 0, none⟩) k c ∧ Hid (ByteRow.Has wc.heap.size wr (.slice (some ⟨g, 0, none⟩) k c) (outAt t.data.toList k) ∧ Below wc.heap.size wc wr)) (fun _ vi _ => t.size - (intOf vi).toNat)
      case atStart =>
        refine ⟨0, wc.heap.size, 0, Nat.zero_le _, rfl, rfl, ?_⟩
        show _ ∧ _
        rw [outAt_zero htn.out]
        exact ⟨ByteRow.Has.of_own (World.ownsRow_made wc #[] 0 (Nat.le_refl _) (Nat.zero_le _) rfl), (Below.refl _ wc).alloc (Nat.le_refl _) _⟩
      case round =>
        obtain ⟨k, g, cp, hk, rfl, rfl, HH⟩ := hrel
        by_cases hlt : k < t.size
        · have hlt' : (k : Int) < t.size := by omega
          have hget := hide (data_get t k hlt)
          have hlen := hide (outAt_length (T := t.data.toList) (k := k) (by rw [htl.out]; omega))
          have hst := fine_any t[k] wr
          by_cases hl : k + 1 = t.size
          · have hl' : ((k : Int) == (t.size : Int) - 1) = true := by rw [beq_iff_eq]; omega
            have hnext := hide (outAt_last hget.out (by rw [htl.out]; exact hl))
            clear hl
            by_cases hc : okB t[k] = true
            · rw [hc] at hst
              by_cases h46 : t[k] = 46
              · have h46' : ((t[k].toNat : Int) == 46) = true := by rw [h46]; rfl
                have hv := hide (show fixL t[k] = 95 by rw [fixL_46 (by rw [fixB_id hc, h46])])
                clear h46
                go_wp2_with (first
                  | (go_at_call 61; refine hst.mono ?_; rintro e w1 ⟨rfl, hw1⟩; subst hw1)
                  | (at_builtin; refine ByteRow.append_one rfl _ _ 66 rfl 5 i5 nUnderB hi hz0 hz1 hz2 (fixL t[k]) rfl hlen.out HH.out rfl (by rw [hv.out]; rfl) (by omega) ?_
                     intro g' c' w1 HR
                     replace HR := hide HR
                     rw [← hnext.out] at HR))
                go_roundw
                case rel => exact ⟨k + 1, g', c', by omega, by go_num, rfl, HR.out⟩
                case measure => simp [intOf]; omega
              · have h46' : ((t[k].toNat : Int) == 46) = false := beq_eq_false_iff_ne.2 fun h => h46 (UInt8.toNat_inj.1 (by rw [show (46 : UInt8).toNat = 46 from rfl]; omega))
                have hv := hide (fixL_ok' hc h46)
                clear h46
                go_wp2_with (first
                  | (go_at_call 61; refine hst.mono ?_; rintro e w1 ⟨rfl, hw1⟩; subst hw1)
                  | (at_builtin; refine ByteRow.append_one rfl _ _ 66 rfl 5 i5 nUnderB hi hz0 hz1 hz2 (fixL t[k]) rfl hlen.out HH.out rfl (by rw [hv.out]; rfl) (by omega) ?_
                     intro g' c' w1 HR
                     replace HR := hide HR
                     rw [← hnext.out] at HR))
                go_roundw
                case rel => exact ⟨k + 1, g', c', by omega, by go_num, rfl, HR.out⟩
                case measure => simp [intOf]; omega
            · have hc' : okB t[k] = false := by simpa using hc
              rw [hc'] at hst
              have hv := hide (fixL_no hc')
              go_wp2_with (first
                | (go_at_call 61; refine hst.mono ?_; rintro e w1 ⟨rfl, hw1⟩; subst hw1)
                | (at_builtin; refine ByteRow.append_one rfl _ _ 66 rfl 5 i5 nUnderB hi hz0 hz1 hz2 (fixL t[k]) rfl hlen.out HH.out rfl (by rw [hv.out]; rfl) (by omega) ?_
                   intro g' c' w1 HR
                   replace HR := hide HR
                   rw [← hnext.out] at HR))
              go_roundw
              case rel => exact ⟨k + 1, g', c', by omega, by go_num, rfl, HR.out⟩
              case measure => simp [intOf]; omega
          · have hl' : ((k : Int) == (t.size : Int) - 1) = false := by rw [beq_eq_false_iff_ne]; omega
            have hnext := hide (outAt_mid hget.out (by rw [htl.out]; exact hl))
            by_cases hc : okB t[k] = true
            · rw [hc] at hst
              have hv := hide (fixB_id hc)
              go_wp2_with (first
                | (go_at_call 61; refine hst.mono ?_; rintro e w1 ⟨rfl, hw1⟩; subst hw1)
                | (at_builtin; refine ByteRow.append_one rfl _ _ 66 rfl 5 i5 nUnderB hi hz0 hz1 hz2 (fixB t[k]) rfl hlen.out HH.out rfl (by rw [hv.out]; rfl) (by omega) ?_
                   intro g' c' w1 HR
                   replace HR := hide HR
                   rw [← hnext.out] at HR))
              go_roundw
              case rel => exact ⟨k + 1, g', c', by omega, by go_num, rfl, HR.out⟩
              case measure => simp [intOf]; omega
            · have hc' : okB t[k] = false := by simpa using hc
              rw [hc'] at hst
              have hv := hide (fixB_no hc')
              go_wp2_with (first
                | (go_at_call 61; refine hst.mono ?_; rintro e w1 ⟨rfl, hw1⟩; subst hw1)
                | (at_builtin; refine ByteRow.append_one rfl _ _ 66 rfl 5 i5 nUnderB hi hz0 hz1 hz2 (fixB t[k]) rfl hlen.out HH.out rfl (by rw [hv.out]; rfl) (by omega) ?_
                   intro g' c' w1 HR
                   replace HR := hide HR
                   rw [← hnext.out] at HR))
              go_roundw
              case rel => exact ⟨k + 1, g', c', by omega, by go_num, rfl, HR.out⟩
              case measure => simp [intOf]; omega
        · have hks : k = t.size := by omega
          have hlt' : ¬ (k : Int) < t.size := by omega
          have HF : Hid (ByteRow.Has wc.heap.size wr (.slice (some ⟨g, 0, none⟩) k cp) (fixN t.data.toList) ∧ Below wc.heap.size wc wr) := by
            have := HH.out
            rw [← outAt_all, htl.out, ← hks]
            exact this
          clear HH
          go_wp2_with (refine ByteRow.to_string_at _ rfl 66 9 5 _ rfl (fixN t.data.toList) (by rw [fixN_length, htl.out, hks]) rfl HF.out.1 nUnderB nUnder5 nUnder9 ?_)
          go_ret
          exact ⟨rfl, HF.out.2⟩
end Go.Proofs.YtmnenamdjkjlaaaGreatDoor
/- A folder of names in memory: which are taken, where the numbers of a row go on; what its calls turn. -/
namespace Go.Names
open Go.RowKit
/-- Where a folder lies. -/
structure Fo where
  fb : Nat
  tb : Nat
  nb : Nat
/-- Only the folder's two maps have turned. -/
structure FoTn (F : Fo) (w w' : World) : Prop where
  os : w'.os = w.os
  tape : w'.tape = w.tape
  output : w'.output = w.output
  size : w.heap.size ≤ w'.heap.size
  block : ∀ k, k < w.heap.size → k ≠ F.tb → k ≠ F.nb → w'.heap[k]? = w.heap[k]?
theorem FoTn.refl (F : Fo) (w : World) : FoTn F w w := ⟨rfl, rfl, rfl, Nat.le_refl _, fun _ _ _ _ => rfl⟩
theorem FoTn.trans {F : Fo} {w w' w'' : World} (h : FoTn F w w') (k : FoTn F w' w'') : FoTn F w w'' :=
  ⟨k.os.trans h.os, k.tape.trans h.tape, k.output.trans h.output, Nat.le_trans h.size k.size, fun i hi h1 h2 => (k.block i (Nat.lt_of_lt_of_le hi h.size) h1 h2).trans (h.block i hi h1 h2)⟩
theorem FoTn.of_below {F : Fo} {w w' : World} {B : Nat} (h : Below B w w') (hB : w.heap.size ≤ B) : FoTn F w w' := ⟨h.os, h.tape, h.output, h.size, fun k hk _ _ => h.block k (Nat.lt_of_lt_of_le hk hB)⟩
theorem FoTn.of_taken {F : Fo} {w w' : World} (h : w.grownBy w' (some F.tb)) : FoTn F w w' := ⟨h.os, h.tape, h.output, h.size, fun k hk h1 _ => h.block k hk fun e => h1 (by cases e; rfl)⟩
theorem FoTn.of_next {F : Fo} {w w' : World} (h : w.grownBy w' (some F.nb)) : FoTn F w w' := ⟨h.os, h.tape, h.output, h.size, fun k hk _ h2 => h.block k hk fun e => h2 (by cases e; rfl)⟩
theorem FoTn.below {F : Fo} {w w' : World} {base : Nat} (h : FoTn F w w') (h1 : base ≤ F.tb) (h2 : base ≤ F.nb) (hs : base ≤ w.heap.size) : Below base w w' :=
  ⟨h.os, h.tape, h.output, h.size, fun k hk => h.block k (by omega) (by omega) (by omega)⟩
abbrev Key := ByteArray × Nat
def rowV (x : Key) : Value := .agg #[.string x.1, .int .i64 (x.2 : Int)]
theorem rowV_inj (x y : Key) (h : rowV x = rowV y) : x = y := by
  obtain ⟨a, n⟩ := x
  obtain ⟨b, m⟩ := y
  simp only [rowV, Value.agg.injEq, Array.mk.injEq, List.cons.injEq, Value.string.injEq, Value.int.injEq, true_and, and_true] at h
  obtain ⟨rfl, h⟩ := h
  rw [show n = m by omega]
/-- A text is one of those that are taken. -/
def tkn (T : List Bs) (s : ByteArray) : Option Unit := if s.data.toList ∈ T then some () else none
/-- The numbers of a row that are passed by are taken. -/
def OkN (T : List Bs) (nx : Key → Option Int) : Prop := ∀ c d v, nx (c, d) = some v → (∀ n : Nat, 10 ^ (d - 1) ≤ n → (n : Int) < v → c.data.toList ++ 126 :: dig n ∈ T) ∧ v ≤ (10 : Int) * (10 ^ (d - 1) : Nat)
theorem OkN.none (T : List Bs) : OkN T (fun _ => .none) := fun _ _ _ h => by cases h
theorem OkN.more {T : List Bs} {nx : Key → Option Int} (h : OkN T nx) (x : List Bs) : OkN (T ++ x) nx := fun c d v hv =>
  ⟨fun n h1 h2 => List.mem_append_left _ ((h c d v hv).1 n h1 h2), (h c d v hv).2⟩
theorem OkN.set {T : List Bs} {nx : Key → Option Int} (h : OkN T nx) (c : ByteArray) (d : Nat) (v : Int) (h1 : ∀ n : Nat, 10 ^ (d - 1) ≤ n → (n : Int) < v → c.data.toList ++ 126 :: dig n ∈ T) (h2 : v ≤ (10 : Int) * (10 ^ (d - 1) : Nat)) : OkN T (fun t => if t = (c, d) then some v else nx t) := by
  intro c' d' v' hv
  by_cases e : ((c', d') : Key) = (c, d)
  · simp only [e, if_true] at hv
    cases hv
    cases e
    exact ⟨h1, h2⟩
  · simp only [e, if_false] at hv
    exact h c' d' v' hv
end Go.Names
namespace Go.Proofs.YtmnenamdjkjlaaaGreatDoor
open Go.RowKit Go.Names Go.MapFun Go.Maps
set_option maxRecDepth 100000 in
theorem rowUnder : Tryz.prog.underlying 146 = some (.map 189 3) := by kernel_rfl
set_option maxRecDepth 100000 in
theorem tknUnder : Tryz.prog.underlying 145 = some (.map 9 186) := by kernel_rfl
set_option maxRecDepth 100000 in
theorem nLaid : laidOutB Tryz.prog = true := by kernel_rfl
set_option maxRecDepth 100000 in
theorem rowLt : 189 < Tryz.prog.types.size := of_decide_eq_true (by kernel_rfl)
set_option maxRecDepth 100000 in
theorem rowWide : (match Tryz.prog.underlying 189 with | some (.array _ _) | some (.struct _) => true | _ => false) = true := by kernel_rfl
set_option maxRecDepth 100000 in
theorem rowDeep : Tryz.prog.keyTypeAt 3 189 = true := by kernel_rfl
set_option maxRecDepth 100000 in
theorem rowKeyed : Keyed Tryz.prog 189 := Keyed.of_law (deep_law_laid nLaid (m := 3) (by omega) rowLt rowDeep rowWide)
set_option maxRecDepth 100000 in
theorem strKeyed : Keyed Tryz.prog 9 := string_keyed (by kernel_rfl)
set_option maxRecDepth 100000 in
theorem rowCells : Tryz.prog.cellsOf 189 = 2 := by kernel_rfl
set_option maxRecDepth 100000 in
theorem rowType : Tryz.prog.keyType 189 = true := by kernel_rfl
set_option maxRecDepth 100000 in
theorem rowKey (c : ByteArray) (d : Nat) (hc : c.size ≤ maxLen) (hd : d ≤ 1000) : ∃ l, keyOf Tryz.prog 189 (rowV (c, d)) = some l := by
  have hf : (rowV (c, d)).formed Tryz.prog 189 = true := by
    simp [rowV, Value.formed, Tryz.underlying189, rowCells]
  have hsz : Tryz.prog.types.size = 224 := by kernel_rfl
  have hw : (Lit.int .i64 (d : Int)).wf = true := by
    have h1 : IntKind.i64.min = -9223372036854775808 := rfl
    have h2 : IntKind.i64.max = 9223372036854775807 := rfl
    simp only [Lit.wf, h1, h2, Bool.and_eq_true, decide_eq_true_eq]
    omega
  unfold keyOf
  rw [Tryz.underlying189]
  simp only [rowType, hf, Bool.and_self, if_true, hsz]
  have h9 : Tryz.prog.underlying 9 = some .string := by kernel_rfl
  have h3 : Tryz.prog.underlying 3 = some (.int .i64) := by kernel_rfl
  have c9 : Tryz.prog.cellsOf 9 = 1 := by kernel_rfl
  have c3 : Tryz.prog.cellsOf 3 = 1 := by kernel_rfl
  have hcs : (rowV (c, d)).cells.toList = [.string c, .int .i64 (d : Int)] := rfl
  rw [hcs]
  have hk : ∀ m, Tryz.prog.keyLits (m + 2) 189 [.string c, .int .i64 (d : Int)] = some [.string c.data.toList, .int .i64 (d : Int)] := by
    intro m
    simp [Program.keyLits, Tryz.underlying189, rowCells, h9, h3, c9, c3, hw, hc]
  have e : 224 + 1 = (224 - 1) + 2 := rfl
  rw [e, hk]
  exact ⟨_, rfl⟩
end Go.Proofs.YtmnenamdjkjlaaaGreatDoor
