/- Several texts in one: MacRefTag, MacAwakeMath, MacAwake. -/
import Derived.Test.YtkbboddibgfjbaaGreatDoorMacOne
import Derived.Test.YtkbboddibgfjbaaGreatDoorShaThree
import Derived.Test.YtkbboddibgfjbaaGreatDoorRowsTwo
import Derived.Deep.RegionLaw
import Derived.Test.YtkbboddibgfjbaaGreatDoorPureSha
/- The contract of the document's tag of a text under a key. -/
namespace Go.Sha
theorem turned_next {l : List UInt8} {i : Nat} {c t : UInt8} (h : l[i]? = some c) : (turned t (l.take (i + 1))).map byteV = (turned t (l.take i)).map byteV ++ [.int .u8 ((c ^^^ t).toNat)] := by
  rw [take_next h]; simp [turned, byteV]
end Go.Sha
/-- string(b), in a region whose operations only read. -/
theorem Go.ByteRow.quiet_to_string {P : Go.Program} {ops : Array Go.Oper} {C : Go.World → Prop} {Q : Go.Act → Prop} {rest : List Go.Oper} {o : Go.Oper} {a : Go.Act}
    (hg : o.guard = none) (src dst e : Go.TypeId) (x : Go.Operand) (hop : o.op = .convert src dst x) {base : Nat} {v : Go.Value} (l : List UInt8) (hx : a.eval x = v) (hh : ∀ w, C w → Go.ByteRow.Has base w v l) (hl : l ≠ [])
    (hs : P.underlying src = some (.slice e)) (he : P.underlying e = some (.int .u8)) (hd : P.underlying dst = some .string)
    (k : Go.wpQuiet P ops C Q rest (a.put o.dst (.string ⟨l.toArray⟩))) : Go.wpQuiet P ops C Q (o :: rest) a := by
  refine Go.wpQuiet_step fun K hK => ?_
  rw [if_pos (by simp [Go.Region.wanted, hg])]
  refine ⟨.string ⟨l.toArray⟩, fun w hw => ?_, hK _ k⟩
  rcases hh w hw with ⟨_, h⟩ | ⟨g, cap, hv, _, _, _, hcell, _⟩
  · exact absurd h hl
  · have hadd : ∀ j, (⟨g, 0, none⟩ : Go.Addr).add j = ⟨g, j, none⟩ := fun j => by unfold Go.Addr.add; split <;> simp_all
    have hr := Go.run_convert_bytes_back (P := P) w src dst e ⟨g, 0, none⟩ cap l hs he hd (fun j hj => by rw [hadd]; exact hcell j _ (List.getElem?_eq_getElem hj))
    unfold Go.Oper.quietAt Go.execOp
    simp only [hop, hx, hv, Go.Sem.run_bind, hr, Go.Result.andThen_ok]
    exact ⟨rfl, rfl⟩
namespace Go.Proofs.YtkbboddibgfjbaaGreatDoor
open Go.RowKit
open Go.Sort
set_option maxRecDepth 100000 in
set_option maxHeartbeats 1000000 in
theorem rtag_any (k s : ByteArray) (w : World) (hk : k.size ≤ 900000) (hs : s.size ≤ 800000) :
    Calls Tryz.prog 40 #[.string k, .string s] w fun e w' => e = .returned (.string ⟨(Sha.tag k.data.toList s.data.toList).toArray⟩) ∧ Below w.heap.size w w' := by
  obtain ⟨i0, hif, hz0, hz1, hz2⟩ := info_parts shaInfo5
  go_enter Tryz.func40, Tryz.ntmps40
  go_upto_if 10 with fail
  go_cut [0] from 10 to 12 (fun v wr => ∃ x : ByteArray, v = .string x ∧ Hid (x.data.toList = Sha.longKey k.data.toList ∧ Below w.heap.size w wr))
  case first =>
    by_cases h : 128 < k.size
    · go_wp2_with fail
      refine (rsum_any k _ (Nat.le_trans hk (by decide))).mono ?_
      rintro e w1 ⟨rfl, hb1⟩
      go_wp2
      go_meet
      case rel => exact ⟨_, rfl, by show _ = _; rw [Sha.longKey, if_pos (by simpa using h)], hb1⟩
    · go_wp2
      go_meet
      case rel => exact ⟨_, rfl, by show _ = _; rw [Sha.longKey, if_neg (by simpa using h)], Below.refl _ _⟩
  case rest =>
    obtain ⟨x, rfl, HX⟩ := hcut
    have hx : x.size ≤ 128 := by
      have := Sha.longKey_length k.data.toList
      rw [← HX.out.1] at this
      simpa using this
    go_wp2_with fail
    go_loopw [0] (fun v wr => ∃ (j : Nat) (y : ByteArray), x.size + j ≤ 128 ∧ y.size = x.size + j ∧ v = .string y ∧ Hid (y.data.toList = Sha.longKey k.data.toList ++ List.replicate j 0 ∧ Below w.heap.size w wr)) (fun v _ => 128 - (match v with | .string y => y.size | _ => 0))
    case atStart => exact ⟨0, x, by omega, rfl, rfl, by simpa using HX.out.1, HX.out.2⟩
    case round =>
      obtain ⟨j, y, hj, hy, rfl, HY⟩ := hrel
      by_cases hlt : x.size + j < 128
      · go_wp2
        go_roundw
        case rel =>
          refine ⟨j + 1, _, by omega, ?_, rfl, ?_, HY.out.2⟩
          · rw [ByteArray.size_append, hy]
            rfl
          · rw [Sha.app_list, HY.out.1, List.append_assoc, List.replicate_succ']
        case measure =>
          show 128 - (y ++ (⟨#[0]⟩ : ByteArray)).size < 128 - y.size
          rw [ByteArray.size_append]
          have : (⟨#[0]⟩ : ByteArray).size = 1 := rfl
          omega
      · have HF : Hid (y.data.toList = Sha.filled k.data.toList ∧ Below w.heap.size w wr) := by
          refine ⟨?_, HY.out.2⟩
          rw [HY.out.1, Sha.filled]
          have e : x.size = (Sha.longKey k.data.toList).length := by rw [← HX.out.1]; simp
          rw [show 128 - (Sha.longKey k.data.toList).length = j by omega]
        have hys : y.size = 128 := by omega
        clear HY HX hy hlt hj
        go_wp2_with fail
        go_loopw [5, 6, 7] (fun vi vo t wx => ∃ (i : Nat), i ≤ 128 ∧ t = .int .i64 i ∧ Hid (TwoRows.Two w 5 wx vi ((Sha.turned 54 (y.data.toList.take i)).map Sha.byteV) vo ((Sha.turned 92 (y.data.toList.take i)).map Sha.byteV))) (fun _ _ t _ => 128 - (intOf t).toNat)
        case atStart => exact ⟨0, by omega, rfl, TwoRows.Two.start HF.out.2⟩
        case round =>
          obtain ⟨i, hi, rfl, HT⟩ := hrel
          by_cases hlt : i < 128
          · go_wp2_with fail
            have hiy : i < y.size := by omega
            have hcy : y.data.toList[i]? = some y[i] := List.getElem?_eq_getElem (by simpa using hiy)
            have h54 : bits .xor .u8 (y[i].toNat : Int) 54 = ((y[i] ^^^ 54).toNat : Int) := Sha.xor_byte y[i] 54
            have h92 : bits .xor .u8 (y[i].toNat : Int) 92 = ((y[i] ^^^ 92).toNat : Int) := Sha.xor_byte y[i] 92
            have HL : Hid (((Sha.turned 54 (y.data.toList.take i)).map Sha.byteV).length ≤ 128 ∧ ((Sha.turned 92 (y.data.toList.take i)).map Sha.byteV).length ≤ 128) := by
              refine ⟨?_, ?_⟩ <;> (rw [List.length_map, Sha.turned_length, List.length_take]; omega)
            go_region_law (first
              | (refine TwoRows.step_append (w0 := w) (e := 5) (v1 := u5) (v2 := u6) rfl (.tmp 24) (.tmp 29) 44 rfl i0 (.int .u8 0) 1 under46 hif hz0 hz1 hz2 rfl rfl (HT.out.drew.alloc _) wr.heap.size 1 (.int .u8 ((y[i] ^^^ 54).toNat)) rfl (TwoRows.cell_new wr.drew _ _) rfl (by have := HL.out.1; omega) (by have := HL.out.1; unfold maxLen; omega) ?_
                 intro v1 w1 hT1 hg1)
              | (refine TwoRows.step_append (w0 := w) (e := 5) (v1 := u5) (v2 := u6) rfl (.tmp 24) (.tmp 29) 44 rfl i0 (.int .u8 0) 1 under46 hif hz0 hz1 hz2 rfl rfl ((HT.out.drew.alloc _).alloc _) wr.heap.size 1 (.int .u8 ((y[i] ^^^ 54).toNat)) rfl (TwoRows.cell_old2 wr.drew _ _ _) rfl (by have := HL.out.1; omega) (by have := HL.out.1; unfold maxLen; omega) ?_
                 intro v1 w1 hT1 hg1
                 have hcB := HT.out.cell (g := wr.heap.size + 1) hg1 (TwoRows.cell_new2 wr.drew _ _ _) (by omega))
              | (refine TwoRows.step_append (w0 := w) (e := 5) (v1 := u5) (v2 := u6) rfl (.tmp 24) (.tmp 29) 44 rfl i0 (.int .u8 0) 1 under46 hif hz0 hz1 hz2 rfl rfl ((HT.out.drew.alloc _).alloc _) (wr.heap.size + 1) 1 (.int .u8 ((y[i] ^^^ 54).toNat)) rfl (TwoRows.cell_new2 wr.drew _ _ _) rfl (by have := HL.out.1; omega) (by have := HL.out.1; unfold maxLen; omega) ?_
                 intro v1 w1 hT1 hg1
                 have hcB := HT.out.cell (g := wr.heap.size) hg1 (TwoRows.cell_old2 wr.drew _ _ _) (by omega))
              | (refine TwoRows.step_append (w0 := w) (e := 5) (v1 := u6) (v2 := v1) rfl (.tmp 31) (.tmp 36) 44 rfl i0 (.int .u8 0) 1 under46 hif hz0 hz1 hz2 rfl rfl (hT1.alloc _).symm w1.heap.size 1 (.int .u8 ((y[i] ^^^ 92).toNat)) rfl (TwoRows.cell_new w1 _ _) rfl (by have := HL.out.2; omega) (by have := HL.out.2; unfold maxLen; omega) ?_
                 intro v2 w2 hT2 _)
              | (refine TwoRows.step_append (w0 := w) (e := 5) (v1 := u6) (v2 := v1) rfl (.tmp 31) (.tmp 36) 44 rfl i0 (.int .u8 0) 1 under46 hif hz0 hz1 hz2 rfl rfl hT1.symm (wr.heap.size + 1) 1 (.int .u8 ((y[i] ^^^ 92).toNat)) rfl hcB rfl (by have := HL.out.2; omega) (by have := HL.out.2; unfold maxLen; omega) ?_
                 intro v2 w2 hT2 _)
              | (refine TwoRows.step_append (w0 := w) (e := 5) (v1 := u6) (v2 := v1) rfl (.tmp 31) (.tmp 36) 44 rfl i0 (.int .u8 0) 1 under46 hif hz0 hz1 hz2 rfl rfl hT1.symm wr.heap.size 1 (.int .u8 ((y[i] ^^^ 92).toNat)) rfl hcB rfl (by have := HL.out.2; omega) (by have := HL.out.2; unfold maxLen; omega) ?_
                 intro v2 w2 hT2 _))
            all_goals
              clear h54 h92 hif hz0 hz1 hz2 hg1
              go_wp2
              go_roundw
              case rel =>
                refine ⟨i + 1, by omega, by go_num, ?_⟩
                rw [Sha.turned_next hcy, Sha.turned_next hcy]
                exact hT2.symm
              case measure => simp [intOf]; omega
          · have hi8 : i = 128 := by omega
            subst hi8
            obtain ⟨F, hF⟩ : ∃ F, F = Sha.filled k.data.toList := ⟨_, rfl⟩
            have hF128 : F.length = 128 := by rw [hF, Sha.filled_length]
            have ht : y.data.toList.take 128 = F := by rw [HF.out.1, hF, List.take_of_length_le (by rw [Sha.filled_length]; exact Nat.le_refl _)]
            rw [ht] at HT
            have HR : Hid ((∀ w', (∃ p : Regrown, w' = grow (redrawn wr p.d) p.os) → ByteRow.Has w.heap.size w' u5 (Sha.turned 54 F)) ∧ (∀ w', (∃ p : Regrown, w' = grow (redrawn wr p.d) p.os) → ByteRow.Has w.heap.size w' u6 (Sha.turned 92 F))) := by
              refine ⟨?_, ?_⟩
              · rintro w' ⟨p, rfl⟩
                exact (ByteRow.Has.of_own (n := (Sha.turned 54 F).length) (by simpa using HT.out.1)).below (below_regrown wr p.d p.os) (Nat.le_refl _)
              · rintro w' ⟨p, rfl⟩
                exact (ByteRow.Has.of_own (n := (Sha.turned 92 F).length) (by simpa using HT.out.2.1)).below (below_regrown wr p.d p.os) (Nat.le_refl _)
            have HB : Hid (Below w.heap.size w wr) := HT.out.2.2.2
            have hn54 : Sha.turned 54 F ≠ [] := by rw [ne_eq, ← List.length_eq_zero_iff, Sha.turned_length]; omega
            have hn92 : Sha.turned 92 F ≠ [] := by rw [ne_eq, ← List.length_eq_zero_iff, Sha.turned_length]; omega
            obtain ⟨ti, hti⟩ : ∃ ti : ByteArray, ti = ⟨(Sha.turned 54 F).toArray⟩ := ⟨_, rfl⟩
            obtain ⟨tu, htu⟩ : ∃ tu : ByteArray, tu = ⟨(Sha.turned 92 F).toArray⟩ := ⟨_, rfl⟩
            have hsi : ti.size = 128 := by rw [hti]; show (Sha.turned 54 F).toArray.size = _; rw [List.size_toArray, Sha.turned_length, hF128]
            have hso : tu.size = 128 := by rw [htu]; show (Sha.turned 92 F).toArray.size = _; rw [List.size_toArray, Sha.turned_length, hF128]
            obtain ⟨di, hdi⟩ : ∃ di : ByteArray, di = ⟨(Sha.sum (ti ++ s).data.toList).toArray⟩ := ⟨_, rfl⟩
            have hsd : di.size = 32 := by rw [hdi]; show (Sha.sum (ti ++ s).data.toList).toArray.size = _; rw [List.size_toArray, Sha.sum_length]
            have HS1 : Hid (∀ d os, Calls Tryz.prog 68 #[.string (ti ++ s)] (grow (redrawn wr d) os) fun e w'' => e = .returned (.string di) ∧ ∃ p : Regrown, w'' = grow (redrawn wr p.d) p.os) := by
              intro d os; rw [hdi]; exact Calls.regrown_of (rsum_any _ _ (by rw [Sha.app_size]; omega))
            have HS2 : Hid (∀ d os, Calls Tryz.prog 68 #[.string (tu ++ di)] (grow (redrawn wr d) os) fun e w'' => e = .returned (.string ⟨(Sha.tag k.data.toList s.data.toList).toArray⟩) ∧ ∃ p : Regrown, w'' = grow (redrawn wr p.d) p.os) := by
              intro d os
              have e : Sha.tag k.data.toList s.data.toList = Sha.sum (tu ++ di).data.toList := by
                rw [Sha.tag, ← hF, Sha.app_list, hdi, htu, Sha.app_list, hti]
              rw [e]; exact Calls.regrown_of (rsum_any _ _ (by rw [Sha.app_size]; omega))
            have hc1 : ¬ 9223372036854775807 < 128 + s.size := by omega
            have HI : Hid ((⟨(Sha.turned 54 F).toArray⟩ : ByteArray) = ti ∧ (⟨(Sha.turned 92 F).toArray⟩ : ByteArray) = tu) := ⟨hti.symm, htu.symm⟩
            clear hti htu hdi HT ht HF hif hz0 hz1 hz2
            go_wp2_with fail
            refine wp_region_quiet_below (by kernel_rfl) (by kernel_rfl) ?_
            quiet_step (fail)
            refine ByteRow.quiet_to_string rfl 44 9 5 _ rfl (Sha.turned 92 F) rfl HR.out.2 hn92 under46 shaUnder5 shaUnder9 ?_
            rw [HI.out.2]
            quiet_step (fail)
            refine ByteRow.quiet_to_string rfl 44 9 5 _ rfl (Sha.turned 54 F) rfl HR.out.1 hn54 under46 shaUnder5 shaUnder9 ?_
            rw [HI.out.1]
            quiet_step (fail)
            quiet_step (fail)
            quiet_step (exact HS1.out _ _)
            quiet_step (fail)
            quiet_step (exact HS2.out _ _)
            quiet_step (fail)
            refine wpQuiet_nil ?_
            rintro _ ⟨⟨dq, osq⟩, rfl⟩
            go_wp2
            go_ret
            exact ⟨rfl, HB.out.trans ((below_regrown wr dq osq).mono HB.out.size)⟩
end Go.Proofs.YtkbboddibgfjbaaGreatDoor
/- Keys and tags of one seed, reckoned by the kernel. -/
namespace Go.Sha
def seedB : List UInt8 := [115, 101, 101, 100]
def textB : List UInt8 := [116, 101, 120, 116]
def testB : List UInt8 := [116, 101, 115, 116]
def key0 : List UInt8 := [209, 83, 139, 228, 44, 77, 176, 0, 81, 182, 119, 99, 217, 234, 183, 72, 177, 132, 91, 239, 12, 30, 182, 109, 47, 100, 157, 69, 34, 74, 50, 37]
def key1 : List UInt8 := [180, 74, 140, 209, 12, 6, 247, 220, 73, 153, 131, 172, 45, 197, 231, 58, 102, 86, 71, 41, 248, 26, 182, 225, 4, 62, 226, 182, 82, 67, 9, 126]
def tag1 : List UInt8 := [124, 211, 109, 104, 57, 72, 103, 162, 126, 203, 24, 128, 87, 167, 66, 184, 77, 245, 1, 51, 102, 237, 186, 26, 8, 51, 188, 11, 2, 38, 171, 124]
set_option maxRecDepth 100000 in
theorem key0_is : ringKey seedB 0 = key0 := by decide +kernel
set_option maxRecDepth 100000 in
theorem key1_is : ringKey seedB 1 = key1 := by decide +kernel
set_option maxRecDepth 100000 in
theorem tag1_is : tag key1 textB = tag1 := by decide +kernel
set_option maxRecDepth 100000 in
theorem test1_not : ¬ tag key1 testB = tag1 := by decide +kernel
set_option maxRecDepth 100000 in
theorem text0_not : ¬ tag key0 textB = tag1 := by decide +kernel
end Go.Sha
/- The contracts of a key by the document, and of the program being awake: one tag that is right, two that are not. -/
namespace Go.Mac
def seedS : ByteArray := ⟨#[115, 101, 101, 100]⟩
def textS : ByteArray := ⟨#[116, 101, 120, 116]⟩
def testS : ByteArray := ⟨#[116, 101, 115, 116]⟩
theorem tag_seed1 : Sha.tag (keyOf seedS 1).data.toList textS.data.toList = Sha.tag1 := by
  show Sha.tag (Sha.ringKey Sha.seedB 1) Sha.textB = _
  rw [Sha.key1_is, Sha.tag1_is]
theorem tag_test1 : ¬ Sha.tag1 = Sha.tag (keyOf seedS 1).data.toList testS.data.toList := by
  show ¬ Sha.tag1 = Sha.tag (Sha.ringKey Sha.seedB 1) Sha.testB
  rw [Sha.key1_is]
  exact fun h => Sha.test1_not h.symm
theorem tag_seed0 : ¬ Sha.tag1 = Sha.tag (keyOf seedS 0).data.toList textS.data.toList := by
  show ¬ Sha.tag1 = Sha.tag (Sha.ringKey Sha.seedB 0) Sha.textB
  rw [Sha.key0_is]
  exact fun h => Sha.text0_not h.symm
end Go.Mac
namespace Go.Proofs.YtkbboddibgfjbaaGreatDoor
open Go.RowKit
open Go.Sort
theorem one_back' (w : World) (c : UInt8) : (convert 44 9 (.slice (some ⟨w.heap.size, 0, none⟩) 1 1)).run Tryz.prog (w.alloc (.cells #[.int .u8 c.toNat] 5)) = .ok (.string ⟨#[c]⟩) (w.alloc (.cells #[.int .u8 c.toNat] 5)) :=
  run_convert_bytes_back (P := Tryz.prog) _ 44 9 5 ⟨w.heap.size, 0, none⟩ 1 [c] under46 shaUnder5 shaUnder9 (fun j hj => by
    match j, hj with
    | 0, _ => exact TwoRows.cell_new w _ _)
theorem reads_two' (w : World) (A : Obj) (a b : ByteArray) (e : TypeId) : StrRow.Reads ((w.alloc A).alloc (.cells #[.string a, .string b] e)) (.slice (some ⟨w.heap.size + 1, 0, none⟩) 2 2) [a, b] := reads_two w A a b e
theorem rtagged_key (v : Value) (seed : ByteArray) (i : Nat) (w : World) (hr : StrRow.Reads w v [seed, ⟨#[UInt8.ofNat i]⟩]) (hs : seed.size ≤ 700) :
    Calls Tryz.prog 51 #[.int .u8 82, v] w fun e w' => e = .returned (.string (Mac.keyOf seed i)) ∧ Below w.heap.size w w' :=
  rtagged_any 82 v [seed, ⟨#[UInt8.ofNat i]⟩] w hr (by simp) (by
    intro s h
    simp at h
    rcases h with rfl | rfl
    · omega
    · show (1 : Nat) ≤ 2000000; decide)
end Go.Proofs.YtkbboddibgfjbaaGreatDoor
