/- Several texts in one: ShaAll, ShaEnding, ShaPadded, ShaSum. -/
import Derived.Test.YtkbboddibgfjbaaGreatDoorRows
import Derived.Test.YtkbboddibgfjbaaGreatDoorShaOne
import Derived.WalkKit
import Derived.WalkSpells
import Derived.WalkLawsBesides
import Derived.Deep.QuietTactic
import Derived.Deep.RegionWith
import Derived.Test.YtkbboddibgfjbaaGreatDoorPureSha
import Derived.BigQuiet
import Derived.Deep.WholeRow
import Derived.Lib.QuietBelow
import Derived.Deep.DeepCutAuto
/- The contract of mixing in bytes that are whole blocks. -/
namespace Go.Proofs.YtkbboddibgfjbaaGreatDoor
open Go.RowKit
open Go.Sort
theorem ShaW.st_one (u : Sha.St) : u.cells.all (·.oneCell') = true := by simp [Sha.St.cells, Value.oneCell']
theorem ShaW.st_size (u : Sha.St) : u.cells.size = 8 := rfl
theorem mix_st (t : Sha.St) (s : ByteArray) (w : World) (hs : s.size = 128) (hst : Steps w) :
    Calls Tryz.prog 158 #[.agg #[.int .u64 t.a, .int .u64 t.b, .int .u64 t.c, .int .u64 t.d, .int .u64 t.e, .int .u64 t.f, .int .u64 t.g, .int .u64 t.h], .string s] w fun e1 w' => e1 = .returned (.agg (Sha.mix t s.data.toList).cells) ∧ Below w.heap.size w w' :=
  mix_any t.a t.b t.c t.d t.e t.f t.g t.h s w hs hst
set_option maxRecDepth 100000 in
set_option maxHeartbeats 1000000 in
theorem mixAll_any (t : Sha.St) (s : ByteArray) (w : World) (hs : s.size ≤ 20000000) (hst : Steps w) :
    Calls Tryz.prog 123 #[.agg #[.int .u64 t.a, .int .u64 t.b, .int .u64 t.c, .int .u64 t.d, .int .u64 t.e, .int .u64 t.f, .int .u64 t.g, .int .u64 t.h], .string s] w fun e1 w' => e1 = .returned (.agg (Sha.mixAll t s.data.toList).cells) ∧ Below w.heap.size w w' := by
  have h0 := hst.pos
  have Hst : Hid (Steps w) := hst
  clear hst
  go_enter Tryz.func123, Tryz.ntmps123
  go_wp2_with fail
  go_loopw [1] (fun v wr => ∃ (r : ByteArray) (u : Sha.St), v = .string r ∧ r.size ≤ 20000000 ∧ Hid (Sha.mixAll u r.data.toList = Sha.mixAll t s.data.toList ∧ wr.heap[w.heap.size]? = some (.cells u.cells 177 (0, 0)) ∧ wr.heap[w.heap.size + 1]? = some (Obj.cells #[Value.int IntKind.u64 0, Value.int IntKind.u64 0, Value.int IntKind.u64 0, Value.int IntKind.u64 0, Value.int IntKind.u64 0, Value.int IntKind.u64 0, Value.int IntKind.u64 0, Value.int IntKind.u64 0] 177) ∧ Steps wr ∧ Below w.heap.size w wr ∧ w.heap.size + 2 ≤ wr.heap.size)) (fun v _ => match v with | .string r => r.size | _ => 0)
  case atStart =>
    refine ⟨s, t, rfl, hs, rfl, heap_alloc2_old _ _ _, heap_alloc2_new _ _ _, ?_, ((Below.refl _ _).alloc (Nat.le_refl _) _).alloc (by simp) _, by simp⟩
    exact (Hst.out.alloc _).alloc _
  case round =>
    obtain ⟨r, u, rfl, hr, HH⟩ := hrel
    by_cases hlt : 128 ≤ r.size
    · have c0 := cell_regrown (ShaW.cell (j := 0) HH.out.2.1 rfl)
      have c1 := cell_regrown (ShaW.cell (j := 1) HH.out.2.1 rfl)
      have c2 := cell_regrown (ShaW.cell (j := 2) HH.out.2.1 rfl)
      have c3 := cell_regrown (ShaW.cell (j := 3) HH.out.2.1 rfl)
      have c4 := cell_regrown (ShaW.cell (j := 4) HH.out.2.1 rfl)
      have c5 := cell_regrown (ShaW.cell (j := 5) HH.out.2.1 rfl)
      have c6 := cell_regrown (ShaW.cell (j := 6) HH.out.2.1 rfl)
      have c7 := cell_regrown (ShaW.cell (j := 7) HH.out.2.1 rfl)
      have hr2 : (128 : Int) ≤ r.size := by omega
      have cM : ∀ d os, Calls Tryz.prog 158 #[.agg #[.int .u64 u.a, .int .u64 u.b, .int .u64 u.c, .int .u64 u.d, .int .u64 u.e, .int .u64 u.f, .int .u64 u.g, .int .u64 u.h], .string (r.extract 0 128)] (grow (redrawn wr d) os) fun e w'' => e = .returned (.agg (Sha.mix u (r.extract 0 128).data.toList).cells) ∧ ∃ p : Regrown, w'' = grow (redrawn wr p.d) p.os := fun d os => Calls.regrown_of (mix_st u _ _ (by simp; omega) (HH.out.2.2.2.1.below (below_regrown wr d os) HH.out.2.2.2.1.pos))
      have HcM : Hid _ := cM
      clear cM
      go_wp2_with fail
      refine QTail.wp_region_tail (fun w' => ∃ p : Regrown, w' = grow (redrawn wr p.d) p.os) 4 (by kernel_rfl) (by kernel_rfl) ⟨⟨wr.drawn + 1, #[]⟩, by rw [grow_empty]; rfl⟩ ?_
      simp only [List.take_succ_cons, List.take_zero, List.drop_succ_cons, List.drop_zero]
      repeat (first | go_big_quiet_step (exact HcM.out _ _) | quiet_step (exact HcM.out _ _))
      refine wpQuiet_nil ?_
      rintro _ ⟨⟨dq, osq⟩, rfl⟩
      generalize hmx : Sha.mix u (r.extract 0 128).data.toList = x
      have HMX : Hid (x = Sha.mix u (r.extract 0 128).data.toList) := hmx.symm
      clear hmx HcM
      have hbl := below_regrown wr dq osq
      generalize grow (redrawn wr dq) osq = V at hbl
      have HG : Hid (V.heap[w.heap.size]? = some (.cells u.cells 177 (0, 0))) := by
        have := hbl.block w.heap.size (by have := HH.out.2.2.2.2.2; omega)
        exact this.trans HH.out.2.1
      have HB : Hid (Below wr.heap.size wr V) := hbl
      clear hbl c0 c1 c2 c3 c4 c5 c6 c7
      refine wpList_store_row rfl 177 _ _ rfl _ _ rfl rfl 177 _ HG.out (by rw [ShaW.st_size]; exact info23) (by rw [ShaW.st_size, ShaW.st_size]) (ShaW.st_one _) ?_
      go_wp2
      go_roundw
      case rel =>
        obtain ⟨h1, h2, h3, h4, h5, h6⟩ := HH.out
        have hb := HB.out
        refine ⟨r.extract 128 r.size, x, rfl, by simp; omega, ?_, setRow_heap _ _ _ _ _ _ HG.out, ?_, ?_, ?_, ?_⟩
        · rw [← h1, ← Sha.mixAll_extract u r hlt, ← HMX.out]
        · rw [setRow_other _ _ _ _ (by omega), hb.block _ (by omega)]; exact h3
        · exact Steps.by (ShaW.below_setRow (B := 1 + 1) (hb.mono (by omega)) (by omega) _) (by omega) h4
        · exact ShaW.below_setRow (h5.trans (hb.mono (by omega))) (Nat.le_refl _) _
        · have := hb.size; simp; omega
      case measure => simp; omega
    · have he : Sha.mixAll t s.data.toList = u := by rw [← HH.out.1, Sha.mixAll_end _ _ (by simp; omega)]
      have HE : Hid (Sha.mixAll t s.data.toList = u) := he
      have c0 := ShaW.cell (j := 0) HH.out.2.1 rfl
      have c1 := ShaW.cell (j := 1) HH.out.2.1 rfl
      have c2 := ShaW.cell (j := 2) HH.out.2.1 rfl
      have c3 := ShaW.cell (j := 3) HH.out.2.1 rfl
      have c4 := ShaW.cell (j := 4) HH.out.2.1 rfl
      have c5 := ShaW.cell (j := 5) HH.out.2.1 rfl
      have c6 := ShaW.cell (j := 6) HH.out.2.1 rfl
      have c7 := ShaW.cell (j := 7) HH.out.2.1 rfl
      clear he
      go_wp2_with (first | refine wpList_load_row rfl 177 _ rfl _ rfl 177 _ (0, 0) _ HH.out.2.1 under23 rfl (by rw [ShaW.st_size]; exact info23) ?_ | refine wpList_store_row rfl 177 _ _ rfl _ _ rfl rfl 177 _ HH.out.2.2.1 (by rw [ShaW.st_size]; exact info23) (by rw [ShaW.st_size]; rfl) (ShaW.st_one u) ?_)
      exact bodyPost_ret (v := .agg u.cells) (results_cell_row Tryz.results123 _ _ _ 177 _ (0, 0) _ rfl (setRow_heap _ _ _ _ _ _ HH.out.2.2.1) under23 rfl (by rw [ShaW.st_size]; exact info23)) rfl ⟨by rw [HE.out], ShaW.below_setRow HH.out.2.2.2.2.1 (by omega) _⟩
end Go.Proofs.YtkbboddibgfjbaaGreatDoor
/- The contract of what stands behind the whole blocks of a text: the mark, the zeros, the count of bits. -/
namespace Go.Proofs.YtkbboddibgfjbaaGreatDoor
open Go.RowKit
theorem shaUnder5 : Tryz.prog.underlying 5 = some (.int .u8) := by kernel_rfl
theorem shaUnder9 : Tryz.prog.underlying 9 = some .string := by kernel_rfl
set_option maxRecDepth 100000 in
set_option maxHeartbeats 1000000 in
theorem ending_any (r : ByteArray) (n : Nat) (w : World) (hr : r.size < 128) (hn : n ≤ 20000000) :
    Calls Tryz.prog 125 #[.string r, .int .i64 n] w fun e w' => e = .returned (.string ⟨(Sha.ended r.data.toList n).toArray⟩) ∧ Below w.heap.size w w' := by
  obtain ⟨i0, hi, hz0, hz1, hz2⟩ := info_parts shaInfo5
  go_enter Tryz.func125, Tryz.ntmps125
  go_wp2_with (refine ByteRow.of_string _ rfl 9 44 5 _ rfl r rfl shaUnder9 under46 shaUnder5 ?_)
  intro v1 w1 hh1 hb1
  go_wp2_with (at_builtin; refine ByteRow.append _ rfl _ _ 44 rfl 5 i0 under46 hi hz0 hz1 hz2 w.heap.size _ r.data.toList rfl (hh1.alloc _) ?_ ⟨w1.heap.size, 0, none⟩ 1 1 [128] rfl rfl (ShaW.news_byte _ _ _ _ (by rfl)) ?_ ?_)
  · have := hb1.size; simp; omega
  · simp; omega
  intro v2 w2 hh2 hb2
  obtain ⟨a2, c2, hv2⟩ := hh2.length_of
  have e2 : (r.data.toList ++ [(128 : UInt8)]).length = r.size + 1 := by simp
  rw [e2] at hv2
  clear e2
  subst hv2
  have HS : Hid (ByteRow.Has w.heap.size w2 (.slice a2 (r.size + 1) c2) (r.data.toList ++ [128]) ∧ Below w.heap.size w w2 ∧ w.heap.size ≤ w2.heap.size) := ⟨hh2, (hb1.alloc (by have := hb1.size; omega) _).trans hb2, by have := hb2.size; have := hb1.size; simp at *; omega⟩
  clear hh1 hb1 hh2 hb2
  go_wp2_with fail
  go_loopw [5] (fun v wr => ∃ (k : Nat) (a : Option Addr) (c : Nat), v = .slice a (r.size + 1 + k) c ∧ k ≤ Sha.zeros r.size ∧ Hid (ByteRow.Has w.heap.size wr v (Sha.part r.data.toList k) ∧ Below w.heap.size w wr ∧ w.heap.size ≤ wr.heap.size)) (fun v _ => match v with | .slice _ n _ => 10000 - n | _ => 0)
  case atStart => exact ⟨0, a2, c2, by simp, by omega, by exact HS.out⟩
  case round =>
    clear HS
    obtain ⟨k, a, c, rfl, hk, HH⟩ := hrel
    have hz : Sha.zeros r.size < 128 := by unfold Sha.zeros; omega
    by_cases hlt : (r.size + 1 + k) % 128 = 112
    · have hdone : Sha.part r.data.toList k = Sha.marked r.data.toList := Sha.part_done _ _ (by simpa using hk) (by rw [Sha.part_length]; simpa using hlt)
      have HM : Hid (ByteRow.Has w.heap.size wr (.slice a (r.size + 1 + k) c) (Sha.marked r.data.toList) ∧ Below w.heap.size w wr ∧ w.heap.size ≤ wr.heap.size) := by rw [← hdone]; exact HH.out
      have hlen : (Sha.marked r.data.toList).length = r.size + 1 + k := by rw [← hdone, Sha.part_length]; simp
      have HL : Hid ((Sha.marked r.data.toList).length = r.size + 1 + k) := hlen
      clear HH hdone hlen
      go_wp2_with fail
      refine (mul64_any n _ hn).mono ?_
      rintro e w' ⟨rfl, rfl⟩
      go_wp2_with fail
      refine (shaNumber_any w.heap.size _ (Sha.marked r.data.toList) 0 8 _ HM.out.1 HM.out.2.2 (by rw [HL.out]; omega) (by omega)).mono ?_
      rintro e w3 ⟨v3, rfl, hh3, hb3⟩
      have HN : Hid (ByteRow.Has w.heap.size w3 v3 (Sha.marked r.data.toList ++ Sha.be 0 8) ∧ Below w.heap.size w w3 ∧ w.heap.size ≤ w3.heap.size) := ⟨hh3, HM.out.2.1.trans hb3, by have := hb3.size; have := HM.out.2.2; omega⟩
      clear hh3 hb3 HM
      go_wp2_with fail
      refine (shaNumber_any w.heap.size _ (Sha.marked r.data.toList ++ Sha.be 0 8) (8 * n) 8 _ HN.out.1 HN.out.2.2 (by rw [List.length_append, HL.out, Sha.be_length]; omega) (by omega)).mono ?_
      rintro e w4 ⟨v4, rfl, hh4, hb4⟩
      have HO : Hid (ByteRow.Has w.heap.size w4 v4 (Sha.ended r.data.toList n) ∧ Below w.heap.size w w4) := ⟨by unfold Sha.ended; rw [← List.append_assoc]; exact hh4, HN.out.2.1.trans hb4⟩
      clear hh4 hb4 HN
      go_wp2_with (refine ByteRow.to_string _ rfl 44 9 5 _ rfl (Sha.ended r.data.toList n) rfl HO.out.1 (by simp [Sha.ended, Sha.marked]) under46 shaUnder5 shaUnder9 ?_)
      go_ret
      exact ⟨rfl, HO.out.2⟩
    · go_wp2_with (at_builtin; refine ByteRow.append _ rfl _ _ 44 rfl 5 i0 under46 hi hz0 hz1 hz2 w.heap.size _ (Sha.part r.data.toList k) rfl (HH.out.1.alloc _) ?_ ⟨wr.heap.size, 0, none⟩ 1 1 [0] rfl rfl (ShaW.news_byte _ _ _ _ (by rfl)) ?_ ?_)
      · have := HH.out.2.2; simp; omega
      · rw [Sha.part_length]; simp; omega
      · intro v3 w3 hh3 hb3
        rw [Sha.part_snoc] at hh3
        obtain ⟨a3, c3, hv3⟩ := hh3.length_of
        have e3 : (Sha.part r.data.toList (k + 1)).length = r.size + 1 + (k + 1) := by rw [Sha.part_length]; simp
        rw [e3] at hv3
        clear e3
        subst hv3
        have hkk : k + 1 ≤ Sha.zeros r.size := by
          have := Sha.part_more r.data.toList k (by simpa using hk) (by rw [Sha.part_length]; simpa using hlt)
          simpa using this
        have HR : Hid (ByteRow.Has w.heap.size w3 (.slice a3 (r.size + 1 + (k + 1)) c3) (Sha.part r.data.toList (k + 1)) ∧ Below w.heap.size w w3 ∧ w.heap.size ≤ w3.heap.size) := ⟨hh3, (HH.out.2.1.alloc HH.out.2.2 _).trans hb3, by have := hb3.size; have := HH.out.2.2; simp at *; omega⟩
        clear hh3 hb3 HH
        go_wp2
        go_roundw
        case rel => exact ⟨k + 1, a3, c3, rfl, hkk, HR.out⟩
        case measure => simp; omega
end Go.Proofs.YtkbboddibgfjbaaGreatDoor
/- The contract of a text with what stands behind it, in the reference. -/
namespace Go.Proofs.YtkbboddibgfjbaaGreatDoor
open Go.RowKit
theorem u5' : Tryz.prog.underlying 5 = some (.int .u8) := by kernel_rfl
theorem u9' : Tryz.prog.underlying 9 = some .string := by kernel_rfl
set_option maxRecDepth 100000 in
set_option maxHeartbeats 1000000 in
theorem padded_any (s : ByteArray) (w : World) (hs : s.size ≤ 20000000) :
    Calls Tryz.prog 107 #[.string s] w fun e w' => e = .returned (.string ⟨(Sha.ended s.data.toList s.size).toArray⟩) ∧ Below w.heap.size w w' := by
  have hz : Sha.zeros s.size < 128 := by unfold Sha.zeros; omega
  go_enter Tryz.func107, Tryz.ntmps107
  go_wp2_with fail
  go_loop [0] (fun v => ∃ (k : Nat) (r : ByteArray), v = .string r ∧ k ≤ Sha.zeros s.size ∧ r.size = s.size + 1 + k ∧ Hid (r.data.toList = Sha.part s.data.toList k)) (fun v => match v with | .string r => 40000000 - r.size | _ => 0)
  case atStart => exact ⟨0, _, rfl, Nat.zero_le _, by rw [Sha.app_size]; rfl, by show (s ++ (⟨#[128]⟩ : ByteArray)).data.toList = _; rw [Sha.app_list]; rfl⟩
  case round =>
    obtain ⟨k, r, rfl, hk, hr, HR⟩ := hrel
    have hr2 : (r.size : Int) ≤ 20000200 := by omega
    by_cases hlt : (s.size + 1 + k) % 128 = 112
    · go_wp2
      have hN : (s.size : Int) * 8 = 8 * s.size := by omega
      rw [hN]
      clear hN
      have HD : Hid (Sha.part s.data.toList k = Sha.marked s.data.toList) := Sha.part_done _ _ (by simpa using hk) (by rw [Sha.part_length]; simpa using hlt)
      go_loopw [3, 4, 5] (fun vn vt vi wr => ∃ (j : Nat) (t : ByteArray), j ≤ 8 ∧ vi = .int .i64 j ∧ vn = .int .u64 (8 * (s.size : Int) / 2 ^ (8 * j)) ∧ vt = .string t ∧ t.size ≤ 100 ∧ Hid (t.data.toList = Sha.be (8 * (s.size : Int)) j ∧ Below w.heap.size w wr)) (fun _ _ vi _ => 8 - (intOf vi).toNat)
      case atStart => exact ⟨0, _, by omega, rfl, by simp, rfl, by show (0 : Nat) ≤ 100; omega, rfl, Below.refl _ _⟩
      case round =>
        obtain ⟨j, t, hj, rfl, rfl, rfl, ht, HT⟩ := hrel
        by_cases hlj : j < 8
        · have hX0 : 0 ≤ 8 * (s.size : Int) / 2 ^ (8 * j) := Int.ediv_nonneg (by omega) (Int.pow_nonneg (by decide))
          have hX1 : 8 * (s.size : Int) / 2 ^ (8 * j) ≤ 160000000 := Int.le_trans (Int.ediv_le_self _ (by omega)) (by omega)
          have HY : Hid (8 * (s.size : Int) / 2 ^ (8 * j) / 256 = 8 * (s.size : Int) / 2 ^ (8 * (j + 1))) := Sha.div_next _ _
          have HZ : Hid (Sha.be (8 * (s.size : Int)) (j + 1) = [Sha.byteOf (8 * (s.size : Int) / 2 ^ (8 * j))] ++ Sha.be (8 * (s.size : Int)) j) := Sha.be_head _ _
          generalize 8 * (s.size : Int) / 2 ^ (8 * j) = X at *
          go_wp2_with (refine ByteRow.to_string _ rfl 44 9 5 _ rfl [Sha.byteOf X] rfl (ByteRow.Has.one HT.out.2.size _ _ (Sha.byteV_of X).symm _) (by simp) under46 u5' u9' ?_)
          go_roundw
          case rel =>
            refine ⟨j + 1, _, by omega, by go_num, by rw [HY.out], rfl, ?_, ?_, HT.out.2.alloc HT.out.2.size _⟩
            · have hlt8 := congrArg List.length HT.out.1
              rw [Sha.be_length] at hlt8
              have : t.data.toList.length = t.size := by simp
              rw [Sha.app_size]
              show 1 + t.size ≤ 100
              omega
            · rw [Sha.app_list, HT.out.1, HZ.out]
          case measure => simp [intOf]; omega
        · have hj8 : j = 8 := by omega
          subst hj8
          go_wp2
          go_ret
          refine ⟨?_, HT.out.2⟩
          show Ending.returned (Value.string ((r ++ (⟨#[0, 0, 0, 0, 0, 0, 0, 0]⟩ : ByteArray)) ++ t)) = _
          have hb : (r ++ (⟨#[0, 0, 0, 0, 0, 0, 0, 0]⟩ : ByteArray)) ++ t = ⟨(Sha.ended s.data.toList s.size).toArray⟩ := by
            apply Sha.ba_ext
            rw [Sha.app_list, Sha.app_list, HR.out, HD.out, HT.out.1, Sha.ended, ← List.append_assoc]
            rfl
          rw [hb]
    · go_wp2
      go_round
      case rel =>
        have hm := Sha.part_more s.data.toList k (by simpa using hk) (by rw [Sha.part_length]; simpa using hlt)
        exact ⟨k + 1, _, rfl, by simpa using hm, by rw [Sha.app_size, hr]; rfl, by show (r ++ (⟨#[0]⟩ : ByteArray)).data.toList = _; rw [Sha.app_list, HR.out]; exact Sha.part_snoc _ _⟩
      case measure => show 40000000 - (r ++ (⟨#[0]⟩ : ByteArray)).size < 40000000 - r.size; rw [Sha.app_size, hr]; show 40000000 - (s.size + 1 + k + 1) < _; omega
end Go.Proofs.YtkbboddibgfjbaaGreatDoor
/- The contract of the digest of bytes. -/
namespace Go.Proofs.YtkbboddibgfjbaaGreatDoor
open Go.RowKit
open Go.Sort
set_option maxRecDepth 100000 in
theorem ShaW.idx8 (u : Sha.St) (k : Nat) (h : k < 8) : ∀ w, (Instr.index 177 (.agg u.cells) (.int .i64 k)).run Tryz.prog w = .ok (.int .u64 (u.nth k)) w := by
  match k, h with
  | 0, _ => exact fun _ => by kernel_rfl
  | 1, _ => exact fun _ => by kernel_rfl
  | 2, _ => exact fun _ => by kernel_rfl
  | 3, _ => exact fun _ => by kernel_rfl
  | 4, _ => exact fun _ => by kernel_rfl
  | 5, _ => exact fun _ => by kernel_rfl
  | 6, _ => exact fun _ => by kernel_rfl
  | 7, _ => exact fun _ => by kernel_rfl
theorem ShaW.box_cells {w : World} {g : Nat} (h : w.heap[g]? = some (Obj.cells #[Value.int IntKind.u64 0, Value.int IntKind.u64 0, Value.int IntKind.u64 0, Value.int IntKind.u64 0, Value.int IntKind.u64 0, Value.int IntKind.u64 0, Value.int IntKind.u64 0, Value.int IntKind.u64 0] 177 (0, 0))) : ∀ j, j < 8 → w.cell? ⟨g, j, none⟩ = some (.int .u64 0) := by
  intro j hj
  rw [cell_of_row _ _ _ _ _ _ h]
  match j, hj with
  | 0, _ => rfl
  | 1, _ => rfl
  | 2, _ => rfl
  | 3, _ => rfl
  | 4, _ => rfl
  | 5, _ => rfl
  | 6, _ => rfl
  | 7, _ => rfl
theorem ShaW.box_frozen {w : World} {g : Nat} (h : w.heap[g]? = some (Obj.cells #[Value.int IntKind.u64 0, Value.int IntKind.u64 0, Value.int IntKind.u64 0, Value.int IntKind.u64 0, Value.int IntKind.u64 0, Value.int IntKind.u64 0, Value.int IntKind.u64 0, Value.int IntKind.u64 0] 177 (0, 0))) : ∀ j, w.frozen? ⟨g, j, none⟩ = false := fun _ => frozen_of_row _ _ _ _ _ h
theorem ShaW.arr8 (z a b c d e f g h : Value) : ((((((((#[z, z, z, z, z, z, z, z].setIfInBounds 0 a).setIfInBounds 1 b).setIfInBounds 2 c).setIfInBounds 3 d).setIfInBounds 4 e).setIfInBounds 5 f).setIfInBounds 6 g).setIfInBounds 7 h) = #[a, b, c, d, e, f, g, h] := by simp
theorem ShaW.below8 {B : Nat} {w w2 : World} (hb : Below B w w2) {g : Nat} (hg : B ≤ g) (a b c d e f g' h : Value) :
    Below B w ((((((((w2.setCell ⟨g, 0, none⟩ a).setCell ⟨g, 1, none⟩ b).setCell ⟨g, 2, none⟩ c).setCell ⟨g, 3, none⟩ d).setCell ⟨g, 4, none⟩ e).setCell ⟨g, 5, none⟩ f).setCell ⟨g, 6, none⟩ g').setCell ⟨g, 7, none⟩ h) :=
  (((((((hb.setCell (p := ⟨g, 0, none⟩) hg _).setCell (p := ⟨g, 1, none⟩) hg _).setCell (p := ⟨g, 2, none⟩) hg _).setCell (p := ⟨g, 3, none⟩) hg _).setCell (p := ⟨g, 4, none⟩) hg _).setCell (p := ⟨g, 5, none⟩) hg _).setCell (p := ⟨g, 6, none⟩) hg _).setCell (p := ⟨g, 7, none⟩) hg _
theorem ShaW.set8 {w : World} {g : Nat} (h : w.heap[g]? = some (Obj.cells #[Value.int IntKind.u64 0, Value.int IntKind.u64 0, Value.int IntKind.u64 0, Value.int IntKind.u64 0, Value.int IntKind.u64 0, Value.int IntKind.u64 0, Value.int IntKind.u64 0, Value.int IntKind.u64 0] 177 (0, 0))) (u : Sha.St) :
    ((((((((w.setCell ⟨g, 0, none⟩ (.int .u64 u.a)).setCell ⟨g, 1, none⟩ (.int .u64 u.b)).setCell ⟨g, 2, none⟩ (.int .u64 u.c)).setCell ⟨g, 3, none⟩ (.int .u64 u.d)).setCell ⟨g, 4, none⟩ (.int .u64 u.e)).setCell ⟨g, 5, none⟩ (.int .u64 u.f)).setCell ⟨g, 6, none⟩ (.int .u64 u.g)).setCell ⟨g, 7, none⟩ (.int .u64 u.h)).heap[g]? = some (.cells u.cells 177 (0, 0)) := by
  have h0 := heap_setCell_same w g 0 _ 177 (.int .u64 u.a) h
  have h1 := heap_setCell_same _ g 1 _ 177 (.int .u64 u.b) h0
  have h2 := heap_setCell_same _ g 2 _ 177 (.int .u64 u.c) h1
  have h3 := heap_setCell_same _ g 3 _ 177 (.int .u64 u.d) h2
  have h4 := heap_setCell_same _ g 4 _ 177 (.int .u64 u.e) h3
  have h5 := heap_setCell_same _ g 5 _ 177 (.int .u64 u.f) h4
  have h6 := heap_setCell_same _ g 6 _ 177 (.int .u64 u.g) h5
  have h7 := heap_setCell_same _ g 7 _ 177 (.int .u64 u.h) h6
  rw [ShaW.arr8] at h7
  exact h7
/-- A block that was laid stays through what is done above it. -/
theorem ShaW.kept2 {W w1 w2 : World} (hb1 : Below W.heap.size W w1) (hb2 : Below w1.heap.size w1 w2) {g : Nat} {o : Obj} (hW : W.heap[g]? = some o) (hg : g < W.heap.size) : w2.heap[g]? = some o := by
  have h1 := hb1.size
  rw [hb2.block _ (by omega), hb1.block _ (by omega)]
  exact hW
theorem ShaW.kept1 {W w2 : World} (hb2 : Below W.heap.size W w2) {g : Nat} {o : Obj} (hW : W.heap[g]? = some o) (hg : g < W.heap.size) : w2.heap[g]? = some o := by
  rw [hb2.block _ (by omega)]
  exact hW
set_option maxRecDepth 100000 in
set_option maxHeartbeats 1000000 in
theorem sum_any (s : ByteArray) (w : World) (hs : s.size ≤ 20000000) (hst : Steps w) :
    Calls Tryz.prog 81 #[.string s] w fun e w' => e = .returned (.string ⟨(Sha.sum s.data.toList).toArray⟩) ∧ Below w.heap.size w w' := by
  have Hst : Hid (Steps w) := hst
  have h0 := hst.pos
  clear hst
  obtain ⟨k, hk⟩ : ∃ k : Nat, k = s.size - s.size % 128 := ⟨_, rfl⟩
  have hk1 : (k : Int) ≤ s.size := by omega
  have hk2 : ((s.size : Int) - (s.size : Int) % 128) = k := by omega
  have hkm : k % 128 = 0 := by omega
  have hkl : s.size - k < 128 := by omega
  have HK : Hid (k = s.size - s.size % 128) := hk
  clear hk
  go_enter Tryz.func81, Tryz.ntmps81
  go_wp2_with fail
  go_cut [4] (fun p wr => ∃ b, p = .pointer (some ⟨b, 0, none⟩) ∧ Hid (w.heap.size ≤ b ∧ wr.heap[b]? = some (.cells (Sha.mixAll Sha.start (s.data.toList.take k)).cells 177 (0, 0)) ∧ Below w.heap.size w wr))
  case first =>
    go_region_with (first | (go_at_call 124; refine (start_any _).mono ?_; rintro e w1 ⟨rfl, hb1⟩) | (go_at_call 123; go_must (refine (mixAll_any Sha.start _ _ (by rw [ByteArray.size_extract]; omega) (by first | exact Steps.by hb1 h0 Hst.out | exact (Steps.by hb1 h0 Hst.out).alloc _ | exact Steps.by hb1 (Hst.out.alloc _).pos (Hst.out.alloc _))).mono ?_); rintro e w2 ⟨rfl, hb2⟩; simp only [Sha.St.cells]; first | (have hg := ShaW.kept2 hb1 hb2 (g := w.heap.size) (o := (Obj.cells #[Value.int IntKind.u64 0, Value.int IntKind.u64 0, Value.int IntKind.u64 0, Value.int IntKind.u64 0, Value.int IntKind.u64 0, Value.int IntKind.u64 0, Value.int IntKind.u64 0, Value.int IntKind.u64 0] 177 (0, 0))) (by exact heap_alloc_new _ _) (by simp); have hc := ShaW.box_cells hg; have hf := ShaW.box_frozen hg; have HG : Hid _ := hg; clear hg) | (have hg := ShaW.kept1 hb2 (g := w1.heap.size) (o := (Obj.cells #[Value.int IntKind.u64 0, Value.int IntKind.u64 0, Value.int IntKind.u64 0, Value.int IntKind.u64 0, Value.int IntKind.u64 0, Value.int IntKind.u64 0, Value.int IntKind.u64 0, Value.int IntKind.u64 0] 177 (0, 0))) (by exact heap_alloc_new _ _) (by simp); have hc := ShaW.box_cells hg; have hf := ShaW.box_frozen hg; have HG : Hid _ := hg; clear hg) | skip))
    · go_wp2
      go_meet
      case rel =>
        have h1 := hb1.size
        have h2 := hb2.size
        exact ⟨w2.heap.size, rfl, by show w.heap.size ≤ w2.heap.size; exact Nat.le_trans h1 h2, heap_alloc_new _ _, ((((Below.refl _ _).drew).trans hb1).trans (hb2.mono h1)).alloc (Nat.le_trans h1 h2) _⟩
    · go_wp2
      go_meet
      case rel =>
        have h1 : w.heap.size ≤ w1.heap.size := hb1.size
        have hb : Below w.heap.size w w2 := ((((Below.refl _ _).drew).trans hb1).alloc h1 _).trans (hb2.mono (by simp; omega))
        exact ⟨w1.heap.size, rfl, h1, ShaW.set8 HG.out _, ShaW.below8 hb h1 _ _ _ _ _ _ _ _⟩
    · go_wp2
      go_meet
      case rel =>
        have h1 := hb1.size
        have h2 := hb2.size
        have hb : Below w.heap.size w w2 := (((((Below.refl w.heap.size w).alloc (Nat.le_refl _) _).drew).trans (hb1.mono (by simp)))).trans (hb2.mono (by simp at h1; omega))
        exact ⟨w.heap.size, rfl, Nat.le_refl _, ShaW.set8 HG.out _, ShaW.below8 hb (Nat.le_refl _) _ _ _ _ _ _ _ _⟩
  case rest =>
    obtain ⟨b, rfl, HB⟩ := hcut
    obtain ⟨u, hu⟩ : ∃ u, u = Sha.mixAll Sha.start (s.data.toList.take k) := ⟨_, rfl⟩
    have HB2 : Hid (w.heap.size ≤ b ∧ wc.heap[b]? = some (.cells u.cells 177 (0, 0)) ∧ Below w.heap.size w wc ∧ Steps wc ∧ b < wc.heap.size) := by
      rw [hu]
      refine ⟨HB.out.1, HB.out.2.1, HB.out.2.2, Steps.by HB.out.2.2 h0 Hst.out, ?_⟩
      rcases Nat.lt_or_ge b wc.heap.size with h | h
      · exact h
      · have := HB.out.2.1; rw [Array.getElem?_eq_none h] at this; cases this
    have HU : Hid (u = Sha.mixAll Sha.start (s.data.toList.take k)) := hu
    clear hu HB Hst
    have c0 := cell_regrown (ShaW.cell (j := 0) HB2.out.2.1 rfl)
    have c1 := cell_regrown (ShaW.cell (j := 1) HB2.out.2.1 rfl)
    have c2 := cell_regrown (ShaW.cell (j := 2) HB2.out.2.1 rfl)
    have c3 := cell_regrown (ShaW.cell (j := 3) HB2.out.2.1 rfl)
    have c4 := cell_regrown (ShaW.cell (j := 4) HB2.out.2.1 rfl)
    have c5 := cell_regrown (ShaW.cell (j := 5) HB2.out.2.1 rfl)
    have c6 := cell_regrown (ShaW.cell (j := 6) HB2.out.2.1 rfl)
    have c7 := cell_regrown (ShaW.cell (j := 7) HB2.out.2.1 rfl)
    obtain ⟨E, hE⟩ : ∃ E, E = Sha.ended (s.extract k s.size).data.toList s.size := ⟨_, rfl⟩
    have HE : Hid (∀ d os, Calls Tryz.prog 125 #[.string (s.extract k s.size), .int .i64 s.size] (grow (redrawn wc d) os) fun e w'' => e = .returned (.string ⟨E.toArray⟩) ∧ ∃ p : Regrown, w'' = grow (redrawn wc p.d) p.os) := by
      intro d os
      rw [hE]
      exact Calls.regrown_of (ending_any _ _ _ (by rw [ByteArray.size_extract]; omega) hs)
    have hsz : (⟨E.toArray⟩ : ByteArray).size ≤ 20000000 := by
      have h1 : (s.extract k s.size).data.toList.length < 128 := by
        have : (s.extract k s.size).size < 128 := by rw [ByteArray.size_extract]; omega
        simpa using this
      have h2 : (Sha.ended (s.extract k s.size).data.toList s.size).length = (s.extract k s.size).data.toList.length + 1 + Sha.zeros (s.extract k s.size).data.toList.length + 16 := by
        simp only [Sha.ended, List.length_append, Sha.marked_length, Sha.be_length]
      have h3 : Sha.zeros (s.extract k s.size).data.toList.length < 128 := by unfold Sha.zeros; omega
      show E.toArray.size ≤ 20000000
      rw [List.size_toArray, hE, h2]
      omega
    have HM : Hid (∀ (d : Nat) (os : Array Obj), Calls Tryz.prog 123 #[.agg #[.int .u64 u.a, .int .u64 u.b, .int .u64 u.c, .int .u64 u.d, .int .u64 u.e, .int .u64 u.f, .int .u64 u.g, .int .u64 u.h], .string ⟨E.toArray⟩] (grow (redrawn wc d) os) fun e w'' => e = .returned (.agg (Sha.mixAll u E).cells) ∧ ∃ p : Regrown, w'' = grow (redrawn wc p.d) p.os) :=
      fun d os => Calls.regrown_of (mixAll_any u _ _ hsz (Steps.by (below_regrown wc d os) HB2.out.2.2.2.1.pos HB2.out.2.2.2.1))
    have HEE : Hid (E = Sha.ended (s.extract k s.size).data.toList s.size) := hE
    clear hsz hE
    go_wp2_with fail
    refine QTail.wp_region_tail (fun w' => ∃ p : Regrown, w' = grow (redrawn wc p.d) p.os) 8 (by kernel_rfl) (by kernel_rfl) ⟨⟨wc.drawn + 1, #[]⟩, by rw [grow_empty]; rfl⟩ ?_
    simp only [List.take_succ_cons, List.take_zero, List.drop_succ_cons, List.drop_zero]
    repeat (first | go_big_quiet_step (first | (go_at_call 125; exact HE.out _ _) | (go_at_call 123; exact HM.out _ _)) | quiet_step (first | (go_at_call 125; exact HE.out _ _) | (go_at_call 123; exact HM.out _ _)))
    refine wpQuiet_nil ?_
    rintro _ ⟨⟨dq, osq⟩, rfl⟩
    generalize hmx : Sha.mixAll u E = x
    have HX : Hid (Sha.out x = Sha.sum s.data.toList) := by
      rw [← hmx, HEE.out, HU.out]
      exact Sha.sum_two s k hkm (by omega)
    clear hmx HM HE
    have hbl := below_regrown wc dq osq
    generalize grow (redrawn wc dq) osq = V at hbl
    have HG : Hid (V.heap[b]? = some (.cells u.cells 177 (0, 0)) ∧ Below w.heap.size w V ∧ w.heap.size ≤ b) := by
      obtain ⟨h1, h2, h3, h4, h5⟩ := HB2.out
      exact ⟨(hbl.block b h5).trans h2, h3.trans (hbl.mono h3.size), h1⟩
    clear hbl c0 c1 c2 c3 c4 c5 c6 c7
    refine wpList_store_row rfl 177 _ _ rfl _ _ rfl rfl 177 _ HG.out.1 (by rw [ShaW.st_size]; exact info23) (by rw [ShaW.st_size, ShaW.st_size]) (ShaW.st_one _) ?_
    have hW : (V.setRow b x.cells).heap[b]? = some (.cells x.cells 177 (0, 0)) := setRow_heap _ _ _ _ _ _ HG.out.1
    have hbW : Below w.heap.size w (V.setRow b x.cells) := ShaW.below_setRow HG.out.2.1 HG.out.2.2 _
    generalize V.setRow b x.cells = W at hW hbW
    have HW : Hid (W.heap[b]? = some (.cells x.cells 177 (0, 0)) ∧ Below w.heap.size w W) := ⟨hW, hbW⟩
    clear hW hbW HG HB2
    go_wp2_with (refine wpList_load_row rfl 177 _ rfl _ rfl 177 _ (0, 0) _ HW.out.1 under23 rfl (by rw [ShaW.st_size]; exact info23) ?_)
    go_loopw [5, 28] (fun v i wr => ∃ j : Nat, j ≤ 8 ∧ i = .int .i64 j ∧ Hid (ByteRow.Has w.heap.size wr v (Sha.outN x j) ∧ Below w.heap.size w wr)) (fun _ i _ => 8 - (intOf i).toNat)
    case atStart => exact ⟨0, by omega, rfl, ByteRow.Has.nil _ _, HW.out.2⟩
    case round =>
      obtain ⟨j, hj, rfl, HH⟩ := hrel
      by_cases hlt : j < 8
      · have hidx := ShaW.idx8 x j hlt
        go_wp2_with fail
        refine (shaNumber_any w.heap.size _ (Sha.outN x j) (x.nth j) 8 _ HH.out.1 HH.out.2.size (by rw [Sha.outN_length]; omega) (by omega)).mono ?_
        rintro e w3 ⟨v3, rfl, hh3, hb3⟩
        have HR : Hid (ByteRow.Has w.heap.size w3 v3 (Sha.outN x (j + 1)) ∧ Below w.heap.size w w3) := ⟨hh3, HH.out.2.trans hb3⟩
        clear hh3 hb3 hidx
        go_wp2
        go_roundw
        case rel => exact ⟨j + 1, by omega, by go_num, HR.out⟩
        case measure => simp [intOf]; omega
      · have hj8 : j = 8 := by omega
        subst hj8
        obtain ⟨g, cap, hv, hcap⟩ := HH.out.1.form (by rw [ne_eq, ← List.length_eq_zero_iff, Sha.outN_length]; omega)
        rw [Sha.outN_length] at hv hcap
        subst hv
        have hcap2 : (64 : Int) ≤ cap := by omega
        have hhf : ByteRow.Has w.heap.size wr (.slice (some ⟨g, 0, none⟩) 32 cap) (Sha.out x) := by
          rw [← Sha.outN_out]
          refine ByteRow.Has.front ?_ (by rw [Sha.outN_length]; omega)
          rw [Sha.outN_length]
          exact HH.out.1
        have HF : Hid (ByteRow.Has w.heap.size wr (.slice (some ⟨g, 0, none⟩) 32 cap) (Sha.sum s.data.toList)) := by rw [← HX.out]; exact hhf
        clear hhf
        go_wp2_with (refine ByteRow.to_string _ rfl 44 9 5 _ rfl (Sha.sum s.data.toList) rfl HF.out (by rw [ne_eq, ← List.length_eq_zero_iff, Sha.sum_length]; omega) under46 shaUnder5 shaUnder9 ?_)
        go_ret
        exact ⟨rfl, HH.out.2⟩
end Go.Proofs.YtkbboddibgfjbaaGreatDoor
