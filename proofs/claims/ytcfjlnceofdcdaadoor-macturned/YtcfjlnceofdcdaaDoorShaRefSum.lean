/- The contract of the digest of bytes, in the reference. -/
import Derived.Test.YtcfjlnceofdcdaaDoorRows
import Derived.Test.YtcfjlnceofdcdaaDoorShaRefMix
import Derived.Test.YtcfjlnceofdcdaaDoorShaPadded
import Derived.Test.YtcfjlnceofdcdaaDoorShaSum
import Derived.WalkKit
import Derived.WalkSpells
import Derived.WalkLawsBesides
import Derived.Deep.QuietTactic
import Derived.Deep.RegionWith
import Derived.Test.YtcfjlnceofdcdaaDoorTail
import Derived.BigQuiet
import Derived.Deep.WholeRow
import Derived.Lib.QuietBelow
namespace Go.Proofs.YtcfjlnceofdcdaaDoor
open Go.RowKit
open Go.Sort
theorem rmix_st (t : Sha.St) (s : ByteArray) (w : World) (hs : s.size = 128) :
    Calls Tryd.prog 30 #[.agg #[.int .u64 t.a, .int .u64 t.b, .int .u64 t.c, .int .u64 t.d, .int .u64 t.e, .int .u64 t.f, .int .u64 t.g, .int .u64 t.h], .string s] w fun e1 w' => e1 = .returned (.agg (Sha.mix t s.data.toList).cells) ∧ Below w.heap.size w w' :=
  rmix_any t.a t.b t.c t.d t.e t.f t.g t.h s w hs
set_option maxRecDepth 100000 in
set_option maxHeartbeats 1000000 in
theorem rsum_any (s : ByteArray) (w : World) (hs : s.size ≤ 900000) :
    Calls Tryd.prog 20 #[.string s] w fun e w' => e = .returned (.string ⟨(Sha.sum s.data.toList).toArray⟩) ∧ Below w.heap.size w w' := by
  obtain ⟨T, hT⟩ : ∃ T : ByteArray, T = ⟨(Sha.ended s.data.toList s.size).toArray⟩ := ⟨_, rfl⟩
  have hTl : T.data.toList = Sha.ended s.data.toList s.size := by rw [hT]
  have hTs : T.size = T.data.toList.length := by simp
  have hTm : T.size % 128 = 0 := by rw [hTs, hTl]; exact Sha.ended_length _ _
  have hTb : T.size ≤ 1000000 := by
    rw [hTs, hTl]
    simp only [Sha.ended, List.length_append, Sha.marked_length, Sha.be_length]
    have : Sha.zeros s.data.toList.length < 128 := by unfold Sha.zeros; omega
    have : s.data.toList.length = s.size := by simp
    omega
  have HT : Hid (T = ⟨(Sha.ended s.data.toList s.size).toArray⟩ ∧ T.data.toList = Sha.ended s.data.toList s.size) := ⟨hT, hTl⟩
  obtain ⟨q, hq⟩ : ∃ q, T.size = 128 * q := ⟨T.size / 128, by omega⟩
  have HQ : Hid (T.size = 128 * q) := hq
  have hqi : (T.size : Int) ≤ 1000000 := by omega
  clear hT hTl hTs hTm hq
  go_enter Tryd.func20, Tryd.ntmps20
  go_wp2_with fail
  refine (padded_any s _ (by omega)).mono ?_
  rw [← HT.out.1]
  rintro e w1 ⟨rfl, hb1⟩
  go_wp2_with fail
  refine (rstart_any _).mono ?_
  rintro e w2 ⟨rfl, hb2⟩
  go_wp2_with (refine wpList_store_row rfl 52 _ _ rfl _ _ rfl rfl 52 _ (heap_alloc_new _ _) (by rw [ShaW.st_size]; exact info23) (by rfl) (ShaW.st_one _) ?_)
  rw [World.setRow_alloc_new]
  have hbW : Below w.heap.size w (w2.alloc (Obj.cells Sha.start.cells 52)) := by
    have h1 := hb1.size
    have h2 := hb2.size
    exact (hb1.trans (hb2.mono h1)).alloc (by omega) _
  have hWb : (w2.alloc (Obj.cells Sha.start.cells 52)).heap[w2.heap.size]? = some (.cells Sha.start.cells 52 (0, 0)) := heap_alloc_new _ _
  have hbb : w.heap.size ≤ w2.heap.size := Nat.le_trans hb1.size hb2.size
  generalize w2.alloc (Obj.cells Sha.start.cells 52) = W at hbW hWb
  generalize w2.heap.size = b at hWb hbb
  clear hb1 hb2
  have HW : Hid (W.heap[b]? = some (.cells Sha.start.cells 52 (0, 0)) ∧ Below w.heap.size w W) := ⟨hWb, hbW⟩
  clear hWb hbW
  go_loopw [5] (fun v wr => ∃ (m : Nat) (u : Sha.St), m ≤ q ∧ v = .int .i64 (128 * (m : Int)) ∧ Hid (u = Sha.mixN Sha.start T.data.toList m ∧ wr.heap[b]? = some (.cells u.cells 52 (0, 0)) ∧ Below w.heap.size w wr)) (fun v _ => 2000000 - (intOf v).toNat)
  case atStart => exact ⟨0, Sha.start, by omega, rfl, rfl, HW.out.1, HW.out.2⟩
  case round =>
    clear HW
    obtain ⟨m, u, hm, rfl, HH⟩ := hrel
    have HL : Hid (b < wr.heap.size) := by
      rcases Nat.lt_or_ge b wr.heap.size with h | h
      · exact h
      · have := HH.out.2.1; rw [Array.getElem?_eq_none h] at this; cases this
    by_cases hlt : m < q
    · have hq1 : 128 * (m : Int) + 128 ≤ T.size := by have := HQ.out; omega
      have c0 := cell_regrown (ShaW.cell (j := 0) HH.out.2.1 rfl)
      have c1 := cell_regrown (ShaW.cell (j := 1) HH.out.2.1 rfl)
      have c2 := cell_regrown (ShaW.cell (j := 2) HH.out.2.1 rfl)
      have c3 := cell_regrown (ShaW.cell (j := 3) HH.out.2.1 rfl)
      have c4 := cell_regrown (ShaW.cell (j := 4) HH.out.2.1 rfl)
      have c5 := cell_regrown (ShaW.cell (j := 5) HH.out.2.1 rfl)
      have c6 := cell_regrown (ShaW.cell (j := 6) HH.out.2.1 rfl)
      have c7 := cell_regrown (ShaW.cell (j := 7) HH.out.2.1 rfl)
      obtain ⟨x, hx⟩ : ∃ x, x = Sha.mix u (T.extract (128 * m) (128 * m + 128)).data.toList := ⟨_, rfl⟩
      have HM : Hid (∀ (d : Nat) (os : Array Obj), Calls Tryd.prog 30 #[.agg #[.int .u64 u.a, .int .u64 u.b, .int .u64 u.c, .int .u64 u.d, .int .u64 u.e, .int .u64 u.f, .int .u64 u.g, .int .u64 u.h], .string (T.extract (128 * m) (128 * m + 128))] (grow (redrawn wr d) os) fun e w'' => e = .returned (.agg x.cells) ∧ ∃ p : Regrown, w'' = grow (redrawn wr p.d) p.os) := by
        intro d os
        rw [hx]
        exact Calls.regrown_of (rmix_st u _ _ (by rw [ByteArray.size_extract]; omega))
      have HX : Hid (x = Sha.mixN Sha.start T.data.toList (m + 1)) := by
        have e1 : 128 * m + 128 - 128 * m = 128 := by omega
        have e2 := HH.out.1
        show x = _
        rw [hx, Sha.mixN_succ, ← e2, Sha.extract_list, e1]
      clear hx
      go_wp2_with fail
      refine QTail.wp_region_tail (fun w' => ∃ p : Regrown, w' = grow (redrawn wr p.d) p.os) 7 (by kernel_rfl) (by kernel_rfl) ⟨⟨wr.drawn + 1, #[]⟩, by rw [grow_empty]; rfl⟩ ?_
      simp only [List.take_succ_cons, List.take_zero, List.drop_succ_cons, List.drop_zero]
      repeat (first | go_big_quiet_step ((go_at_call 30; exact HM.out _ _)) | quiet_step ((go_at_call 30; exact HM.out _ _)))
      refine wpQuiet_nil ?_
      rintro _ ⟨⟨dq, osq⟩, rfl⟩
      clear HM
      have hbl := below_regrown wr dq osq
      generalize grow (redrawn wr dq) osq = V at hbl
      have HG : Hid (V.heap[b]? = some (.cells u.cells 52 (0, 0)) ∧ Below w.heap.size w V) := by
        obtain ⟨h1, h2, h3⟩ := HH.out
        exact ⟨(hbl.block b HL.out).trans h2, h3.trans (hbl.mono h3.size)⟩
      clear hbl c0 c1 c2 c3 c4 c5 c6 c7
      refine wpList_store_row rfl 52 _ _ rfl _ _ rfl rfl 52 _ HG.out.1 (by rw [ShaW.st_size]; exact info23) (by rw [ShaW.st_size, ShaW.st_size]) (ShaW.st_one _) ?_
      go_wp2
      go_roundw
      case rel => exact ⟨m + 1, x, by omega, by go_num, HX.out, setRow_heap _ _ _ _ _ _ HG.out.1, ShaW.below_setRow HG.out.2 hbb _⟩
      case measure => simp [intOf]; omega
    · have hmq : m = q := by omega
      subst hmq
      have hq1 : (T.size : Int) = 128 * (m : Int) := by have := HQ.out; omega
      have HU : Hid (Sha.out u = Sha.sum s.data.toList) := by
        have e : Sha.mixN Sha.start T.data.toList m = Sha.mixAll Sha.start T.data.toList := by
          unfold Sha.mixAll
          have : T.data.toList.length = T.size := by simp
          rw [this, HQ.out, Nat.mul_div_cancel_left _ (by decide)]
        have e2 : s.data.toList.length = s.size := by simp
        have e3 := HH.out.1
        have e4 := HT.out.2
        show Sha.out u = _
        rw [e3, e, e4, Sha.sum, e2]
      go_wp2_with fail
      go_loopw [6, 7] (fun vo vi wr2 => ∃ (i : Nat) (o : ByteArray), i ≤ 32 ∧ vi = .int .i64 i ∧ vo = .string o ∧ o.size ≤ 32 ∧ Hid (o.data.toList = (Sha.out u).take i ∧ wr2.heap[b]? = some (.cells u.cells 52 (0, 0)) ∧ Below w.heap.size w wr2)) (fun _ vi _ => 32 - (intOf vi).toNat)
      case atStart => exact ⟨0, _, by omega, rfl, rfl, by show (0 : Nat) ≤ 32; omega, rfl, HH.out.2.1, HH.out.2.2⟩
      case round =>
        clear HH HL
        obtain ⟨i, o, hi, rfl, rfl, ho, HH⟩ := hrel
        by_cases hli : i < 32
        · have hc : wr.cell? ⟨b, i / 8, none⟩ = some (.int .u64 (u.nth (i / 8))) := ShaW.cell HH.out.2.1 (Sha.cells_nth _ _ (by omega))
          have hi2 : (i : Int) < 32 := by omega
          have HO : Hid ((Sha.out u).take (i + 1) = (Sha.out u).take i ++ [Sha.byteOf (u.nth (i / 8) / 2 ^ (56 - i % 8 * 8))]) := Sha.take_next (Sha.out_at u i hli)
          go_wp2_with (refine ByteRow.to_string _ rfl 40 9 5 _ rfl [Sha.byteOf (u.nth (i / 8) / 2 ^ (56 - i % 8 * 8))] rfl (ByteRow.Has.one HH.out.2.2.size _ _ (Sha.byteV_of _).symm _) (by simp) under46 u5' u9' ?_)
          go_roundw
          case rel =>
            refine ⟨i + 1, _, by omega, by go_num, rfl, ?_, ?_, ?_, HH.out.2.2.alloc HH.out.2.2.size _⟩
            · have e1 := congrArg List.length HH.out.1
              rw [List.length_take_of_le (by rw [Sha.out_length]; omega)] at e1
              have e2 : o.data.toList.length = o.size := by simp
              rw [Sha.app_size]
              show o.size + 1 ≤ 32
              omega
            · have e1 := HH.out.1
              have e2 := HO.out
              show _ = _
              rw [Sha.app_list, e1, e2]
            · rw [heap_alloc_old _ _ (by
                rcases Nat.lt_or_ge b wr.heap.size with h | h
                · exact h
                · have := HH.out.2.1; rw [Array.getElem?_eq_none h] at this; cases this)]
              exact HH.out.2.1
          case measure => simp [intOf]; omega
        · have hi32 : i = 32 := by omega
          subst hi32
          go_wp2
          go_ret
          refine ⟨?_, HH.out.2.2⟩
          have hb : o = ⟨(Sha.sum s.data.toList).toArray⟩ := by
            apply Sha.ba_ext
            have e1 := HH.out.1
            have e2 := HU.out
            rw [e1, List.take_of_length_le (by rw [Sha.out_length]; omega), e2]
          show Ending.returned (Value.string o) = _
          rw [hb]
end Go.Proofs.YtcfjlnceofdcdaaDoor
