/- Several texts in one: ShaBig. -/
import Derived.Test.YtcdmdpafkiljdaaDoorShaThree
/- The digest's contracts once more, of texts up to 2^47 bytes: what is laid is never longer than the text and few bytes. -/
namespace Go.Proofs.YtcdmdpafkiljdaaDoor
open Go.RowKit
open Go.Sort
set_option maxRecDepth 100000 in
set_option maxHeartbeats 1000000 in
theorem mul64_big (n : Nat) (w : World) (hn : n ≤ 140737488355328) :
    Calls Tryd.prog 74 #[.int .u64 n, .int .u64 8] w fun e w' => e = .returned (.tuple #[.int .u64 0, .int .u64 (8 * n)]) ∧ w' = w := by
  have h1 : bits .and .u64 (n : Int) 4294967295 = (n : Int) % 4294967296 := and_low32 _ (by omega) (by omega)
  have h2 : bits .and .u64 8 4294967295 = 8 := by decide +kernel
  have h4 : IntKind.u64.wrap ((n : Int) * 8) = 8 * n := by rw [IntKind.wrap_u64]; omega
  have h6 : bits .and .u64 0 4294967295 = 0 := by decide +kernel
  obtain ⟨x0, hx0, hx0'⟩ : ∃ x0 : Nat, (n : Int) % 4294967296 = x0 ∧ x0 < 4294967296 := ⟨n % 4294967296, by omega, by omega⟩
  obtain ⟨x1, hx1, hx1'⟩ : ∃ x1 : Nat, (n : Int) / 4294967296 = x1 ∧ x1 ≤ 32768 := ⟨n / 4294967296, by omega, by omega⟩
  rw [hx0] at h1
  have h7 : bits .and .u64 ((x1 : Int) * 8 + (x0 : Int) * 8 / 4294967296) 4294967295 = (x1 : Int) * 8 + (x0 : Int) * 8 / 4294967296 := by rw [and_low32 _ (by omega) (by omega)]; omega
  have h9 : ((x1 : Int) * 8 + (x0 : Int) * 8 / 4294967296) / 4294967296 = 0 := by omega
  have h10 : IntKind.u64.wrap ((x1 : Int) * 8 + (x0 : Int) * 8 / 4294967296) = (x1 : Int) * 8 + (x0 : Int) * 8 / 4294967296 := by rw [IntKind.wrap_u64]; omega
  go_enter Tryd.func74, Tryd.ntmps74
  go_wp2
  go_ret2
  exact ⟨rfl, rfl⟩

set_option maxRecDepth 100000 in
set_option maxHeartbeats 1000000 in
theorem mixAll_big (t : Sha.St) (s : ByteArray) (w : World) (hs : s.size ≤ 140737488355328) (hst : Steps w) :
    Calls Tryd.prog 51 #[.agg #[.int .u64 t.a, .int .u64 t.b, .int .u64 t.c, .int .u64 t.d, .int .u64 t.e, .int .u64 t.f, .int .u64 t.g, .int .u64 t.h], .string s] w fun e1 w' => e1 = .returned (.agg (Sha.mixAll t s.data.toList).cells) ∧ Below w.heap.size w w' := by
  have h0 := hst.pos
  have Hst : Hid (Steps w) := hst
  clear hst
  go_enter Tryd.func51, Tryd.ntmps51
  go_wp2_with fail
  go_loopw [1] (fun v wr => ∃ (r : ByteArray) (u : Sha.St), v = .string r ∧ r.size ≤ 140737488355328 ∧ Hid (Sha.mixAll u r.data.toList = Sha.mixAll t s.data.toList ∧ wr.heap[w.heap.size]? = some (.cells u.cells 87 (0, 0)) ∧ wr.heap[w.heap.size + 1]? = some (Obj.cells #[Value.int IntKind.u64 0, Value.int IntKind.u64 0, Value.int IntKind.u64 0, Value.int IntKind.u64 0, Value.int IntKind.u64 0, Value.int IntKind.u64 0, Value.int IntKind.u64 0, Value.int IntKind.u64 0] 87) ∧ Steps wr ∧ Below w.heap.size w wr ∧ w.heap.size + 2 ≤ wr.heap.size)) (fun v _ => match v with | .string r => r.size | _ => 0)
  case atStart =>
    refine ⟨s, t, rfl, hs, rfl, heap_alloc2_old _ _ _, heap_alloc2_new _ _ _, ?_, ((Below.refl _ _).alloc (Nat.le_refl _) _).alloc (by simp) _, by simp⟩
    exact (Hst.out.alloc _).alloc _
  case round =>
    obtain ⟨r, u, rfl, hr, HH⟩ := hrel
    by_cases hlt : 128 ≤ r.size
    · have c0 := cell_regrown (ShaW.cell (j := 0) HH.out.2.1 rfl)
      have c1 := cell_regrown (ShaW.cell (j := 1) HH.out.2.1 rfl)
      have c2 := cell_regrown (ShaW.cell (j := 2) HH.out.2.1 rfl)
      have c3 := cell_regrown (ShaW.cell (j := 3) HH.out.2.1 rfl)
      have c4 := cell_regrown (ShaW.cell (j := 4) HH.out.2.1 rfl)
      have c5 := cell_regrown (ShaW.cell (j := 5) HH.out.2.1 rfl)
      have c6 := cell_regrown (ShaW.cell (j := 6) HH.out.2.1 rfl)
      have c7 := cell_regrown (ShaW.cell (j := 7) HH.out.2.1 rfl)
      have hr2 : (128 : Int) ≤ r.size := by omega
      have cM : ∀ d os, Calls Tryd.prog 73 #[.agg #[.int .u64 u.a, .int .u64 u.b, .int .u64 u.c, .int .u64 u.d, .int .u64 u.e, .int .u64 u.f, .int .u64 u.g, .int .u64 u.h], .string (r.extract 0 128)] (grow (redrawn wr d) os) fun e w'' => e = .returned (.agg (Sha.mix u (r.extract 0 128).data.toList).cells) ∧ ∃ p : Regrown, w'' = grow (redrawn wr p.d) p.os := fun d os => Calls.regrown_of (mix_st u _ _ (by simp; omega) (HH.out.2.2.2.1.below (below_regrown wr d os) HH.out.2.2.2.1.pos))
      have HcM : Hid _ := cM
      clear cM
      go_wp2_with fail
      refine QTail.wp_region_tail (fun w' => ∃ p : Regrown, w' = grow (redrawn wr p.d) p.os) 4 (by kernel_rfl) (by kernel_rfl) ⟨⟨wr.drawn + 1, #[]⟩, by rw [grow_empty]; rfl⟩ ?_
      simp only [List.take_succ_cons, List.take_zero, List.drop_succ_cons, List.drop_zero]
      repeat (first | go_big_quiet_step (exact HcM.out _ _) | quiet_step (exact HcM.out _ _))
      refine wpQuiet_nil ?_
      rintro _ ⟨⟨dq, osq⟩, rfl⟩
      generalize hmx : Sha.mix u (r.extract 0 128).data.toList = x
      have HMX : Hid (x = Sha.mix u (r.extract 0 128).data.toList) := hmx.symm
      clear hmx HcM
      have hbl := below_regrown wr dq osq
      generalize grow (redrawn wr dq) osq = V at hbl
      have HG : Hid (V.heap[w.heap.size]? = some (.cells u.cells 87 (0, 0))) := by
        have := hbl.block w.heap.size (by have := HH.out.2.2.2.2.2; omega)
        exact this.trans HH.out.2.1
      have HB : Hid (Below wr.heap.size wr V) := hbl
      clear hbl c0 c1 c2 c3 c4 c5 c6 c7
      refine wpList_store_row rfl 87 _ _ rfl _ _ rfl rfl 87 _ HG.out (by rw [ShaW.st_size]; exact info23) (by rw [ShaW.st_size, ShaW.st_size]) (ShaW.st_one _) ?_
      go_wp2
      go_roundw
      case rel =>
        obtain ⟨h1, h2, h3, h4, h5, h6⟩ := HH.out
        have hb := HB.out
        refine ⟨r.extract 128 r.size, x, rfl, by simp; omega, ?_, setRow_heap _ _ _ _ _ _ HG.out, ?_, ?_, ?_, ?_⟩
        · rw [← h1, ← Sha.mixAll_extract u r hlt, ← HMX.out]
        · rw [setRow_other _ _ _ _ (by omega), hb.block _ (by omega)]; exact h3
        · exact Steps.by (ShaW.below_setRow (B := 0 + 1) (hb.mono (by omega)) (by omega) _) (by omega) h4
        · exact ShaW.below_setRow (h5.trans (hb.mono (by omega))) (Nat.le_refl _) _
        · have := hb.size; simp; omega
      case measure => simp; omega
    · have he : Sha.mixAll t s.data.toList = u := by rw [← HH.out.1, Sha.mixAll_end _ _ (by simp; omega)]
      have HE : Hid (Sha.mixAll t s.data.toList = u) := he
      have c0 := ShaW.cell (j := 0) HH.out.2.1 rfl
      have c1 := ShaW.cell (j := 1) HH.out.2.1 rfl
      have c2 := ShaW.cell (j := 2) HH.out.2.1 rfl
      have c3 := ShaW.cell (j := 3) HH.out.2.1 rfl
      have c4 := ShaW.cell (j := 4) HH.out.2.1 rfl
      have c5 := ShaW.cell (j := 5) HH.out.2.1 rfl
      have c6 := ShaW.cell (j := 6) HH.out.2.1 rfl
      have c7 := ShaW.cell (j := 7) HH.out.2.1 rfl
      clear he
      go_wp2_with (first | refine wpList_load_row rfl 87 _ rfl _ rfl 87 _ (0, 0) _ HH.out.2.1 under23 rfl (by rw [ShaW.st_size]; exact info23) ?_ | refine wpList_store_row rfl 87 _ _ rfl _ _ rfl rfl 87 _ HH.out.2.2.1 (by rw [ShaW.st_size]; exact info23) (by rw [ShaW.st_size]; rfl) (ShaW.st_one u) ?_)
      exact bodyPost_ret (v := .agg u.cells) (results_cell_row Tryd.results51 _ _ _ 87 _ (0, 0) _ rfl (setRow_heap _ _ _ _ _ _ HH.out.2.2.1) under23 rfl (by rw [ShaW.st_size]; exact info23)) rfl ⟨by rw [HE.out], ShaW.below_setRow HH.out.2.2.2.2.1 (by omega) _⟩

set_option maxRecDepth 100000 in
set_option maxHeartbeats 1000000 in
theorem ending_big (r : ByteArray) (n : Nat) (w : World) (hr : r.size < 128) (hn : n ≤ 140737488355328) :
    Calls Tryd.prog 53 #[.string r, .int .i64 n] w fun e w' => e = .returned (.string ⟨(Sha.ended r.data.toList n).toArray⟩) ∧ Below w.heap.size w w' := by
  obtain ⟨i0, hi, hz0, hz1, hz2⟩ := info_parts shaInfo5
  go_enter Tryd.func53, Tryd.ntmps53
  go_wp2_with (refine ByteRow.of_string _ rfl 9 64 5 _ rfl r rfl shaUnder9 under46 shaUnder5 ?_)
  intro v1 w1 hh1 hb1
  go_wp2_with (at_builtin; refine ByteRow.append _ rfl _ _ 64 rfl 5 i0 under46 hi hz0 hz1 hz2 w.heap.size _ r.data.toList rfl (hh1.alloc _) ?_ ⟨w1.heap.size, 0, none⟩ 1 1 [128] rfl rfl (ShaW.news_byte _ _ _ _ (by rfl)) ?_ ?_)
  · have := hb1.size; simp; omega
  · simp; omega
  intro v2 w2 hh2 hb2
  obtain ⟨a2, c2, hv2⟩ := hh2.length_of
  have e2 : (r.data.toList ++ [(128 : UInt8)]).length = r.size + 1 := by simp
  rw [e2] at hv2
  clear e2
  subst hv2
  have HS : Hid (ByteRow.Has w.heap.size w2 (.slice a2 (r.size + 1) c2) (r.data.toList ++ [128]) ∧ Below w.heap.size w w2 ∧ w.heap.size ≤ w2.heap.size) := ⟨hh2, (hb1.alloc (by have := hb1.size; omega) _).trans hb2, by have := hb2.size; have := hb1.size; simp at *; omega⟩
  clear hh1 hb1 hh2 hb2
  go_wp2_with fail
  go_loopw [5] (fun v wr => ∃ (k : Nat) (a : Option Addr) (c : Nat), v = .slice a (r.size + 1 + k) c ∧ k ≤ Sha.zeros r.size ∧ Hid (ByteRow.Has w.heap.size wr v (Sha.part r.data.toList k) ∧ Below w.heap.size w wr ∧ w.heap.size ≤ wr.heap.size)) (fun v _ => match v with | .slice _ n _ => 10000 - n | _ => 0)
  case atStart => exact ⟨0, a2, c2, by simp, by omega, by exact HS.out⟩
  case round =>
    clear HS
    obtain ⟨k, a, c, rfl, hk, HH⟩ := hrel
    have hz : Sha.zeros r.size < 128 := by unfold Sha.zeros; omega
    by_cases hlt : (r.size + 1 + k) % 128 = 112
    · have hdone : Sha.part r.data.toList k = Sha.marked r.data.toList := Sha.part_done _ _ (by simpa using hk) (by rw [Sha.part_length]; simpa using hlt)
      have HM : Hid (ByteRow.Has w.heap.size wr (.slice a (r.size + 1 + k) c) (Sha.marked r.data.toList) ∧ Below w.heap.size w wr ∧ w.heap.size ≤ wr.heap.size) := by rw [← hdone]; exact HH.out
      have hlen : (Sha.marked r.data.toList).length = r.size + 1 + k := by rw [← hdone, Sha.part_length]; simp
      have HL : Hid ((Sha.marked r.data.toList).length = r.size + 1 + k) := hlen
      clear HH hdone hlen
      go_wp2_with fail
      refine (mul64_big n _ hn).mono ?_
      rintro e w' ⟨rfl, rfl⟩
      go_wp2_with fail
      refine (shaNumber_any w.heap.size _ (Sha.marked r.data.toList) 0 8 _ HM.out.1 HM.out.2.2 (by rw [HL.out]; omega) (by omega)).mono ?_
      rintro e w3 ⟨v3, rfl, hh3, hb3⟩
      have HN : Hid (ByteRow.Has w.heap.size w3 v3 (Sha.marked r.data.toList ++ Sha.be 0 8) ∧ Below w.heap.size w w3 ∧ w.heap.size ≤ w3.heap.size) := ⟨hh3, HM.out.2.1.trans hb3, by have := hb3.size; have := HM.out.2.2; omega⟩
      clear hh3 hb3 HM
      go_wp2_with fail
      refine (shaNumber_any w.heap.size _ (Sha.marked r.data.toList ++ Sha.be 0 8) (8 * n) 8 _ HN.out.1 HN.out.2.2 (by rw [List.length_append, HL.out, Sha.be_length]; omega) (by omega)).mono ?_
      rintro e w4 ⟨v4, rfl, hh4, hb4⟩
      have HO : Hid (ByteRow.Has w.heap.size w4 v4 (Sha.ended r.data.toList n) ∧ Below w.heap.size w w4) := ⟨by unfold Sha.ended; rw [← List.append_assoc]; exact hh4, HN.out.2.1.trans hb4⟩
      clear hh4 hb4 HN
      go_wp2_with (refine ByteRow.to_string _ rfl 64 9 5 _ rfl (Sha.ended r.data.toList n) rfl HO.out.1 (by simp [Sha.ended, Sha.marked]) under46 shaUnder5 shaUnder9 ?_)
      go_ret
      exact ⟨rfl, HO.out.2⟩
    · go_wp2_with (at_builtin; refine ByteRow.append _ rfl _ _ 64 rfl 5 i0 under46 hi hz0 hz1 hz2 w.heap.size _ (Sha.part r.data.toList k) rfl (HH.out.1.alloc _) ?_ ⟨wr.heap.size, 0, none⟩ 1 1 [0] rfl rfl (ShaW.news_byte _ _ _ _ (by rfl)) ?_ ?_)
      · have := HH.out.2.2; simp; omega
      · rw [Sha.part_length]; simp; omega
      · intro v3 w3 hh3 hb3
        rw [Sha.part_snoc] at hh3
        obtain ⟨a3, c3, hv3⟩ := hh3.length_of
        have e3 : (Sha.part r.data.toList (k + 1)).length = r.size + 1 + (k + 1) := by rw [Sha.part_length]; simp
        rw [e3] at hv3
        clear e3
        subst hv3
        have hkk : k + 1 ≤ Sha.zeros r.size := by
          have := Sha.part_more r.data.toList k (by simpa using hk) (by rw [Sha.part_length]; simpa using hlt)
          simpa using this
        have HR : Hid (ByteRow.Has w.heap.size w3 (.slice a3 (r.size + 1 + (k + 1)) c3) (Sha.part r.data.toList (k + 1)) ∧ Below w.heap.size w w3 ∧ w.heap.size ≤ w3.heap.size) := ⟨hh3, (HH.out.2.1.alloc HH.out.2.2 _).trans hb3, by have := hb3.size; have := HH.out.2.2; simp at *; omega⟩
        clear hh3 hb3 HH
        go_wp2
        go_roundw
        case rel => exact ⟨k + 1, a3, c3, rfl, hkk, HR.out⟩
        case measure => simp; omega

set_option maxRecDepth 100000 in
set_option maxHeartbeats 1000000 in
theorem sum_big (s : ByteArray) (w : World) (hs : s.size ≤ 140737488355328) (hst : Steps w) :
    Calls Tryd.prog 30 #[.string s] w fun e w' => e = .returned (.string ⟨(Sha.sum s.data.toList).toArray⟩) ∧ Below w.heap.size w w' := by
  have Hst : Hid (Steps w) := hst
  have h0 := hst.pos
  clear hst
  obtain ⟨k, hk⟩ : ∃ k : Nat, k = s.size - s.size % 128 := ⟨_, rfl⟩
  have hk1 : (k : Int) ≤ s.size := by omega
  have hk2 : ((s.size : Int) - (s.size : Int) % 128) = k := by omega
  have hkm : k % 128 = 0 := by omega
  have hkl : s.size - k < 128 := by omega
  have HK : Hid (k = s.size - s.size % 128) := hk
  clear hk
  go_enter Tryd.func30, Tryd.ntmps30
  go_wp2_with fail
  go_cut [4] (fun p wr => ∃ b, p = .pointer (some ⟨b, 0, none⟩) ∧ Hid (w.heap.size ≤ b ∧ wr.heap[b]? = some (.cells (Sha.mixAll Sha.start (s.data.toList.take k)).cells 87 (0, 0)) ∧ Below w.heap.size w wr))
  case first =>
    go_region_with (first | (go_at_call 52; refine (start_any _).mono ?_; rintro e w1 ⟨rfl, hb1⟩) | (go_at_call 51; go_must (refine (mixAll_big Sha.start _ _ (by rw [ByteArray.size_extract]; omega) (by first | exact Steps.by hb1 h0 Hst.out | exact (Steps.by hb1 h0 Hst.out).alloc _ | exact Steps.by hb1 (Hst.out.alloc _).pos (Hst.out.alloc _))).mono ?_); rintro e w2 ⟨rfl, hb2⟩; simp only [Sha.St.cells]; first | (have hg := ShaW.kept2 hb1 hb2 (g := w.heap.size) (o := (Obj.cells #[Value.int IntKind.u64 0, Value.int IntKind.u64 0, Value.int IntKind.u64 0, Value.int IntKind.u64 0, Value.int IntKind.u64 0, Value.int IntKind.u64 0, Value.int IntKind.u64 0, Value.int IntKind.u64 0] 87 (0, 0))) (by exact heap_alloc_new _ _) (by simp); have hc := ShaW.box_cells hg; have hf := ShaW.box_frozen hg; have HG : Hid _ := hg; clear hg) | (have hg := ShaW.kept1 hb2 (g := w1.heap.size) (o := (Obj.cells #[Value.int IntKind.u64 0, Value.int IntKind.u64 0, Value.int IntKind.u64 0, Value.int IntKind.u64 0, Value.int IntKind.u64 0, Value.int IntKind.u64 0, Value.int IntKind.u64 0, Value.int IntKind.u64 0] 87 (0, 0))) (by exact heap_alloc_new _ _) (by simp); have hc := ShaW.box_cells hg; have hf := ShaW.box_frozen hg; have HG : Hid _ := hg; clear hg) | skip))
    · go_wp2
      go_meet
      case rel =>
        have h1 := hb1.size
        have h2 := hb2.size
        exact ⟨w2.heap.size, rfl, by show w.heap.size ≤ w2.heap.size; exact Nat.le_trans h1 h2, heap_alloc_new _ _, ((((Below.refl _ _).drew).trans hb1).trans (hb2.mono h1)).alloc (Nat.le_trans h1 h2) _⟩
    · go_wp2
      go_meet
      case rel =>
        have h1 : w.heap.size ≤ w1.heap.size := hb1.size
        have hb : Below w.heap.size w w2 := ((((Below.refl _ _).drew).trans hb1).alloc h1 _).trans (hb2.mono (by simp; omega))
        exact ⟨w1.heap.size, rfl, h1, ShaW.set8 HG.out _, ShaW.below8 hb h1 _ _ _ _ _ _ _ _⟩
    · go_wp2
      go_meet
      case rel =>
        have h1 := hb1.size
        have h2 := hb2.size
        have hb : Below w.heap.size w w2 := (((((Below.refl w.heap.size w).alloc (Nat.le_refl _) _).drew).trans (hb1.mono (by simp)))).trans (hb2.mono (by simp at h1; omega))
        exact ⟨w.heap.size, rfl, Nat.le_refl _, ShaW.set8 HG.out _, ShaW.below8 hb (Nat.le_refl _) _ _ _ _ _ _ _ _⟩
  case rest =>
    obtain ⟨b, rfl, HB⟩ := hcut
    obtain ⟨u, hu⟩ : ∃ u, u = Sha.mixAll Sha.start (s.data.toList.take k) := ⟨_, rfl⟩
    have HB2 : Hid (w.heap.size ≤ b ∧ wc.heap[b]? = some (.cells u.cells 87 (0, 0)) ∧ Below w.heap.size w wc ∧ Steps wc ∧ b < wc.heap.size) := by
      rw [hu]
      refine ⟨HB.out.1, HB.out.2.1, HB.out.2.2, Steps.by HB.out.2.2 h0 Hst.out, ?_⟩
      rcases Nat.lt_or_ge b wc.heap.size with h | h
      · exact h
      · have := HB.out.2.1; rw [Array.getElem?_eq_none h] at this; cases this
    have HU : Hid (u = Sha.mixAll Sha.start (s.data.toList.take k)) := hu
    clear hu HB Hst
    have c0 := cell_regrown (ShaW.cell (j := 0) HB2.out.2.1 rfl)
    have c1 := cell_regrown (ShaW.cell (j := 1) HB2.out.2.1 rfl)
    have c2 := cell_regrown (ShaW.cell (j := 2) HB2.out.2.1 rfl)
    have c3 := cell_regrown (ShaW.cell (j := 3) HB2.out.2.1 rfl)
    have c4 := cell_regrown (ShaW.cell (j := 4) HB2.out.2.1 rfl)
    have c5 := cell_regrown (ShaW.cell (j := 5) HB2.out.2.1 rfl)
    have c6 := cell_regrown (ShaW.cell (j := 6) HB2.out.2.1 rfl)
    have c7 := cell_regrown (ShaW.cell (j := 7) HB2.out.2.1 rfl)
    obtain ⟨E, hE⟩ : ∃ E, E = Sha.ended (s.extract k s.size).data.toList s.size := ⟨_, rfl⟩
    have HE : Hid (∀ d os, Calls Tryd.prog 53 #[.string (s.extract k s.size), .int .i64 s.size] (grow (redrawn wc d) os) fun e w'' => e = .returned (.string ⟨E.toArray⟩) ∧ ∃ p : Regrown, w'' = grow (redrawn wc p.d) p.os) := by
      intro d os
      rw [hE]
      exact Calls.regrown_of (ending_big _ _ _ (by rw [ByteArray.size_extract]; omega) hs)
    have hsz : (⟨E.toArray⟩ : ByteArray).size ≤ 140737488355328 := by
      have h1 : (s.extract k s.size).data.toList.length < 128 := by
        have : (s.extract k s.size).size < 128 := by rw [ByteArray.size_extract]; omega
        simpa using this
      have h2 : (Sha.ended (s.extract k s.size).data.toList s.size).length = (s.extract k s.size).data.toList.length + 1 + Sha.zeros (s.extract k s.size).data.toList.length + 16 := by
        simp only [Sha.ended, List.length_append, Sha.marked_length, Sha.be_length]
      have h3 : Sha.zeros (s.extract k s.size).data.toList.length < 128 := by unfold Sha.zeros; omega
      show E.toArray.size ≤ 140737488355328
      rw [List.size_toArray, hE, h2]
      omega
    have HM : Hid (∀ (d : Nat) (os : Array Obj), Calls Tryd.prog 51 #[.agg #[.int .u64 u.a, .int .u64 u.b, .int .u64 u.c, .int .u64 u.d, .int .u64 u.e, .int .u64 u.f, .int .u64 u.g, .int .u64 u.h], .string ⟨E.toArray⟩] (grow (redrawn wc d) os) fun e w'' => e = .returned (.agg (Sha.mixAll u E).cells) ∧ ∃ p : Regrown, w'' = grow (redrawn wc p.d) p.os) :=
      fun d os => Calls.regrown_of (mixAll_big u _ _ hsz (Steps.by (below_regrown wc d os) HB2.out.2.2.2.1.pos HB2.out.2.2.2.1))
    have HEE : Hid (E = Sha.ended (s.extract k s.size).data.toList s.size) := hE
    clear hsz hE
    go_wp2_with fail
    refine QTail.wp_region_tail (fun w' => ∃ p : Regrown, w' = grow (redrawn wc p.d) p.os) 8 (by kernel_rfl) (by kernel_rfl) ⟨⟨wc.drawn + 1, #[]⟩, by rw [grow_empty]; rfl⟩ ?_
    simp only [List.take_succ_cons, List.take_zero, List.drop_succ_cons, List.drop_zero]
    repeat (first | go_big_quiet_step (first | (go_at_call 53; exact HE.out _ _) | (go_at_call 51; exact HM.out _ _)) | quiet_step (first | (go_at_call 53; exact HE.out _ _) | (go_at_call 51; exact HM.out _ _)))
    refine wpQuiet_nil ?_
    rintro _ ⟨⟨dq, osq⟩, rfl⟩
    generalize hmx : Sha.mixAll u E = x
    have HX : Hid (Sha.out x = Sha.sum s.data.toList) := by
      rw [← hmx, HEE.out, HU.out]
      exact Sha.sum_two s k hkm (by omega)
    clear hmx HM HE
    have hbl := below_regrown wc dq osq
    generalize grow (redrawn wc dq) osq = V at hbl
    have HG : Hid (V.heap[b]? = some (.cells u.cells 87 (0, 0)) ∧ Below w.heap.size w V ∧ w.heap.size ≤ b) := by
      obtain ⟨h1, h2, h3, h4, h5⟩ := HB2.out
      exact ⟨(hbl.block b h5).trans h2, h3.trans (hbl.mono h3.size), h1⟩
    clear hbl c0 c1 c2 c3 c4 c5 c6 c7
    refine wpList_store_row rfl 87 _ _ rfl _ _ rfl rfl 87 _ HG.out.1 (by rw [ShaW.st_size]; exact info23) (by rw [ShaW.st_size, ShaW.st_size]) (ShaW.st_one _) ?_
    have hW : (V.setRow b x.cells).heap[b]? = some (.cells x.cells 87 (0, 0)) := setRow_heap _ _ _ _ _ _ HG.out.1
    have hbW : Below w.heap.size w (V.setRow b x.cells) := ShaW.below_setRow HG.out.2.1 HG.out.2.2 _
    generalize V.setRow b x.cells = W at hW hbW
    have HW : Hid (W.heap[b]? = some (.cells x.cells 87 (0, 0)) ∧ Below w.heap.size w W) := ⟨hW, hbW⟩
    clear hW hbW HG HB2
    go_wp2_with (refine wpList_load_row rfl 87 _ rfl _ rfl 87 _ (0, 0) _ HW.out.1 under23 rfl (by rw [ShaW.st_size]; exact info23) ?_)
    go_loopw [5, 28] (fun v i wr => ∃ j : Nat, j ≤ 8 ∧ i = .int .i64 j ∧ Hid (ByteRow.Has w.heap.size wr v (Sha.outN x j) ∧ Below w.heap.size w wr)) (fun _ i _ => 8 - (intOf i).toNat)
    case atStart => exact ⟨0, by omega, rfl, ByteRow.Has.nil _ _, HW.out.2⟩
    case round =>
      obtain ⟨j, hj, rfl, HH⟩ := hrel
      by_cases hlt : j < 8
      · have hidx := ShaW.idx8 x j hlt
        go_wp2_with fail
        refine (shaNumber_any w.heap.size _ (Sha.outN x j) (x.nth j) 8 _ HH.out.1 HH.out.2.size (by rw [Sha.outN_length]; omega) (by omega)).mono ?_
        rintro e w3 ⟨v3, rfl, hh3, hb3⟩
        have HR : Hid (ByteRow.Has w.heap.size w3 v3 (Sha.outN x (j + 1)) ∧ Below w.heap.size w w3) := ⟨hh3, HH.out.2.trans hb3⟩
        clear hh3 hb3 hidx
        go_wp2
        go_roundw
        case rel => exact ⟨j + 1, by omega, by go_num, HR.out⟩
        case measure => simp [intOf]; omega
      · have hj8 : j = 8 := by omega
        subst hj8
        obtain ⟨g, cap, hv, hcap⟩ := HH.out.1.form (by rw [ne_eq, ← List.length_eq_zero_iff, Sha.outN_length]; omega)
        rw [Sha.outN_length] at hv hcap
        subst hv
        have hcap2 : (64 : Int) ≤ cap := by omega
        have hhf : ByteRow.Has w.heap.size wr (.slice (some ⟨g, 0, none⟩) 32 cap) (Sha.out x) := by
          rw [← Sha.outN_out]
          refine ByteRow.Has.front ?_ (by rw [Sha.outN_length]; omega)
          rw [Sha.outN_length]
          exact HH.out.1
        have HF : Hid (ByteRow.Has w.heap.size wr (.slice (some ⟨g, 0, none⟩) 32 cap) (Sha.sum s.data.toList)) := by rw [← HX.out]; exact hhf
        clear hhf
        go_wp2_with (refine ByteRow.to_string _ rfl 64 9 5 _ rfl (Sha.sum s.data.toList) rfl HF.out (by rw [ne_eq, ← List.length_eq_zero_iff, Sha.sum_length]; omega) under46 shaUnder5 shaUnder9 ?_)
        go_ret
        exact ⟨rfl, HH.out.2⟩

theorem ShaW.flat_big : ∀ ys : List ByteArray, (∀ s ∈ ys, s.size ≤ 140737488351232) → (ys.map fun s => s.data.toList).flatten.length ≤ 140737488351232 * ys.length := by
  intro ys
  induction ys with
  | nil => intro _; simp
  | cons y ys ih =>
    intro h
    have h1 := ih (fun s hs => h s (by simp [hs]))
    have h2 := h y (by simp)
    have h3 : y.data.toList.length = y.size := by simp
    rw [List.map_cons, List.flatten_cons, List.length_append, h3, List.length_cons]
    omega
theorem ShaW.parts_big (p : UInt8) (xs : List ByteArray) (hn : xs.length ≤ 1) (hx : ∀ s ∈ xs, s.size ≤ 140737488351232) : (Sha.parts p (xs.map fun s => s.data.toList)).length ≤ 140737488351300 := by
  have h4 := ShaW.flat_big xs hx
  unfold Sha.parts
  rw [List.length_append, List.length_append, List.length_append, Sha.be_length, Sha.lens_length, List.length_map]
  have h5 : [p].length = 1 := rfl
  omega
set_option maxRecDepth 100000 in
set_option maxHeartbeats 1000000 in
theorem tagged_big (p : UInt8) (v : Value) (xs : List ByteArray) (w : World) (hr : StrRow.Reads w v xs) (hn : xs.length ≤ 1) (hx : ∀ s ∈ xs, s.size ≤ 140737488351232) (hst : Steps w) :
    Calls Tryd.prog 14 #[.int .u8 p.toNat, v] w fun e w' => e = .returned (.string ⟨(Sha.sum (Sha.parts p (xs.map fun s => s.data.toList))).toArray⟩) ∧ Below w.heap.size w w' := by
  have hl := ShaW.parts_big p xs hn hx
  obtain ⟨i0, hif, hz0, hz1, hz2⟩ := info_parts shaInfo5
  obtain ⟨a, c, rfl⟩ := hr.form
  have HR : Hid (StrRow.Reads w (.slice a xs.length c) xs ∧ Steps w) := ⟨hr, hst⟩
  clear hr hst
  have hn2 : (xs.length : Int) ≤ 8 := by omega
  go_enter Tryd.func14, Tryd.ntmps14
  go_wp2_with fail
  refine (number_own w.heap.size _ [p] xs.length 4 _ (World.ownsRow_lit w #[.int .u8 p.toNat] 1 (Nat.le_refl _) (by unfold maxLen; omega) rfl) (by simp) (by simp) (by omega)).mono ?_
  rintro e w1 ⟨v1, rfl, hh1, hb1⟩
  have H1 : Hid (w1.ownsRow w.heap.size 5 1 v1 ([p] ++ Sha.be xs.length 4).length (([p] ++ Sha.be xs.length 4).map Sha.byteV) ∧ Below w.heap.size w w1) := ⟨hh1, ((Below.refl _ _).alloc (Nat.le_refl _) _).trans hb1⟩
  clear hh1 hb1
  go_wp2_with fail
  go_loopw [5, 18] (fun vb vi wr => ∃ (i : Nat), i ≤ xs.length ∧ vi = .int .i64 i ∧ Hid (wr.ownsRow w.heap.size 5 1 vb ([p] ++ Sha.be xs.length 4 ++ Sha.lens ((xs.take i).map fun s => s.data.toList)).length (([p] ++ Sha.be xs.length 4 ++ Sha.lens ((xs.take i).map fun s => s.data.toList)).map Sha.byteV) ∧ Below w.heap.size w wr)) (fun _ vi _ => 8 - (intOf vi).toNat)
  case atStart => exact ⟨0, by omega, rfl, by have h := H1.out; show _ ∧ _; simpa [Sha.lens] using h⟩
  case round =>
    clear H1
    obtain ⟨i, hi, rfl, HH⟩ := hrel
    by_cases hlt : i < xs.length
    · obtain ⟨b, off, cap, hv, hcap, hbl⟩ := HR.out.1.at (by intro h; rw [h] at hlt; simp at hlt)
      simp only [Value.slice.injEq, true_and] at hv
      obtain ⟨rfl, rfl⟩ := hv
      obtain ⟨s, hs⟩ : ∃ s, xs[i]? = some s := ⟨_, List.getElem?_eq_getElem hlt⟩
      have hss : s.size ≤ 140737488351232 := hx s (List.mem_of_getElem? hs)
      have hcell : wr.cell? ⟨b, off + i, none⟩ = some (.string s) := (HH.out.2.cell (p := ⟨b, off + i, none⟩) hbl).trans (HR.out.1.cell hs)
      have HT : Hid ((xs.take (i + 1)).map (fun s => s.data.toList) = (xs.take i).map (fun s => s.data.toList) ++ [s.data.toList]) := by
        show _ = _
        rw [List.take_add_one, hs]; simp
      clear hs
      have hlt2 : (i : Int) < xs.length := by omega
      have HL : Hid (([p] ++ Sha.be xs.length 4 ++ Sha.lens ((xs.take i).map fun s => s.data.toList)).length ≤ 1000000) := by
        show _ ≤ _
        rw [List.length_append, List.length_append, Sha.be_length, Sha.lens_length, List.length_map, List.length_take_of_le hi]
        have : [p].length = 1 := rfl
        omega
      generalize hLL : [p] ++ Sha.be xs.length 4 ++ Sha.lens ((xs.take i).map fun s => s.data.toList) = L at HH HL
      have HLL : Hid (L ++ Sha.be s.size 4 = [p] ++ Sha.be xs.length 4 ++ Sha.lens ((xs.take (i + 1)).map fun s => s.data.toList)) := by
        have e1 := HT.out
        show _ = _
        rw [e1, Sha.lens_snoc, ← List.append_assoc, hLL, show s.data.toList.length = s.size by simp]
      clear hLL HT
      go_wp2_with fail
      refine (number_own w.heap.size _ L s.size 4 _ HH.out.1 HH.out.2.size HL.out (by omega)).mono ?_
      rintro e w2 ⟨v2, rfl, hh2, hb2⟩
      have H2 : Hid (w2.ownsRow w.heap.size 5 1 v2 ([p] ++ Sha.be xs.length 4 ++ Sha.lens ((xs.take (i + 1)).map fun s => s.data.toList)).length (([p] ++ Sha.be xs.length 4 ++ Sha.lens ((xs.take (i + 1)).map fun s => s.data.toList)).map Sha.byteV) ∧ Below w.heap.size w w2) := by
        have e1 := HLL.out
        rw [← e1]
        exact ⟨hh2, HH.out.2.trans hb2⟩
      clear hh2 hb2
      go_wp2
      go_roundw
      case rel => exact ⟨i + 1, by omega, by go_num, H2.out⟩
      case measure => simp [intOf]; omega
    · have hin : i = xs.length := by omega
      subst hin
      rw [List.take_of_length_le (Nat.le_refl _)] at HH
      go_wp2_with fail
      go_loopw [5, 30] (fun vb vi wr => ∃ (i : Nat), i ≤ xs.length ∧ vi = .int .i64 i ∧ Hid (wr.ownsRow w.heap.size 5 1 vb ([p] ++ Sha.be xs.length 4 ++ Sha.lens (xs.map fun s => s.data.toList) ++ ((xs.take i).map fun s => s.data.toList).flatten).length (([p] ++ Sha.be xs.length 4 ++ Sha.lens (xs.map fun s => s.data.toList) ++ ((xs.take i).map fun s => s.data.toList).flatten).map Sha.byteV) ∧ Below w.heap.size w wr)) (fun _ vi _ => 8 - (intOf vi).toNat)
      case atStart => exact ⟨0, by omega, rfl, by have h := HH.out; show _ ∧ _; simpa using h⟩
      case round =>
        clear HH hlt
        obtain ⟨i, hi', rfl, HH⟩ := hrel
        by_cases hlt : i < xs.length
        · obtain ⟨b, off, cap, hv, hcap, hbl⟩ := HR.out.1.at (by intro h; rw [h] at hlt; simp at hlt)
          simp only [Value.slice.injEq, true_and] at hv
          obtain ⟨rfl, rfl⟩ := hv
          obtain ⟨s, hs⟩ : ∃ s, xs[i]? = some s := ⟨_, List.getElem?_eq_getElem hlt⟩
          have hss : s.size ≤ 140737488351232 := hx s (List.mem_of_getElem? hs)
          have hcell : wr.cell? ⟨b, off + i, none⟩ = some (.string s) := (HH.out.2.cell (p := ⟨b, off + i, none⟩) hbl).trans (HR.out.1.cell hs)
          have HT : Hid ((xs.take (i + 1)).map (fun s => s.data.toList) = (xs.take i).map (fun s => s.data.toList) ++ [s.data.toList]) := by
            show _ = _
            rw [List.take_add_one, hs]; simp
          clear hs
          have hlt2 : (i : Int) < xs.length := by omega
          have HL : Hid (([p] ++ Sha.be xs.length 4 ++ Sha.lens (xs.map fun s => s.data.toList) ++ ((xs.take i).map fun s => s.data.toList).flatten).length ≤ 100) := by
            show _ ≤ _
            rw [List.length_append, List.length_append, List.length_append, Sha.be_length, Sha.lens_length, List.length_map]
            have h2 := ShaW.flat_big (xs.take i) (fun s hs => hx s (List.mem_of_mem_take hs))
            rw [List.length_take_of_le hi'] at h2
            have h3 : [p].length = 1 := rfl
            omega
          generalize hLL : [p] ++ Sha.be xs.length 4 ++ Sha.lens (xs.map fun s => s.data.toList) ++ ((xs.take i).map fun s => s.data.toList).flatten = L at HH HL
          have HLL : Hid (L ++ s.data.toList = [p] ++ Sha.be xs.length 4 ++ Sha.lens (xs.map fun s => s.data.toList) ++ ((xs.take (i + 1)).map fun s => s.data.toList).flatten) := by
            have e1 := HT.out
            show _ = _
            rw [e1, List.flatten_append, ← List.append_assoc, hLL]; simp
          clear hLL HT
          go_wp2_with (at_builtin; refine Lib.wpList_append_own_string _ rfl _ _ 64 9 rfl w.heap.size 5 i0 under46 shaUnder9 hif hz0 hz1 hz2 _ _ _ rfl HH.out.1 s rfl ?_ ?_ ?_ ?_)
          · have := HL.out; unfold maxLen; omega
          · have := HL.out; omega
          · exact HH.out.2.size
          · intro v2 w2 hh2 hg2 _
            have hrow : Hid (∀ k, u5.ownBlock = some k → w.heap.size ≤ k) := fun k hk => (HH.out.1.lt k hk).1
            have H2 : Hid (w2.ownsRow w.heap.size 5 1 v2 ([p] ++ Sha.be xs.length 4 ++ Sha.lens (xs.map fun s => s.data.toList) ++ ((xs.take (i + 1)).map fun s => s.data.toList).flatten).length (([p] ++ Sha.be xs.length 4 ++ Sha.lens (xs.map fun s => s.data.toList) ++ ((xs.take (i + 1)).map fun s => s.data.toList).flatten).map Sha.byteV) ∧ Below w.heap.size w w2) := by
              have e1 := HLL.out
              rw [← e1]
              refine ⟨?_, HH.out.2.grown hg2 HH.out.2.size hrow.out⟩
              have e2 : (L ++ s.data.toList).length = L.length + s.size := by simp
              rw [e2, List.map_append]
              exact hh2
            clear hh2 hg2
            go_wp2
            go_roundw
            case rel => exact ⟨i + 1, by omega, by go_num, H2.out⟩
            case measure => simp [intOf]; omega
        · have hin : i = xs.length := by omega
          subst hin
          rw [List.take_of_length_le (Nat.le_refl _)] at HH
          have HF : Hid (ByteRow.Has w.heap.size wr u5 (Sha.parts p (xs.map fun s => s.data.toList)) ∧ Below w.heap.size w wr ∧ Steps wr) := by
            refine ⟨?_, HH.out.2, Steps.by HH.out.2 HR.out.2.pos HR.out.2⟩
            have h1 := ByteRow.Has.of_own HH.out.1
            unfold Sha.parts
            rw [List.length_map]
            exact h1
          clear HH
          generalize hT : Sha.parts p (xs.map fun s => s.data.toList) = T at HF hl
          have HT : Hid (Sha.parts p (xs.map fun s => s.data.toList) = T ∧ T ≠ []) := ⟨hT, by rw [← hT]; simp [Sha.parts]⟩
          clear hT
          go_wp2_with (refine ByteRow.to_string _ rfl 64 9 5 _ rfl T rfl HF.out.1 HT.out.2 under46 shaUnder5 shaUnder9 ?_)
          refine (sum_big ⟨T.toArray⟩ _ (by show T.toArray.size ≤ _; rw [List.size_toArray]; omega) HF.out.2.2).mono ?_
          rintro e w2 ⟨rfl, hb2⟩
          go_wp2
          go_ret
          exact ⟨by rw [HT.out.1]; rfl, HF.out.2.1.trans (hb2.mono HF.out.2.1.size)⟩
end Go.Proofs.YtcdmdpafkiljdaaDoor
