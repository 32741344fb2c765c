/- The contract of the digest of bytes. -/
import Derived.Test.YtcfjlnceofdcdaaDoorRows
import Derived.Test.YtcfjlnceofdcdaaDoorShaAll
import Derived.Test.YtcfjlnceofdcdaaDoorShaEnding
import Derived.WalkKit
import Derived.WalkSpells
import Derived.WalkLawsBesides
import Derived.Deep.QuietTactic
import Derived.Deep.RegionWith
import Derived.Test.YtcfjlnceofdcdaaDoorTail
import Derived.BigQuiet
import Derived.Deep.WholeRow
import Derived.Deep.DeepCutAuto
import Derived.Test.YtcfjlnceofdcdaaDoorShaMath3
import Derived.Lib.QuietBelow
namespace Go.Proofs.YtcfjlnceofdcdaaDoor
open Go.RowKit
open Go.Sort
theorem ShaW.idx8 (u : Sha.St) (k : Nat) (h : k < 8) : ∀ w, (Instr.index 52 (.agg u.cells) (.int .i64 k)).run Tryd.prog w = .ok (.int .u64 (u.nth k)) w := by
  match k, h with
  | 0, _ => exact fun _ => by kernel_rfl
  | 1, _ => exact fun _ => by kernel_rfl
  | 2, _ => exact fun _ => by kernel_rfl
  | 3, _ => exact fun _ => by kernel_rfl
  | 4, _ => exact fun _ => by kernel_rfl
  | 5, _ => exact fun _ => by kernel_rfl
  | 6, _ => exact fun _ => by kernel_rfl
  | 7, _ => exact fun _ => by kernel_rfl
theorem ShaW.box_cells {w : World} {g : Nat} (h : w.heap[g]? = some (Obj.cells #[Value.int IntKind.u64 0, Value.int IntKind.u64 0, Value.int IntKind.u64 0, Value.int IntKind.u64 0, Value.int IntKind.u64 0, Value.int IntKind.u64 0, Value.int IntKind.u64 0, Value.int IntKind.u64 0] 52 (0, 0))) : ∀ j, j < 8 → w.cell? ⟨g, j, none⟩ = some (.int .u64 0) := by
  intro j hj
  rw [cell_of_row _ _ _ _ _ _ h]
  match j, hj with
  | 0, _ => rfl
  | 1, _ => rfl
  | 2, _ => rfl
  | 3, _ => rfl
  | 4, _ => rfl
  | 5, _ => rfl
  | 6, _ => rfl
  | 7, _ => rfl
theorem ShaW.box_frozen {w : World} {g : Nat} (h : w.heap[g]? = some (Obj.cells #[Value.int IntKind.u64 0, Value.int IntKind.u64 0, Value.int IntKind.u64 0, Value.int IntKind.u64 0, Value.int IntKind.u64 0, Value.int IntKind.u64 0, Value.int IntKind.u64 0, Value.int IntKind.u64 0] 52 (0, 0))) : ∀ j, w.frozen? ⟨g, j, none⟩ = false := fun _ => frozen_of_row _ _ _ _ _ h
theorem ShaW.arr8 (z a b c d e f g h : Value) : ((((((((#[z, z, z, z, z, z, z, z].setIfInBounds 0 a).setIfInBounds 1 b).setIfInBounds 2 c).setIfInBounds 3 d).setIfInBounds 4 e).setIfInBounds 5 f).setIfInBounds 6 g).setIfInBounds 7 h) = #[a, b, c, d, e, f, g, h] := by simp
theorem ShaW.below8 {B : Nat} {w w2 : World} (hb : Below B w w2) {g : Nat} (hg : B ≤ g) (a b c d e f g' h : Value) :
    Below B w ((((((((w2.setCell ⟨g, 0, none⟩ a).setCell ⟨g, 1, none⟩ b).setCell ⟨g, 2, none⟩ c).setCell ⟨g, 3, none⟩ d).setCell ⟨g, 4, none⟩ e).setCell ⟨g, 5, none⟩ f).setCell ⟨g, 6, none⟩ g').setCell ⟨g, 7, none⟩ h) :=
  (((((((hb.setCell (p := ⟨g, 0, none⟩) hg _).setCell (p := ⟨g, 1, none⟩) hg _).setCell (p := ⟨g, 2, none⟩) hg _).setCell (p := ⟨g, 3, none⟩) hg _).setCell (p := ⟨g, 4, none⟩) hg _).setCell (p := ⟨g, 5, none⟩) hg _).setCell (p := ⟨g, 6, none⟩) hg _).setCell (p := ⟨g, 7, none⟩) hg _
theorem ShaW.set8 {w : World} {g : Nat} (h : w.heap[g]? = some (Obj.cells #[Value.int IntKind.u64 0, Value.int IntKind.u64 0, Value.int IntKind.u64 0, Value.int IntKind.u64 0, Value.int IntKind.u64 0, Value.int IntKind.u64 0, Value.int IntKind.u64 0, Value.int IntKind.u64 0] 52 (0, 0))) (u : Sha.St) :
    ((((((((w.setCell ⟨g, 0, none⟩ (.int .u64 u.a)).setCell ⟨g, 1, none⟩ (.int .u64 u.b)).setCell ⟨g, 2, none⟩ (.int .u64 u.c)).setCell ⟨g, 3, none⟩ (.int .u64 u.d)).setCell ⟨g, 4, none⟩ (.int .u64 u.e)).setCell ⟨g, 5, none⟩ (.int .u64 u.f)).setCell ⟨g, 6, none⟩ (.int .u64 u.g)).setCell ⟨g, 7, none⟩ (.int .u64 u.h)).heap[g]? = some (.cells u.cells 52 (0, 0)) := by
  have h0 := heap_setCell_same w g 0 _ 52 (.int .u64 u.a) h
  have h1 := heap_setCell_same _ g 1 _ 52 (.int .u64 u.b) h0
  have h2 := heap_setCell_same _ g 2 _ 52 (.int .u64 u.c) h1
  have h3 := heap_setCell_same _ g 3 _ 52 (.int .u64 u.d) h2
  have h4 := heap_setCell_same _ g 4 _ 52 (.int .u64 u.e) h3
  have h5 := heap_setCell_same _ g 5 _ 52 (.int .u64 u.f) h4
  have h6 := heap_setCell_same _ g 6 _ 52 (.int .u64 u.g) h5
  have h7 := heap_setCell_same _ g 7 _ 52 (.int .u64 u.h) h6
  rw [ShaW.arr8] at h7
  exact h7
/-- A block that was laid stays through what is done above it. -/
theorem ShaW.kept2 {W w1 w2 : World} (hb1 : Below W.heap.size W w1) (hb2 : Below w1.heap.size w1 w2) {g : Nat} {o : Obj} (hW : W.heap[g]? = some o) (hg : g < W.heap.size) : w2.heap[g]? = some o := by
  have h1 := hb1.size
  rw [hb2.block _ (by omega), hb1.block _ (by omega)]
  exact hW
theorem ShaW.kept1 {W w2 : World} (hb2 : Below W.heap.size W w2) {g : Nat} {o : Obj} (hW : W.heap[g]? = some o) (hg : g < W.heap.size) : w2.heap[g]? = some o := by
  rw [hb2.block _ (by omega)]
  exact hW
set_option maxRecDepth 100000 in
set_option maxHeartbeats 1000000 in
theorem sum_any (s : ByteArray) (w : World) (hs : s.size ≤ 1000000) (hst : Steps w) :
    Calls Tryd.prog 18 #[.string s] w fun e w' => e = .returned (.string ⟨(Sha.sum s.data.toList).toArray⟩) ∧ Below w.heap.size w w' := by
  have Hst : Hid (Steps w) := hst
  have h0 := hst.pos
  clear hst
  obtain ⟨k, hk⟩ : ∃ k : Nat, k = s.size - s.size % 128 := ⟨_, rfl⟩
  have hk1 : (k : Int) ≤ s.size := by omega
  have hk2 : ((s.size : Int) - (s.size : Int) % 128) = k := by omega
  have hkm : k % 128 = 0 := by omega
  have hkl : s.size - k < 128 := by omega
  have HK : Hid (k = s.size - s.size % 128) := hk
  clear hk
  go_enter Tryd.func18, Tryd.ntmps18
  go_wp2_with fail
  go_cut [4] (fun p wr => ∃ b, p = .pointer (some ⟨b, 0, none⟩) ∧ Hid (w.heap.size ≤ b ∧ wr.heap[b]? = some (.cells (Sha.mixAll Sha.start (s.data.toList.take k)).cells 52 (0, 0)) ∧ Below w.heap.size w wr))
  case first =>
    go_region_with (first | (go_at_call 25; refine (start_any _).mono ?_; rintro e w1 ⟨rfl, hb1⟩) | (go_at_call 24; go_must (refine (mixAll_any Sha.start _ _ (by rw [ByteArray.size_extract]; omega) (by first | exact Steps.by hb1 h0 Hst.out | exact (Steps.by hb1 h0 Hst.out).alloc _ | exact Steps.by hb1 (Hst.out.alloc _).pos (Hst.out.alloc _))).mono ?_); rintro e w2 ⟨rfl, hb2⟩; simp only [Sha.St.cells]; first | (have hg := ShaW.kept2 hb1 hb2 (g := w.heap.size) (o := (Obj.cells #[Value.int IntKind.u64 0, Value.int IntKind.u64 0, Value.int IntKind.u64 0, Value.int IntKind.u64 0, Value.int IntKind.u64 0, Value.int IntKind.u64 0, Value.int IntKind.u64 0, Value.int IntKind.u64 0] 52 (0, 0))) (by exact heap_alloc_new _ _) (by simp); have hc := ShaW.box_cells hg; have hf := ShaW.box_frozen hg; have HG : Hid _ := hg; clear hg) | (have hg := ShaW.kept1 hb2 (g := w1.heap.size) (o := (Obj.cells #[Value.int IntKind.u64 0, Value.int IntKind.u64 0, Value.int IntKind.u64 0, Value.int IntKind.u64 0, Value.int IntKind.u64 0, Value.int IntKind.u64 0, Value.int IntKind.u64 0, Value.int IntKind.u64 0] 52 (0, 0))) (by exact heap_alloc_new _ _) (by simp); have hc := ShaW.box_cells hg; have hf := ShaW.box_frozen hg; have HG : Hid _ := hg; clear hg) | skip))
    · go_wp2
      go_meet
      case rel =>
        have h1 := hb1.size
        have h2 := hb2.size
        exact ⟨w2.heap.size, rfl, by show w.heap.size ≤ w2.heap.size; exact Nat.le_trans h1 h2, heap_alloc_new _ _, ((((Below.refl _ _).drew).trans hb1).trans (hb2.mono h1)).alloc (Nat.le_trans h1 h2) _⟩
    · go_wp2
      go_meet
      case rel =>
        have h1 : w.heap.size ≤ w1.heap.size := hb1.size
        have hb : Below w.heap.size w w2 := ((((Below.refl _ _).drew).trans hb1).alloc h1 _).trans (hb2.mono (by simp; omega))
        exact ⟨w1.heap.size, rfl, h1, ShaW.set8 HG.out _, ShaW.below8 hb h1 _ _ _ _ _ _ _ _⟩
    · go_wp2
      go_meet
      case rel =>
        have h1 := hb1.size
        have h2 := hb2.size
        have hb : Below w.heap.size w w2 := (((((Below.refl w.heap.size w).alloc (Nat.le_refl _) _).drew).trans (hb1.mono (by simp)))).trans (hb2.mono (by simp at h1; omega))
        exact ⟨w.heap.size, rfl, Nat.le_refl _, ShaW.set8 HG.out _, ShaW.below8 hb (Nat.le_refl _) _ _ _ _ _ _ _ _⟩
  case rest =>
    obtain ⟨b, rfl, HB⟩ := hcut
    obtain ⟨u, hu⟩ : ∃ u, u = Sha.mixAll Sha.start (s.data.toList.take k) := ⟨_, rfl⟩
    have HB2 : Hid (w.heap.size ≤ b ∧ wc.heap[b]? = some (.cells u.cells 52 (0, 0)) ∧ Below w.heap.size w wc ∧ Steps wc ∧ b < wc.heap.size) := by
      rw [hu]
      refine ⟨HB.out.1, HB.out.2.1, HB.out.2.2, Steps.by HB.out.2.2 h0 Hst.out, ?_⟩
      rcases Nat.lt_or_ge b wc.heap.size with h | h
      · exact h
      · have := HB.out.2.1; rw [Array.getElem?_eq_none h] at this; cases this
    have HU : Hid (u = Sha.mixAll Sha.start (s.data.toList.take k)) := hu
    clear hu HB Hst
    have c0 := cell_regrown (ShaW.cell (j := 0) HB2.out.2.1 rfl)
    have c1 := cell_regrown (ShaW.cell (j := 1) HB2.out.2.1 rfl)
    have c2 := cell_regrown (ShaW.cell (j := 2) HB2.out.2.1 rfl)
    have c3 := cell_regrown (ShaW.cell (j := 3) HB2.out.2.1 rfl)
    have c4 := cell_regrown (ShaW.cell (j := 4) HB2.out.2.1 rfl)
    have c5 := cell_regrown (ShaW.cell (j := 5) HB2.out.2.1 rfl)
    have c6 := cell_regrown (ShaW.cell (j := 6) HB2.out.2.1 rfl)
    have c7 := cell_regrown (ShaW.cell (j := 7) HB2.out.2.1 rfl)
    obtain ⟨E, hE⟩ : ∃ E, E = Sha.ended (s.extract k s.size).data.toList s.size := ⟨_, rfl⟩
    have HE : Hid (∀ d os, Calls Tryd.prog 26 #[.string (s.extract k s.size), .int .i64 s.size] (grow (redrawn wc d) os) fun e w'' => e = .returned (.string ⟨E.toArray⟩) ∧ ∃ p : Regrown, w'' = grow (redrawn wc p.d) p.os) := by
      intro d os
      rw [hE]
      exact Calls.regrown_of (ending_any _ _ _ (by rw [ByteArray.size_extract]; omega) hs)
    have hsz : (⟨E.toArray⟩ : ByteArray).size ≤ 1000000 := by
      have h1 : (s.extract k s.size).data.toList.length < 128 := by
        have : (s.extract k s.size).size < 128 := by rw [ByteArray.size_extract]; omega
        simpa using this
      have h2 : (Sha.ended (s.extract k s.size).data.toList s.size).length = (s.extract k s.size).data.toList.length + 1 + Sha.zeros (s.extract k s.size).data.toList.length + 16 := by
        simp only [Sha.ended, List.length_append, Sha.marked_length, Sha.be_length]
      have h3 : Sha.zeros (s.extract k s.size).data.toList.length < 128 := by unfold Sha.zeros; omega
      show E.toArray.size ≤ 1000000
      rw [List.size_toArray, hE, h2]
      omega
    have HM : Hid (∀ (d : Nat) (os : Array Obj), Calls Tryd.prog 24 #[.agg #[.int .u64 u.a, .int .u64 u.b, .int .u64 u.c, .int .u64 u.d, .int .u64 u.e, .int .u64 u.f, .int .u64 u.g, .int .u64 u.h], .string ⟨E.toArray⟩] (grow (redrawn wc d) os) fun e w'' => e = .returned (.agg (Sha.mixAll u E).cells) ∧ ∃ p : Regrown, w'' = grow (redrawn wc p.d) p.os) :=
      fun d os => Calls.regrown_of (mixAll_any u _ _ hsz (Steps.by (below_regrown wc d os) HB2.out.2.2.2.1.pos HB2.out.2.2.2.1))
    have HEE : Hid (E = Sha.ended (s.extract k s.size).data.toList s.size) := hE
    clear hsz hE
    go_wp2_with fail
    refine QTail.wp_region_tail (fun w' => ∃ p : Regrown, w' = grow (redrawn wc p.d) p.os) 8 (by kernel_rfl) (by kernel_rfl) ⟨⟨wc.drawn + 1, #[]⟩, by rw [grow_empty]; rfl⟩ ?_
    simp only [List.take_succ_cons, List.take_zero, List.drop_succ_cons, List.drop_zero]
    repeat (first | go_big_quiet_step (first | (go_at_call 26; exact HE.out _ _) | (go_at_call 24; exact HM.out _ _)) | quiet_step (first | (go_at_call 26; exact HE.out _ _) | (go_at_call 24; exact HM.out _ _)))
    refine wpQuiet_nil ?_
    rintro _ ⟨⟨dq, osq⟩, rfl⟩
    generalize hmx : Sha.mixAll u E = x
    have HX : Hid (Sha.out x = Sha.sum s.data.toList) := by
      rw [← hmx, HEE.out, HU.out]
      exact Sha.sum_two s k hkm (by omega)
    clear hmx HM HE
    have hbl := below_regrown wc dq osq
    generalize grow (redrawn wc dq) osq = V at hbl
    have HG : Hid (V.heap[b]? = some (.cells u.cells 52 (0, 0)) ∧ Below w.heap.size w V ∧ w.heap.size ≤ b) := by
      obtain ⟨h1, h2, h3, h4, h5⟩ := HB2.out
      exact ⟨(hbl.block b h5).trans h2, h3.trans (hbl.mono h3.size), h1⟩
    clear hbl c0 c1 c2 c3 c4 c5 c6 c7
    refine wpList_store_row rfl 52 _ _ rfl _ _ rfl rfl 52 _ HG.out.1 (by rw [ShaW.st_size]; exact info23) (by rw [ShaW.st_size, ShaW.st_size]) (ShaW.st_one _) ?_
    have hW : (V.setRow b x.cells).heap[b]? = some (.cells x.cells 52 (0, 0)) := setRow_heap _ _ _ _ _ _ HG.out.1
    have hbW : Below w.heap.size w (V.setRow b x.cells) := ShaW.below_setRow HG.out.2.1 HG.out.2.2 _
    generalize V.setRow b x.cells = W at hW hbW
    have HW : Hid (W.heap[b]? = some (.cells x.cells 52 (0, 0)) ∧ Below w.heap.size w W) := ⟨hW, hbW⟩
    clear hW hbW HG HB2
    go_wp2_with (refine wpList_load_row rfl 52 _ rfl _ rfl 52 _ (0, 0) _ HW.out.1 under23 rfl (by rw [ShaW.st_size]; exact info23) ?_)
    go_loopw [5, 28] (fun v i wr => ∃ j : Nat, j ≤ 8 ∧ i = .int .i64 j ∧ Hid (ByteRow.Has w.heap.size wr v (Sha.outN x j) ∧ Below w.heap.size w wr)) (fun _ i _ => 8 - (intOf i).toNat)
    case atStart => exact ⟨0, by omega, rfl, ByteRow.Has.nil _ _, HW.out.2⟩
    case round =>
      obtain ⟨j, hj, rfl, HH⟩ := hrel
      by_cases hlt : j < 8
      · have hidx := ShaW.idx8 x j hlt
        go_wp2_with fail
        refine (number_any w.heap.size _ (Sha.outN x j) (x.nth j) 8 _ HH.out.1 HH.out.2.size (by rw [Sha.outN_length]; omega) (by omega)).mono ?_
        rintro e w3 ⟨v3, rfl, hh3, hb3⟩
        have HR : Hid (ByteRow.Has w.heap.size w3 v3 (Sha.outN x (j + 1)) ∧ Below w.heap.size w w3) := ⟨hh3, HH.out.2.trans hb3⟩
        clear hh3 hb3 hidx
        go_wp2
        go_roundw
        case rel => exact ⟨j + 1, by omega, by go_num, HR.out⟩
        case measure => simp [intOf]; omega
      · have hj8 : j = 8 := by omega
        subst hj8
        obtain ⟨g, cap, hv, hcap⟩ := HH.out.1.form (by rw [ne_eq, ← List.length_eq_zero_iff, Sha.outN_length]; omega)
        rw [Sha.outN_length] at hv hcap
        subst hv
        have hcap2 : (64 : Int) ≤ cap := by omega
        have hhf : ByteRow.Has w.heap.size wr (.slice (some ⟨g, 0, none⟩) 32 cap) (Sha.out x) := by
          rw [← Sha.outN_out]
          refine ByteRow.Has.front ?_ (by rw [Sha.outN_length]; omega)
          rw [Sha.outN_length]
          exact HH.out.1
        have HF : Hid (ByteRow.Has w.heap.size wr (.slice (some ⟨g, 0, none⟩) 32 cap) (Sha.sum s.data.toList)) := by rw [← HX.out]; exact hhf
        clear hhf
        go_wp2_with (refine ByteRow.to_string _ rfl 40 9 5 _ rfl (Sha.sum s.data.toList) rfl HF.out (by rw [ne_eq, ← List.length_eq_zero_iff, Sha.sum_length]; omega) under46 under5 under9 ?_)
        go_ret
        exact ⟨rfl, HH.out.2⟩
end Go.Proofs.YtcfjlnceofdcdaaDoor
