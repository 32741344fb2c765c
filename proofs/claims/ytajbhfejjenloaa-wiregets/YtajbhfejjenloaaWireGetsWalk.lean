/- The walk of WireGets. -/
import Derived.Test.YtajbhfejjenloaaWireQuiet
import Derived.Test.YtajbhfejjenloaaWireStructRows
import Derived.Deep.CutBlock
import Derived.Deep.DeepCutAuto
namespace Go.Wire
open Go.RowKit
def pairCell (x : Int × Int) : Nat → Value
  | 0 => .int .i64 x.1
  | _ => .int .i64 x.2
/-- The program's reader b and the document's g, both q. -/
structure Two (T U b g : Nat) (q : St) (w : World) : Prop where
  rd : Rd T b q w
  rf : w.heap[g]? = some (.cells #[.string q.s, .int .i64 q.pos, .int .i64 q.err] U (0, 0))
/-- Both readers, where they lie, behind what was there. -/
def Both (T U b g N : Nat) (t : ByteArray) (q : St) (w0 w : World) : Prop :=
  q.s = t ∧ q.pos ≤ t.size ∧ Two T U b g q w ∧ Below N w0 w ∧ g < w.heap.size
theorem Two.below {T U b g : Nat} {q : St} {w w' : World} (h : Two T U b g q w) (k : Below w.heap.size w w') : Two T U b g q w' := ⟨kept_block h.rd k, kept_block h.rf k⟩
/-- The document's answer is laid over its reader, behind the program's call. -/
theorem Two.end {T U b g : Nat} {q q' : St} {w : World} (hne : b ≠ g) (h : Rd T b q' w) (hg : w.heap[g]? = some (.cells #[.string q.s, .int .i64 q.pos, .int .i64 q.err] U (0, 0))) :
    Two T U b g q' (((w.setCell ⟨g, 0, none⟩ (.string q'.s)).setCell ⟨g, 1, none⟩ (.int .i64 q'.pos)).setCell ⟨g, 2, none⟩ (.int .i64 q'.err)) := by
  refine ⟨?_, set3 hg _ _ _⟩
  unfold Rd
  rw [Below.heap_setCell _ ⟨g, 2, none⟩ _ b hne, Below.heap_setCell _ ⟨g, 1, none⟩ _ b hne, Below.heap_setCell _ ⟨g, 0, none⟩ _ b hne]
  exact h
theorem size3 (w : World) (g : Nat) (x y z : Value) : (((w.setCell ⟨g, 0, none⟩ x).setCell ⟨g, 1, none⟩ y).setCell ⟨g, 2, none⟩ z).heap.size = w.heap.size := by simp
end Go.Wire
namespace Go.Proofs.Ytajbhfejjenloaa
open Go.RowKit Go.Wire Go.Sort
theorem field2 (a b : Value) (c : Int) (w : World) : (Instr.field 28 (.agg #[a, b, .int .i64 c]) 2).run Try.prog w = .ok (.int .i64 c) w := by
  simp [Instr.field, run_underlying Try.underlying28, asAgg, part]
set_option maxRecDepth 100000 in
set_option maxHeartbeats 4000000 in
theorem gets_any (s : ByteArray) (v : Value) (n : Nat) (gs : Nat → Int × Int) (w : World) (hs : s.size ≤ maxLen) (h : SRow w 2 v n (fun j => pairCell (gs j))) (hgs : ∀ j, j < n → -9223372036854775808 ≤ (gs j).2 ∧ (gs j).2 ≤ 9223372036854775807) (hnl : n ≤ maxLen) :
    Calls Try.prog 6 #[.string s, v] w fun e w' => e = .returned (.bool true) ∧ Below w.heap.size w w' := by
  obtain ⟨aa, ca, rfl⟩ := h.form
  have HA : Hid (SRow w 2 (.slice aa n ca) n (fun j => pairCell (gs j)) ∧ (∀ j, j < n → -9223372036854775808 ≤ (gs j).2 ∧ (gs j).2 ≤ 9223372036854775807)) := ⟨h, hgs⟩
  clear h hgs
  unfold maxLen at hnl
  have hnl2 : (n : Int) ≤ 9223372036854775807 := by omega
  clear hnl
  have hf := few_size s
  have HF : Hid (∀ w : World, Calls Try.prog 9 #[.string s] w fun e w' => e = .returned (.string (few s)) ∧ w' = w) := fun w => few_any s w hs
  generalize few s = t at hf HF
  have ht : t.size ≤ maxLen := by unfold maxLen; omega
  clear hs
  go_enter Try.func6, Try.ntmps6
  go_upto_block 0 with (first
    | (go_at_call 9; refine (HF.out _).mono ?_; rintro e w' ⟨rfl, rfl⟩)
    | (go_at_call 10; refine (newReader_any _ _).mono ?_; rintro e w1 ⟨rfl, h1, k1⟩))
  have HW : Hid (Both 74 28 w'.heap.size w1.heap.size w'.heap.size t ⟨t, 0, 0⟩ w' (w1.alloc (.cells #[.string t, .int .i64 0, .int .i64 0] 28 (0, 0))) ∧ w'.heap.size < w1.heap.size) :=
    ⟨⟨rfl, Nat.zero_le _, ⟨kept_alloc h1 _, heap_alloc_new _ _⟩, k1.alloc k1.size _, by simp⟩, h1.lt⟩
  clear h1 k1
  generalize w1.alloc (.cells #[.string t, .int .i64 0, .int .i64 0] 28 (0, 0)) = W0 at HW
  generalize w1.heap.size = g at HW
  generalize hN : w'.heap.size = N at HW
  go_cut [8] (fun _ wr => ∃ q : St, Hid (Both 74 28 N g N t q w' wr))
  case first =>
    go_wp2_with fail
    go_loopw [8] (fun vi wr => ∃ (i : Nat) (q : St), i ≤ min 30 n ∧ vi = .int .i64 i ∧ Hid (Both 74 28 N g N t q w' wr)) (fun vi _ => 30 - (intOf vi).toNat)
    case atStart => exact ⟨0, _, Nat.zero_le _, rfl, HW.out.1⟩
    case round =>
      obtain ⟨i, q, hi, rfl, HB⟩ := hrel
      by_cases hlt : i < min 30 n
      · have h30 : (i : Int) < 30 := by omega
        have hla : (i : Int) < n := by omega
        obtain ⟨b, off, rfl, hbN, hcap, hcells⟩ := HA.out.1.at (by omega)
        have hc0 := hcells i 0 (by omega) (by omega)
        have hc1 := hcells i 1 (by omega) (by omega)
        have hgi := HA.out.2 i (by omega)
        clear hcells
        generalize gs i = gi at hc0 hc1 hgi
        obtain ⟨kd, m⟩ := gi
        simp only [pairCell] at hc0 hc1 hgi
        have hr0 : wr.cell? ⟨b, off + i * 2, none⟩ = some (.int .i64 kd) := (HB.out.2.2.2.1.cell (p := ⟨b, off + i * 2, none⟩) (by rw [← hN]; exact hbN)).trans hc0
        have hr1 : wr.cell? ⟨b, off + i * 2 + 1, none⟩ = some (.int .i64 m) := (HB.out.2.2.2.1.cell (p := ⟨b, off + i * 2 + 1, none⟩) (by rw [← hN]; exact hbN)).trans hc1
        clear hc0 hc1
        have hm1 := hgi.2
        clear hgi
        go_upto_block 2 with fail
        go_cut [10] (fun vok w2 => vok = .bool true ∧ ∃ q' : St, Hid (Both 74 28 N g N t q' w' w2))
        case first =>
          obtain ⟨a0, a1, a2, a3, a4, a5⟩ := cells3 HB.out.2.2.1.rf
          clear hr0 hr1
          by_cases hk1 : kd = 1
          · subst hk1
            have H1 : Hid (∀ w : World, Calls Try.prog 12 #[.agg #[.string q.s, .int .i64 q.pos, .int .i64 q.err], .int .i64 m] w fun e w' => e = .returned (.tuple #[.agg #[.string (q.number m).1.s, .int .i64 (q.number m).1.pos, .int .i64 (q.number m).1.err], .int .u64 ((q.number m).2 : Nat)]) ∧ Below w.heap.size w w') := fun w => rnumber_any q m w (by rw [HB.out.1]; exact HB.out.2.1) (by rw [HB.out.1]; exact ht)
            have H2 : Hid (∀ w : World, Rd 74 N q w → Calls Try.prog 11 #[.pointer (some ⟨N, 0, none⟩), .int .i64 m] w fun e w' => e = .returned (.int .u64 ((q.number m).2 : Nat)) ∧ Rd 74 N (q.number m).1 w' ∧ Kept N w w') := fun w h => readerNumber_any N q m w h (by rw [HB.out.1]; exact HB.out.2.1) (by rw [HB.out.1]; exact ht)
            have H3 : Hid ((q.number m).1.s = t ∧ (q.number m).1.pos ≤ t.size) := ⟨by rw [St.number_s, HB.out.1], by have := q.number_le m (by rw [HB.out.1]; exact HB.out.2.1); rwa [HB.out.1] at this⟩
            generalize (q.number m).2 = x at H1 H2
            generalize (q.number m).1 = q1 at H1 H2 H3
            obtain ⟨s1, p1, e1⟩ := q1
            simp only at H1
            go_wp2_with (go_at_call 12; refine (H1.out _).mono ?_; rintro e w2 ⟨rfl, k2⟩)
            have HD : Hid (Two 74 28 N g q (w2.alloc (.cells #[.string s1, .int .i64 p1, .int .i64 e1] 28 (0, 0))) ∧ (w2.alloc (.cells #[.string s1, .int .i64 p1, .int .i64 e1] 28 (0, 0))).heap[w2.heap.size]? = some (.cells #[.string s1, .int .i64 p1, .int .i64 e1] 28 (0, 0)) ∧ Below N w' (w2.alloc (.cells #[.string s1, .int .i64 p1, .int .i64 e1] 28 (0, 0))) ∧ g < w2.heap.size ∧ w2.heap.size < (w2.alloc (.cells #[.string s1, .int .i64 p1, .int .i64 e1] 28 (0, 0))).heap.size) := by
              have hgz := Nat.lt_of_lt_of_le HB.out.2.2.2.2 k2.size
              have hNg := HW.out.2
              have hkk := HB.out.2.2.2.1.trans (k2.mono (Nat.le_of_lt (Nat.lt_trans hNg HB.out.2.2.2.2)))
              exact ⟨(HB.out.2.2.1.below k2).below ((Below.refl _ _).alloc (Nat.le_refl _) _), heap_alloc_new _ _, hkk.alloc (Nat.le_of_lt (Nat.lt_trans hNg hgz)) _, hgz, by simp⟩
            clear k2 a0 a1 a2 a3 a4 a5
            generalize w2.alloc (.cells #[.string s1, .int .i64 p1, .int .i64 e1] 28 (0, 0)) = W at HD
            generalize w2.heap.size = hh at HD
            obtain ⟨b0, b1, b2, -, -, -⟩ := cells3 HD.out.2.1
            have FX : Hid (∀ w5 : World, Kept N W w5 → w5.heap[g]? = some (.cells #[.string q.s, .int .i64 q.pos, .int .i64 q.err] 28 (0, 0)) ∧ w5.heap[hh]? = some (.cells #[.string s1, .int .i64 p1, .int .i64 e1] 28 (0, 0))) := fun w5 k5 => by
              have hNg := HW.out.2
              have h4 := HD.out.2.2.2
              exact ⟨(k5.other g (by omega) (by omega)).trans HD.out.1.rf, (k5.other hh (by omega) (by omega)).trans HD.out.2.1⟩
            have END : Hid (∀ w5 : World, Rd 74 N ⟨s1, p1, e1⟩ w5 → Kept N W.drew w5 → Both 74 28 N g N t ⟨s1, p1, e1⟩ w' (((w5.setCell ⟨g, 0, none⟩ (.string s1)).setCell ⟨g, 1, none⟩ (.int .i64 p1)).setCell ⟨g, 2, none⟩ (.int .i64 e1))) := fun w5 h5 k5 => by
              have hNg := HW.out.2
              have h4 := HD.out.2.2.2
              exact ⟨H3.out.1, H3.out.2, Two.end (by omega) h5 (FX.out w5 ((Kept.refl _ _).drew.trans k5)).1, below3 (HD.out.2.2.1.drew.trans k5.below) (by omega) _ _ _, by rw [size3]; have := k5.below.size; exact Nat.lt_of_lt_of_le (Nat.lt_trans h4.1 h4.2) this⟩
            go_region_with (go_at_call 11; refine (H2.out _ (by exact HD.out.1.rd)).mono ?_; rintro e w5 ⟨rfl, h5, k5⟩; obtain ⟨HG5, HH5⟩ := FX.out _ ((Kept.refl _ _).drew.trans k5); obtain ⟨c0, c1, c2, c3, c4, c5⟩ := cells3 HG5; obtain ⟨d0, d1, d2, -, -, -⟩ := cells3 HH5)
            all_goals (go_wp2; go_meet)
            all_goals exact ⟨rfl, _, END.out _ (by assumption) (by assumption)⟩
          · by_cases hk2 : kd = 2
            · subst hk2
              have H1 : Hid (∀ w : World, Calls Try.prog 23 #[.agg #[.string q.s, .int .i64 q.pos, .int .i64 q.err], .int .i64 m] w fun e w' => e = .returned (.tuple #[.agg #[.string (q.count m).1.s, .int .i64 (q.count m).1.pos, .int .i64 (q.count m).1.err], .int .i64 ((q.count m).2 : Nat)]) ∧ Below w.heap.size w w') := fun w => rcount_any q m w (by rw [HB.out.1]; exact HB.out.2.1) (by rw [HB.out.1]; exact ht) hm1
              have H2 : Hid (∀ w : World, Rd 74 N q w → Calls Try.prog 24 #[.pointer (some ⟨N, 0, none⟩), .int .i64 m] w fun e w' => e = .returned (.int .i64 ((q.count m).2 : Nat)) ∧ Rd 74 N (q.count m).1 w' ∧ Kept N w w') := fun w h => count_any N q m w h (by rw [HB.out.1]; exact HB.out.2.1) (by rw [HB.out.1]; exact ht) hm1
              have H3 : Hid ((q.count m).1.s = t ∧ (q.count m).1.pos ≤ t.size) := ⟨by rw [St.count_s, HB.out.1], by have := q.count_le m (by rw [HB.out.1]; exact HB.out.2.1); rwa [HB.out.1] at this⟩
              generalize (q.count m).2 = x at H1 H2
              generalize (q.count m).1 = q1 at H1 H2 H3
              obtain ⟨s1, p1, e1⟩ := q1
              simp only at H1
              go_wp2_with (go_at_call 23; refine (H1.out _).mono ?_; rintro e w2 ⟨rfl, k2⟩)
              have HD : Hid (Two 74 28 N g q (w2.alloc (.cells #[.string s1, .int .i64 p1, .int .i64 e1] 28 (0, 0))) ∧ (w2.alloc (.cells #[.string s1, .int .i64 p1, .int .i64 e1] 28 (0, 0))).heap[w2.heap.size]? = some (.cells #[.string s1, .int .i64 p1, .int .i64 e1] 28 (0, 0)) ∧ Below N w' (w2.alloc (.cells #[.string s1, .int .i64 p1, .int .i64 e1] 28 (0, 0))) ∧ g < w2.heap.size ∧ w2.heap.size < (w2.alloc (.cells #[.string s1, .int .i64 p1, .int .i64 e1] 28 (0, 0))).heap.size) := by
                have hgz := Nat.lt_of_lt_of_le HB.out.2.2.2.2 k2.size
                have hNg := HW.out.2
                have hkk := HB.out.2.2.2.1.trans (k2.mono (Nat.le_of_lt (Nat.lt_trans hNg HB.out.2.2.2.2)))
                exact ⟨(HB.out.2.2.1.below k2).below ((Below.refl _ _).alloc (Nat.le_refl _) _), heap_alloc_new _ _, hkk.alloc (Nat.le_of_lt (Nat.lt_trans hNg hgz)) _, hgz, by simp⟩
              clear k2 a0 a1 a2 a3 a4 a5
              generalize w2.alloc (.cells #[.string s1, .int .i64 p1, .int .i64 e1] 28 (0, 0)) = W at HD
              generalize w2.heap.size = hh at HD
              obtain ⟨b0, b1, b2, -, -, -⟩ := cells3 HD.out.2.1
              have FX : Hid (∀ w5 : World, Kept N W w5 → w5.heap[g]? = some (.cells #[.string q.s, .int .i64 q.pos, .int .i64 q.err] 28 (0, 0)) ∧ w5.heap[hh]? = some (.cells #[.string s1, .int .i64 p1, .int .i64 e1] 28 (0, 0))) := fun w5 k5 => by
                have hNg := HW.out.2
                have h4 := HD.out.2.2.2
                exact ⟨(k5.other g (by omega) (by omega)).trans HD.out.1.rf, (k5.other hh (by omega) (by omega)).trans HD.out.2.1⟩
              have END : Hid (∀ w5 : World, Rd 74 N ⟨s1, p1, e1⟩ w5 → Kept N W.drew w5 → Both 74 28 N g N t ⟨s1, p1, e1⟩ w' (((w5.setCell ⟨g, 0, none⟩ (.string s1)).setCell ⟨g, 1, none⟩ (.int .i64 p1)).setCell ⟨g, 2, none⟩ (.int .i64 e1))) := fun w5 h5 k5 => by
                have hNg := HW.out.2
                have h4 := HD.out.2.2.2
                exact ⟨H3.out.1, H3.out.2, Two.end (by omega) h5 (FX.out w5 ((Kept.refl _ _).drew.trans k5)).1, below3 (HD.out.2.2.1.drew.trans k5.below) (by omega) _ _ _, by rw [size3]; have := k5.below.size; exact Nat.lt_of_lt_of_le (Nat.lt_trans h4.1 h4.2) this⟩
              go_region_with (go_at_call 24; refine (H2.out _ (by exact HD.out.1.rd)).mono ?_; rintro e w5 ⟨rfl, h5, k5⟩; obtain ⟨HG5, HH5⟩ := FX.out _ ((Kept.refl _ _).drew.trans k5); obtain ⟨c0, c1, c2, c3, c4, c5⟩ := cells3 HG5; obtain ⟨d0, d1, d2, -, -, -⟩ := cells3 HH5)
              all_goals (go_wp2; go_meet)
              all_goals exact ⟨rfl, _, END.out _ (by assumption) (by assumption)⟩
            · by_cases hk3 : kd = 3
              · subst hk3
                have H1 : Hid (∀ w : World, Calls Try.prog 25 #[.agg #[.string q.s, .int .i64 q.pos, .int .i64 q.err], .int .i64 m] w fun e w' => e = .returned (.tuple #[.agg #[.string (q.text m).1.s, .int .i64 (q.text m).1.pos, .int .i64 (q.text m).1.err], .string (q.text m).2]) ∧ Below w.heap.size w w') := fun w => rtext_any q m w (by rw [HB.out.1]; exact HB.out.2.1) (by rw [HB.out.1]; exact ht) hm1
                have H2 : Hid (∀ w : World, Rd 74 N q w → Calls Try.prog 26 #[.pointer (some ⟨N, 0, none⟩), .int .i64 m] w fun e w' => e = .returned (.string (q.text m).2) ∧ Rd 74 N (q.text m).1 w' ∧ Kept N w w') := fun w h => text_any N q m w h (by rw [HB.out.1]; exact HB.out.2.1) (by rw [HB.out.1]; exact ht) hm1
                have H3 : Hid ((q.text m).1.s = t ∧ (q.text m).1.pos ≤ t.size) := ⟨by rw [St.text_s, HB.out.1], by have := q.text_le m (by rw [HB.out.1]; exact HB.out.2.1); rwa [HB.out.1] at this⟩
                generalize (q.text m).2 = x at H1 H2
                generalize (q.text m).1 = q1 at H1 H2 H3
                obtain ⟨s1, p1, e1⟩ := q1
                simp only at H1
                go_wp2_with (go_at_call 25; refine (H1.out _).mono ?_; rintro e w2 ⟨rfl, k2⟩)
                have HD : Hid (Two 74 28 N g q (w2.alloc (.cells #[.string s1, .int .i64 p1, .int .i64 e1] 28 (0, 0))) ∧ (w2.alloc (.cells #[.string s1, .int .i64 p1, .int .i64 e1] 28 (0, 0))).heap[w2.heap.size]? = some (.cells #[.string s1, .int .i64 p1, .int .i64 e1] 28 (0, 0)) ∧ Below N w' (w2.alloc (.cells #[.string s1, .int .i64 p1, .int .i64 e1] 28 (0, 0))) ∧ g < w2.heap.size ∧ w2.heap.size < (w2.alloc (.cells #[.string s1, .int .i64 p1, .int .i64 e1] 28 (0, 0))).heap.size) := by
                  have hgz := Nat.lt_of_lt_of_le HB.out.2.2.2.2 k2.size
                  have hNg := HW.out.2
                  have hkk := HB.out.2.2.2.1.trans (k2.mono (Nat.le_of_lt (Nat.lt_trans hNg HB.out.2.2.2.2)))
                  exact ⟨(HB.out.2.2.1.below k2).below ((Below.refl _ _).alloc (Nat.le_refl _) _), heap_alloc_new _ _, hkk.alloc (Nat.le_of_lt (Nat.lt_trans hNg hgz)) _, hgz, by simp⟩
                clear k2 a0 a1 a2 a3 a4 a5
                generalize w2.alloc (.cells #[.string s1, .int .i64 p1, .int .i64 e1] 28 (0, 0)) = W at HD
                generalize w2.heap.size = hh at HD
                obtain ⟨b0, b1, b2, -, -, -⟩ := cells3 HD.out.2.1
                have FX : Hid (∀ w5 : World, Kept N W w5 → w5.heap[g]? = some (.cells #[.string q.s, .int .i64 q.pos, .int .i64 q.err] 28 (0, 0)) ∧ w5.heap[hh]? = some (.cells #[.string s1, .int .i64 p1, .int .i64 e1] 28 (0, 0))) := fun w5 k5 => by
                  have hNg := HW.out.2
                  have h4 := HD.out.2.2.2
                  exact ⟨(k5.other g (by omega) (by omega)).trans HD.out.1.rf, (k5.other hh (by omega) (by omega)).trans HD.out.2.1⟩
                have END : Hid (∀ w5 : World, Rd 74 N ⟨s1, p1, e1⟩ w5 → Kept N W.drew w5 → Both 74 28 N g N t ⟨s1, p1, e1⟩ w' (((w5.setCell ⟨g, 0, none⟩ (.string s1)).setCell ⟨g, 1, none⟩ (.int .i64 p1)).setCell ⟨g, 2, none⟩ (.int .i64 e1))) := fun w5 h5 k5 => by
                  have hNg := HW.out.2
                  have h4 := HD.out.2.2.2
                  exact ⟨H3.out.1, H3.out.2, Two.end (by omega) h5 (FX.out w5 ((Kept.refl _ _).drew.trans k5)).1, below3 (HD.out.2.2.1.drew.trans k5.below) (by omega) _ _ _, by rw [size3]; have := k5.below.size; exact Nat.lt_of_lt_of_le (Nat.lt_trans h4.1 h4.2) this⟩
                go_region_with (go_at_call 26; refine (H2.out _ (by exact HD.out.1.rd)).mono ?_; rintro e w5 ⟨rfl, h5, k5⟩; obtain ⟨HG5, HH5⟩ := FX.out _ ((Kept.refl _ _).drew.trans k5); obtain ⟨c0, c1, c2, c3, c4, c5⟩ := cells3 HG5; obtain ⟨d0, d1, d2, -, -, -⟩ := cells3 HH5)
                all_goals (go_wp2; go_meet)
                all_goals exact ⟨rfl, _, END.out _ (by assumption) (by assumption)⟩
              · by_cases hk4 : kd = 4
                · subst hk4
                  have H1 : Hid (∀ w : World, Calls Try.prog 27 #[.agg #[.string q.s, .int .i64 q.pos, .int .i64 q.err], .int .i64 32] w fun e w' => e = .returned (.tuple #[.agg #[.string (q.bytes 32).1.s, .int .i64 (q.bytes 32).1.pos, .int .i64 (q.bytes 32).1.err], .string (q.bytes 32).2]) ∧ Below w.heap.size w w') := fun w => rbytes_any q 32 w (by rw [HB.out.1]; exact HB.out.2.1) (by rw [HB.out.1]; exact ht)
                  have H2 : Hid (∀ w : World, Rd 74 N q w → Calls Try.prog 28 #[.pointer (some ⟨N, 0, none⟩)] w fun e w' => e = .returned (.string (q.bytes 32).2) ∧ Rd 74 N (q.bytes 32).1 w' ∧ Kept N w w') := fun w h => hash_any N q w h (by rw [HB.out.1]; exact HB.out.2.1) (by rw [HB.out.1]; exact ht)
                  have H3 : Hid ((q.bytes 32).1.s = t ∧ (q.bytes 32).1.pos ≤ t.size) := ⟨by rw [St.bytes_s, HB.out.1], by have := q.bytes_le 32 (by rw [HB.out.1]; exact HB.out.2.1); rwa [HB.out.1] at this⟩
                  generalize (q.bytes 32).2 = x at H1 H2
                  generalize (q.bytes 32).1 = q1 at H1 H2 H3
                  obtain ⟨s1, p1, e1⟩ := q1
                  simp only at H1
                  go_wp2_with (go_at_call 27; refine (H1.out _).mono ?_; rintro e w2 ⟨rfl, k2⟩)
                  have HD : Hid (Two 74 28 N g q (w2.alloc (.cells #[.string s1, .int .i64 p1, .int .i64 e1] 28 (0, 0))) ∧ (w2.alloc (.cells #[.string s1, .int .i64 p1, .int .i64 e1] 28 (0, 0))).heap[w2.heap.size]? = some (.cells #[.string s1, .int .i64 p1, .int .i64 e1] 28 (0, 0)) ∧ Below N w' (w2.alloc (.cells #[.string s1, .int .i64 p1, .int .i64 e1] 28 (0, 0))) ∧ g < w2.heap.size ∧ w2.heap.size < (w2.alloc (.cells #[.string s1, .int .i64 p1, .int .i64 e1] 28 (0, 0))).heap.size) := by
                    have hgz := Nat.lt_of_lt_of_le HB.out.2.2.2.2 k2.size
                    have hNg := HW.out.2
                    have hkk := HB.out.2.2.2.1.trans (k2.mono (Nat.le_of_lt (Nat.lt_trans hNg HB.out.2.2.2.2)))
                    exact ⟨(HB.out.2.2.1.below k2).below ((Below.refl _ _).alloc (Nat.le_refl _) _), heap_alloc_new _ _, hkk.alloc (Nat.le_of_lt (Nat.lt_trans hNg hgz)) _, hgz, by simp⟩
                  clear k2 a0 a1 a2 a3 a4 a5
                  generalize w2.alloc (.cells #[.string s1, .int .i64 p1, .int .i64 e1] 28 (0, 0)) = W at HD
                  generalize w2.heap.size = hh at HD
                  obtain ⟨b0, b1, b2, -, -, -⟩ := cells3 HD.out.2.1
                  have FX : Hid (∀ w5 : World, Kept N W w5 → w5.heap[g]? = some (.cells #[.string q.s, .int .i64 q.pos, .int .i64 q.err] 28 (0, 0)) ∧ w5.heap[hh]? = some (.cells #[.string s1, .int .i64 p1, .int .i64 e1] 28 (0, 0))) := fun w5 k5 => by
                    have hNg := HW.out.2
                    have h4 := HD.out.2.2.2
                    exact ⟨(k5.other g (by omega) (by omega)).trans HD.out.1.rf, (k5.other hh (by omega) (by omega)).trans HD.out.2.1⟩
                  have END : Hid (∀ w5 : World, Rd 74 N ⟨s1, p1, e1⟩ w5 → Kept N W.drew w5 → Both 74 28 N g N t ⟨s1, p1, e1⟩ w' (((w5.setCell ⟨g, 0, none⟩ (.string s1)).setCell ⟨g, 1, none⟩ (.int .i64 p1)).setCell ⟨g, 2, none⟩ (.int .i64 e1))) := fun w5 h5 k5 => by
                    have hNg := HW.out.2
                    have h4 := HD.out.2.2.2
                    exact ⟨H3.out.1, H3.out.2, Two.end (by omega) h5 (FX.out w5 ((Kept.refl _ _).drew.trans k5)).1, below3 (HD.out.2.2.1.drew.trans k5.below) (by omega) _ _ _, by rw [size3]; have := k5.below.size; exact Nat.lt_of_lt_of_le (Nat.lt_trans h4.1 h4.2) this⟩
                  go_region_with (go_at_call 28; refine (H2.out _ (by exact HD.out.1.rd)).mono ?_; rintro e w5 ⟨rfl, h5, k5⟩; obtain ⟨HG5, HH5⟩ := FX.out _ ((Kept.refl _ _).drew.trans k5); obtain ⟨c0, c1, c2, c3, c4, c5⟩ := cells3 HG5; obtain ⟨d0, d1, d2, -, -, -⟩ := cells3 HH5)
                  all_goals (go_wp2; go_meet)
                  all_goals exact ⟨rfl, _, END.out _ (by assumption) (by assumption)⟩
                · by_cases hk5 : kd = 5
                  · subst hk5
                    have H1 : Hid (∀ w : World, Calls Try.prog 29 #[.agg #[.string q.s, .int .i64 q.pos, .int .i64 q.err]] w fun e w' => e = .returned (.tuple #[.agg #[.string (q.bool).1.s, .int .i64 (q.bool).1.pos, .int .i64 (q.bool).1.err], .bool (q.bool).2]) ∧ Below w.heap.size w w') := fun w => rbool_any q w (by rw [HB.out.1]; exact HB.out.2.1) (by rw [HB.out.1]; exact ht)
                    have H2 : Hid (∀ w : World, Rd 74 N q w → Calls Try.prog 30 #[.pointer (some ⟨N, 0, none⟩)] w fun e w' => e = .returned (.bool (q.bool).2) ∧ Rd 74 N (q.bool).1 w' ∧ Kept N w w') := fun w h => bool_any N q w h (by rw [HB.out.1]; exact HB.out.2.1) (by rw [HB.out.1]; exact ht)
                    have H3 : Hid ((q.bool).1.s = t ∧ (q.bool).1.pos ≤ t.size) := ⟨by rw [St.bool_s, HB.out.1], by have := q.bool_le (by rw [HB.out.1]; exact HB.out.2.1); rwa [HB.out.1] at this⟩
                    generalize (q.bool).2 = x at H1 H2
                    generalize (q.bool).1 = q1 at H1 H2 H3
                    obtain ⟨s1, p1, e1⟩ := q1
                    simp only at H1
                    go_wp2_with (go_at_call 29; refine (H1.out _).mono ?_; rintro e w2 ⟨rfl, k2⟩)
                    have HD : Hid (Two 74 28 N g q (w2.alloc (.cells #[.string s1, .int .i64 p1, .int .i64 e1] 28 (0, 0))) ∧ (w2.alloc (.cells #[.string s1, .int .i64 p1, .int .i64 e1] 28 (0, 0))).heap[w2.heap.size]? = some (.cells #[.string s1, .int .i64 p1, .int .i64 e1] 28 (0, 0)) ∧ Below N w' (w2.alloc (.cells #[.string s1, .int .i64 p1, .int .i64 e1] 28 (0, 0))) ∧ g < w2.heap.size ∧ w2.heap.size < (w2.alloc (.cells #[.string s1, .int .i64 p1, .int .i64 e1] 28 (0, 0))).heap.size) := by
                      have hgz := Nat.lt_of_lt_of_le HB.out.2.2.2.2 k2.size
                      have hNg := HW.out.2
                      have hkk := HB.out.2.2.2.1.trans (k2.mono (Nat.le_of_lt (Nat.lt_trans hNg HB.out.2.2.2.2)))
                      exact ⟨(HB.out.2.2.1.below k2).below ((Below.refl _ _).alloc (Nat.le_refl _) _), heap_alloc_new _ _, hkk.alloc (Nat.le_of_lt (Nat.lt_trans hNg hgz)) _, hgz, by simp⟩
                    clear k2 a0 a1 a2 a3 a4 a5
                    generalize w2.alloc (.cells #[.string s1, .int .i64 p1, .int .i64 e1] 28 (0, 0)) = W at HD
                    generalize w2.heap.size = hh at HD
                    obtain ⟨b0, b1, b2, -, -, -⟩ := cells3 HD.out.2.1
                    have FX : Hid (∀ w5 : World, Kept N W w5 → w5.heap[g]? = some (.cells #[.string q.s, .int .i64 q.pos, .int .i64 q.err] 28 (0, 0)) ∧ w5.heap[hh]? = some (.cells #[.string s1, .int .i64 p1, .int .i64 e1] 28 (0, 0))) := fun w5 k5 => by
                      have hNg := HW.out.2
                      have h4 := HD.out.2.2.2
                      exact ⟨(k5.other g (by omega) (by omega)).trans HD.out.1.rf, (k5.other hh (by omega) (by omega)).trans HD.out.2.1⟩
                    have END : Hid (∀ w5 : World, Rd 74 N ⟨s1, p1, e1⟩ w5 → Kept N W.drew w5 → Both 74 28 N g N t ⟨s1, p1, e1⟩ w' (((w5.setCell ⟨g, 0, none⟩ (.string s1)).setCell ⟨g, 1, none⟩ (.int .i64 p1)).setCell ⟨g, 2, none⟩ (.int .i64 e1))) := fun w5 h5 k5 => by
                      have hNg := HW.out.2
                      have h4 := HD.out.2.2.2
                      exact ⟨H3.out.1, H3.out.2, Two.end (by omega) h5 (FX.out w5 ((Kept.refl _ _).drew.trans k5)).1, below3 (HD.out.2.2.1.drew.trans k5.below) (by omega) _ _ _, by rw [size3]; have := k5.below.size; exact Nat.lt_of_lt_of_le (Nat.lt_trans h4.1 h4.2) this⟩
                    go_region_with (go_at_call 30; refine (H2.out _ (by exact HD.out.1.rd)).mono ?_; rintro e w5 ⟨rfl, h5, k5⟩; obtain ⟨HG5, HH5⟩ := FX.out _ ((Kept.refl _ _).drew.trans k5); obtain ⟨c0, c1, c2, c3, c4, c5⟩ := cells3 HG5; obtain ⟨d0, d1, d2, -, -, -⟩ := cells3 HH5)
                    all_goals (go_wp2; go_meet)
                    all_goals exact ⟨rfl, _, END.out _ (by assumption) (by assumption)⟩
                  · by_cases hk6 : kd = 6
                    · subst hk6
                      have H2 : Hid (∀ w : World, Rd 74 N q w → Calls Try.prog 31 #[.pointer (some ⟨N, 0, none⟩), .int .i64 7] w fun e w' => e = .returned (.tuple #[]) ∧ Rd 74 N (q.fail 7) w' ∧ Kept N w w') := fun w h => fail_any N q 7 w h
                      clear a0 a1 a2 a3 a4 a5
                      by_cases he : q.err = 0
                      · have hq : q.fail 7 = ⟨q.s, q.pos, 7⟩ := if_pos he
                        rw [hq] at H2
                        clear hq
                        go_wp2_with (go_at_call 31; refine (H2.out _ HB.out.2.2.1.rd).mono ?_; rintro e w5 ⟨rfl, h5, k5⟩; have HG5 := (k5.other g (by have := HW.out.2; omega) HB.out.2.2.2.2).trans HB.out.2.2.1.rf; obtain ⟨c0, c1, c2, c3, c4, c5⟩ := cells3 HG5)
                        go_meet
                        case rel =>
                          refine ⟨rfl, ⟨q.s, q.pos, 7⟩, HB.out.1, HB.out.2.1, ⟨?_, ?_⟩, ?_, ?_⟩
                          · exact (Below.heap_setCell _ ⟨g, 2, none⟩ _ N (by have := HW.out.2; show N ≠ g; omega)).trans h5
                          · rw [heap_setCell_same _ _ _ _ _ _ HG5]; rfl
                          · exact (HB.out.2.2.2.1.trans k5.below).setCell (p := ⟨g, 2, none⟩) (Nat.le_of_lt HW.out.2) _
                          · have := k5.below.size; have := HB.out.2.2.2.2; simp; omega
                      · have hq : q.fail 7 = q := if_neg he
                        have hb := beq_eq_false_iff_ne.2 he
                        rw [hq] at H2
                        clear hq
                        go_wp2_with (go_at_call 31; refine (H2.out _ HB.out.2.2.1.rd).mono ?_; rintro e w5 ⟨rfl, h5, k5⟩; have HG5 := (k5.other g (by have := HW.out.2; omega) HB.out.2.2.2.2).trans HB.out.2.2.1.rf; obtain ⟨c0, c1, c2, c3, c4, c5⟩ := cells3 HG5)
                        go_meet
                        case rel => exact ⟨rfl, q, HB.out.1, HB.out.2.1, ⟨h5, HG5⟩, HB.out.2.2.2.1.trans k5.below, Nat.lt_of_lt_of_le HB.out.2.2.2.2 k5.below.size⟩
                    · have n1 := beq_eq_false_iff_ne.2 hk1
                      have n2 := beq_eq_false_iff_ne.2 hk2
                      have n3 := beq_eq_false_iff_ne.2 hk3
                      have n4 := beq_eq_false_iff_ne.2 hk4
                      have n5 := beq_eq_false_iff_ne.2 hk5
                      have n6 := beq_eq_false_iff_ne.2 hk6
                      have H1 : Hid (∀ w : World, Calls Try.prog 27 #[.agg #[.string q.s, .int .i64 q.pos, .int .i64 q.err], .int .i64 m] w fun e w' => e = .returned (.tuple #[.agg #[.string (q.bytes m).1.s, .int .i64 (q.bytes m).1.pos, .int .i64 (q.bytes m).1.err], .string (q.bytes m).2]) ∧ Below w.heap.size w w') := fun w => rbytes_any q m w (by rw [HB.out.1]; exact HB.out.2.1) (by rw [HB.out.1]; exact ht)
                      have H2 : Hid (∀ w : World, Rd 74 N q w → Calls Try.prog 32 #[.pointer (some ⟨N, 0, none⟩), .int .i64 m] w fun e w' => e = .returned (.string (q.bytes m).2) ∧ Rd 74 N (q.bytes m).1 w' ∧ Kept N w w') := fun w h => bytes_any N q m w h (by rw [HB.out.1]; exact HB.out.2.1) (by rw [HB.out.1]; exact ht)
                      have H3 : Hid ((q.bytes m).1.s = t ∧ (q.bytes m).1.pos ≤ t.size) := ⟨by rw [St.bytes_s, HB.out.1], by have := q.bytes_le m (by rw [HB.out.1]; exact HB.out.2.1); rwa [HB.out.1] at this⟩
                      generalize (q.bytes m).2 = x at H1 H2
                      generalize (q.bytes m).1 = q1 at H1 H2 H3
                      obtain ⟨s1, p1, e1⟩ := q1
                      simp only at H1
                      go_wp2_with (go_at_call 27; refine (H1.out _).mono ?_; rintro e w2 ⟨rfl, k2⟩)
                      have HD : Hid (Two 74 28 N g q (w2.alloc (.cells #[.string s1, .int .i64 p1, .int .i64 e1] 28 (0, 0))) ∧ (w2.alloc (.cells #[.string s1, .int .i64 p1, .int .i64 e1] 28 (0, 0))).heap[w2.heap.size]? = some (.cells #[.string s1, .int .i64 p1, .int .i64 e1] 28 (0, 0)) ∧ Below N w' (w2.alloc (.cells #[.string s1, .int .i64 p1, .int .i64 e1] 28 (0, 0))) ∧ g < w2.heap.size ∧ w2.heap.size < (w2.alloc (.cells #[.string s1, .int .i64 p1, .int .i64 e1] 28 (0, 0))).heap.size) := by
                        have hgz := Nat.lt_of_lt_of_le HB.out.2.2.2.2 k2.size
                        have hNg := HW.out.2
                        have hkk := HB.out.2.2.2.1.trans (k2.mono (Nat.le_of_lt (Nat.lt_trans hNg HB.out.2.2.2.2)))
                        exact ⟨(HB.out.2.2.1.below k2).below ((Below.refl _ _).alloc (Nat.le_refl _) _), heap_alloc_new _ _, hkk.alloc (Nat.le_of_lt (Nat.lt_trans hNg hgz)) _, hgz, by simp⟩
                      clear k2 a0 a1 a2 a3 a4 a5
                      generalize w2.alloc (.cells #[.string s1, .int .i64 p1, .int .i64 e1] 28 (0, 0)) = W at HD
                      generalize w2.heap.size = hh at HD
                      obtain ⟨b0, b1, b2, -, -, -⟩ := cells3 HD.out.2.1
                      have FX : Hid (∀ w5 : World, Kept N W w5 → w5.heap[g]? = some (.cells #[.string q.s, .int .i64 q.pos, .int .i64 q.err] 28 (0, 0)) ∧ w5.heap[hh]? = some (.cells #[.string s1, .int .i64 p1, .int .i64 e1] 28 (0, 0))) := fun w5 k5 => by
                        have hNg := HW.out.2
                        have h4 := HD.out.2.2.2
                        exact ⟨(k5.other g (by omega) (by omega)).trans HD.out.1.rf, (k5.other hh (by omega) (by omega)).trans HD.out.2.1⟩
                      have END : Hid (∀ w5 : World, Rd 74 N ⟨s1, p1, e1⟩ w5 → Kept N W.drew w5 → Both 74 28 N g N t ⟨s1, p1, e1⟩ w' (((w5.setCell ⟨g, 0, none⟩ (.string s1)).setCell ⟨g, 1, none⟩ (.int .i64 p1)).setCell ⟨g, 2, none⟩ (.int .i64 e1))) := fun w5 h5 k5 => by
                        have hNg := HW.out.2
                        have h4 := HD.out.2.2.2
                        exact ⟨H3.out.1, H3.out.2, Two.end (by omega) h5 (FX.out w5 ((Kept.refl _ _).drew.trans k5)).1, below3 (HD.out.2.2.1.drew.trans k5.below) (by omega) _ _ _, by rw [size3]; have := k5.below.size; exact Nat.lt_of_lt_of_le (Nat.lt_trans h4.1 h4.2) this⟩
                      go_region_with (go_at_call 32; refine (H2.out _ (by exact HD.out.1.rd)).mono ?_; rintro e w5 ⟨rfl, h5, k5⟩; obtain ⟨HG5, HH5⟩ := FX.out _ ((Kept.refl _ _).drew.trans k5); obtain ⟨c0, c1, c2, c3, c4, c5⟩ := cells3 HG5; obtain ⟨d0, d1, d2, -, -, -⟩ := cells3 HH5)
                      all_goals (go_wp2; go_meet)
                      all_goals exact ⟨rfl, _, END.out _ (by assumption) (by assumption)⟩
        case rest =>
          obtain ⟨rfl, q', HC⟩ := hcut
          have hz : q'.s.size = t.size := by rw [HC.out.1]
          have HR : Rd 74 N q' wc := HC.out.2.2.1.rd
          have hle : q'.pos ≤ q'.s.size := by rw [hz]; exact HC.out.2.1
          have hle2 : q'.pos ≤ t.size := HC.out.2.1
          have hlm : q'.s.size ≤ maxLen := by rw [hz]; exact ht
          obtain ⟨b0, b1, b2, -, -, -⟩ := cells3 HC.out.2.2.1.rf
          have C1 : ∀ d os, (grow (redrawn wc d) os).cell? ⟨g, 1, none⟩ = some (.int .i64 q'.pos) := fun d os => cell_regrown b1 d os
          have C2 : ∀ d os, (grow (redrawn wc d) os).cell? ⟨g, 2, none⟩ = some (.int .i64 q'.err) := fun d os => cell_regrown b2 d os
          have L1 : Hid (∀ d os, Calls Try.prog 16 #[.pointer (some ⟨N, 0, none⟩)] (grow (redrawn wc d) os) fun e w'' => e = .returned (.int .i64 ((t.size : Int) - q'.pos)) ∧ ∃ p : Regrown, w'' = grow (redrawn wc p.d) p.os) := fun d os => by
            have := left_quiet HR hle hlm d os
            rwa [hz] at this
          clear b0 b1 b2 hle hlm hz
          go_wp2_with fail
          refine wp_region_quiet_below (by kernel_rfl) (by kernel_rfl) ?_
          repeat (first | go_big_quiet_step (first | (go_at_call 14; exact err_quiet HR _ _) | (go_at_call 15; exact at_quiet HR _ _) | (go_at_call 16; exact L1.out _ _)))
          refine wpQuiet_nil ?_
          rintro _ ⟨⟨dq, osq⟩, rfl⟩
          have HE : Hid (Both 74 28 N g N t q' w' (grow (redrawn wc dq) osq)) := by
            have hq := below_regrown wc dq osq
            exact ⟨HC.out.1, HC.out.2.1, HC.out.2.2.1.below hq, HC.out.2.2.2.1.trans (hq.mono (Nat.le_of_lt (Nat.lt_trans HW.out.2 HC.out.2.2.2.2))), Nat.lt_of_lt_of_le HC.out.2.2.2.2 hq.size⟩
          clear C1 C2 L1 HR HC
          generalize grow (redrawn wc dq) osq = w3 at HE
          go_wp2
          go_roundw
          case rel => exact ⟨i + 1, q', by omega, by go_num, HE.out⟩
          case measure => simp [intOf]; omega
      · have hix : i = min 30 n := by omega
        have HE : Hid (∃ q' : St, Hid (Both 74 28 N g N t q' w' wr)) := ⟨q, HB.out⟩
        by_cases h1 : i < n
        · have hi6 : ¬ ((i : Int) < 30) := by omega
          have hla : (i : Int) < n := by omega
          clear hix
          go_wp2
          go_meet
          case rel => exact HE.out
        · have hla : ¬ ((i : Int) < n) := by omega
          clear hix
          go_wp2
          go_meet
          case rel => exact HE.out
  case rest =>
    obtain ⟨q, HC⟩ := hcut
    have hz : q.s.size = t.size := by rw [HC.out.1]
    have hle : q.pos ≤ q.s.size := by rw [hz]; exact HC.out.2.1
    have hlm : q.s.size ≤ maxLen := by rw [hz]; exact ht
    have H1 : Hid (∀ w : World, Rd 74 N q w → Calls Try.prog 33 #[.pointer (some ⟨N, 0, none⟩)] w fun e w' => e = .returned (.int .i64 q.fin.err) ∧ Rd 74 N q.fin w' ∧ Kept N w w') := fun w h => end_any N q w h hle hlm
    have H2 : Hid (∀ w : World, Calls Try.prog 34 #[.agg #[.string q.s, .int .i64 q.pos, .int .i64 q.err]] w fun e w' => e = .returned (.agg #[.string q.fin.s, .int .i64 q.fin.pos, .int .i64 q.fin.err]) ∧ Below w.heap.size w w') := fun w => rend_any q w hlm
    clear hz hle hlm
    generalize q.fin.err = fe at H1 H2
    generalize q.fin.pos = fp at H2
    generalize q.fin.s = fs at H2
    have FX : Hid (∀ w5 : World, Below wc.heap.size wc w5 → Two 74 28 N g q w5 ∧ Below N w' w5 ∧ g < w5.heap.size) := fun w5 k5 =>
      ⟨HC.out.2.2.1.below k5, HC.out.2.2.2.1.trans (k5.mono (Nat.le_of_lt (Nat.lt_trans HW.out.2 HC.out.2.2.2.2))), Nat.lt_of_lt_of_le HC.out.2.2.2.2 k5.size⟩
    have FY : Hid (∀ w5 w6 : World, Two 74 28 N g q w5 ∧ Below N w' w5 ∧ g < w5.heap.size → Kept N w5 w6 → w6.heap[g]? = some (.cells #[.string q.s, .int .i64 q.pos, .int .i64 q.err] 28 (0, 0)) ∧ Below N w' w6) := fun w5 w6 h5 k6 =>
      ⟨(k6.other g (by have := HW.out.2; omega) h5.2.2).trans h5.1.rf, h5.2.1.trans k6.below⟩
    have FD : ∀ w : World, (Instr.field 28 (.agg #[.string fs, .int .i64 fp, .int .i64 fe]) 2).run Try.prog w = .ok (.int .i64 fe) w := fun w => field2 _ _ _ w
    go_wp2_with fail
    go_region_with (first
      | (go_at_call 13; refine (awake_any _).mono ?_; rintro e w5 ⟨rfl, k5⟩; have f5 := FX.out w5 ((Below.refl _ _).drew.trans k5); obtain ⟨c0, c1, c2, -, -, -⟩ := cells3 f5.1.rf)
      | (go_at_call 33; refine (H1.out _ (by exact f5.1.rd)).mono ?_; rintro e w6 ⟨rfl, h6, k6⟩; have f6 := FY.out _ _ f5 k6; obtain ⟨d0, d1, d2, -, -, -⟩ := cells3 f6.1)
      | (go_at_call 34; refine (H2.out _).mono ?_; rintro e w7 ⟨rfl, k7⟩))
    all_goals (go_wp2; go_ret; rw [hN]; exact ⟨rfl, f6.2.trans (k7.mono (by rw [← hN]; exact f6.2.size))⟩)
end Go.Proofs.Ytajbhfejjenloaa
