/- The walk of DiskLimits. -/
import Derived.Test.YtnjkahoaogeecaaDiskActsWalk
import Derived.Test.YtnjkahoaogeecaaDiskRoom
namespace Go.Proofs.Ytnjkahoaogeecaa
open Go.RowKit Go.Dk
set_option maxRecDepth 100000 in
set_option maxHeartbeats 4000000 in
theorem diskLimits_any (v : Value) (n : Nat) (gs : Nat → Ac) (room : Int) (W : World) (hs : Wire.SRow W 8 v n (fun j => (gs j).cell)) (hf : ∀ j, j < n → (gs j).Fits) (hn : n ≤ maxLen) (_hroom : -9223372036854775808 ≤ room ∧ room ≤ 9223372036854775807) :
    Calls Try.prog 6 #[v, .int .i64 room] W fun e w' => e = .returned (.bool true) ∧ Below W.heap.size W w' := by
  obtain ⟨va, vc, rfl⟩ := hs.form
  unfold maxLen at hn
  have HA : Hid (∀ i, i < n → ∃ b off, va = some ⟨b, off, none⟩ ∧ b < W.heap.size ∧ n ≤ vc ∧ ∀ c, c < 8 → W.cell? ⟨b, off + i * 8 + c, none⟩ = some ((gs i).cell c)) := fun i hi => by
    rcases hs with ⟨_, h0⟩ | ⟨b, off, cap, h1, h2, h3, h4⟩
    · omega
    · cases h1
      exact ⟨b, off, rfl, h2, h3, fun c hc => h4 i c hi hc⟩
  have HFIT := hide hf
  have HAWAKE : Hid (∀ w1, Calls Try.prog 11 #[] w1 fun e w' => e = .returned (.bool true) ∧ Below w1.heap.size w1 w') := awake_any
  have HFRESH : Hid (Calls Try.prog 8 #[] W fun e w' => ∃ d S D fa fc la lc, e = .returned (.agg #[.pointer (some ⟨d, 0, none⟩), .slice fa D.rs.length fc, .int .i64 D.a.room, .slice la (flen D.a.fall) lc, .int .i64 D.a.changes, .bool D.a.down]) ∧ sideCs d D = #[.pointer (some ⟨d, 0, none⟩), .slice fa D.rs.length fc, .int .i64 D.a.room, .slice la (flen D.a.fall) lc, .int .i64 D.a.changes, .bool D.a.down] ∧ Both Try.prog W.heap.size 0 d w' S D ∧ Below W.heap.size W w' ∧ D.a = ⟨[], -1, none, 0, false⟩) := by
    refine (fresh_any W).mono ?_
    rintro e w' ⟨d, S, D, he, hB, hz, hb⟩
    obtain ⟨fa, fc, la, lc, h1⟩ := side_lit hB
    exact ⟨d, S, D, fa, fc, la, lc, by rw [he]; unfold sideV; rw [h1], h1, hB, hb, hz⟩
  obtain ⟨m, hm, hand⟩ := and_small room 127 (by omega)
  have hand2 : bits .and .i64 room 127 = (m : Int) := hand
  clear hs hf hand
  go_enter Try.func6, Try.ntmps6
  go_upto_region 3 with (go_at_call 8; refine (HFRESH.out).mono ?_; rintro e w1 ⟨d, S, D, fa, fc, la, lc, rfl, hside, hB, k1, hz⟩; have HZ := hide (And.intro hside (And.intro hB (And.intro k1 hz))); clear hside hB k1 hz)
  have HROOM : Hid (Calls Try.prog 9 #[.agg #[.pointer (some ⟨d, 0, none⟩), .slice fa D.rs.length fc, .int .i64 D.a.room, .slice la (flen D.a.fall) lc, .int .i64 D.a.changes, .bool D.a.down], .agg #[.int .i64 8, .string ByteArray.empty, .string ByteArray.empty, .string ByteArray.empty, .int .i64 m, .int .i64 0, .int .i64 0, .int .i64 0]] (w1.alloc (.cells #[.pointer (some ⟨d, 0, none⟩), .slice fa D.rs.length fc, .int .i64 D.a.room, .slice la (flen D.a.fall) lc, .int .i64 D.a.changes, .bool D.a.down] 29)) fun e w' => ∃ T D' fa' fc' la' lc', e = .returned (.tuple #[.agg #[.pointer (some ⟨d, 0, none⟩), .slice fa' D'.rs.length fc', .int .i64 D'.a.room, .slice la' (flen D'.a.fall) lc', .int .i64 D'.a.changes, .bool D'.a.down], .bool true]) ∧ sideCs d D' = #[.pointer (some ⟨d, 0, none⟩), .slice fa' D'.rs.length fc', .int .i64 D'.a.room, .slice la' (flen D'.a.fall) lc', .int .i64 D'.a.changes, .bool D'.a.down] ∧ Both Try.prog W.heap.size 1 d w' T D' ∧ Ample m D'.a ∧ Below W.heap.size W w' ∧ w'.heap[w1.heap.size]? = some (.cells #[.pointer (some ⟨d, 0, none⟩), .slice fa D.rs.length fc, .int .i64 D.a.room, .slice la (flen D.a.fall) lc, .int .i64 D.a.changes, .bool D.a.down] 29 (0, 0))) := by
    have kb : Below w1.heap.size w1 (w1.alloc (.cells #[.pointer (some ⟨d, 0, none⟩), .slice fa D.rs.length fc, .int .i64 D.a.room, .slice la (flen D.a.fall) lc, .int .i64 D.a.changes, .bool D.a.down] 29)) := (Below.refl _ _).alloc (Nat.le_refl _) _
    have := act_any W.heap.size 0 d S D (roomAct m) (w1.alloc (.cells #[.pointer (some ⟨d, 0, none⟩), .slice fa D.rs.length fc, .int .i64 D.a.room, .slice la (flen D.a.fall) lc, .int .i64 D.a.changes, .bool D.a.down] 29)) (HZ.out.2.1.below kb) (roomAct_fits hm) (by omega)
    unfold sideV Ac.v Ac.cs roomAct at this
    rw [HZ.out.1] at this
    refine this.mono ?_
    rintro e w' ⟨T, D', he, hB', hD', hk⟩
    obtain ⟨fa', fc', la', lc', h1⟩ := side_lit hB'
    have kw := HZ.out.2.2.1.trans (kb.mono HZ.out.2.2.1.size)
    exact ⟨T, D', fa', fc', la', lc', by rw [he]; unfold sideV; rw [h1], h1, hB', by rw [hD']; exact roomAct_ample m D.a HZ.out.2.2.2, kw.trans (hk.below kw.size), box_kept hk (heap_alloc_new w1 _) (by simp [dkind])⟩
  have hwx : W.heap.size ≤ w1.heap.size := HZ.out.2.2.1.size
  clear HFRESH
  go_wp2_with (go_at_call 9; refine (HROOM.out).mono ?_; rintro e w2 ⟨T, D', fa', fc', la', lc', rfl, hside', hB', hR, hb', r3⟩; have HQ := hide (And.intro hside' (And.intro hB' (And.intro hR (And.intro hb' r3)))); obtain ⟨d0, d1, d2, d3, d4, d5⟩ := cells6s r3; obtain ⟨f0, f1, f2, f3, f4, f5⟩ := frozen6s r3; clear hside' hB' hR hb' r3)
  have H0 : Hid (∃ (S' : WD) (E : RD), Both Try.prog W.heap.size 1 d (put5 (w2.setCell ⟨w1.heap.size, 0, none⟩ (.pointer (some ⟨d, 0, none⟩))) w1.heap.size (.slice fa' D'.rs.length fc') (.int .i64 D'.a.room) (.slice la' (flen D'.a.fall) lc') (.int .i64 D'.a.changes) (.bool D'.a.down)) S' E ∧ (put5 (w2.setCell ⟨w1.heap.size, 0, none⟩ (.pointer (some ⟨d, 0, none⟩))) w1.heap.size (.slice fa' D'.rs.length fc') (.int .i64 D'.a.room) (.slice la' (flen D'.a.fall) lc') (.int .i64 D'.a.changes) (.bool D'.a.down)).heap[w1.heap.size]? = some (.cells (sideCs d E) 29 (0, 0)) ∧ Below W.heap.size W (put5 (w2.setCell ⟨w1.heap.size, 0, none⟩ (.pointer (some ⟨d, 0, none⟩))) w1.heap.size (.slice fa' D'.rs.length fc') (.int .i64 D'.a.room) (.slice la' (flen D'.a.fall) lc') (.int .i64 D'.a.changes) (.bool D'.a.down)) ∧ Ample m E.a) := by
    have t2 := tch_set6 w2 w1.heap.size (.pointer (some ⟨d, 0, none⟩)) (.slice fa' D'.rs.length fc') (.int .i64 D'.a.room) (.slice la' (flen D'.a.fall) lc') (.int .i64 D'.a.changes) (.bool D'.a.down)
    have hbw2 := HQ.out.2.2.2.1
    exact ⟨T, D', HQ.out.2.1.turned HQ.out.2.2.2.2 t2, by rw [HQ.out.1]; exact set6 HQ.out.2.2.2.2 _ _ _ _ _ _, ⟨t2.os.trans hbw2.os, t2.tape.trans hbw2.tape, t2.output.trans hbw2.output, Nat.le_trans hbw2.size t2.size, fun k hk => (t2.block k (Nat.lt_of_lt_of_le hk hbw2.size) (by omega)).trans (hbw2.block k hk)⟩, HQ.out.2.2.1⟩
  clear d0 d1 d2 d3 d4 d5 f0 f1 f2 f3 f4 f5 HROOM
  go_loopw [7] (fun vi wr => ∃ i : Nat, i ≤ n ∧ i ≤ 40 ∧ vi = .int .i64 i ∧ Hid (∃ (S' : WD) (E : RD), Both Try.prog W.heap.size (i + 1) d wr S' E ∧ wr.heap[w1.heap.size]? = some (.cells (sideCs d E) 29 (0, 0)) ∧ Below W.heap.size W wr ∧ Ample m E.a)) (fun vi _ => 40 - (intOf vi).toNat)
  case atStart => exact ⟨0, Nat.zero_le _, Nat.zero_le _, rfl, H0.out⟩
  case round =>
    obtain ⟨i, hi, hi60, rfl, HB⟩ := hrel
    clear H0 HQ
    by_cases hlt : i < n
    · by_cases hlt60 : i < 40
      · obtain ⟨b, off, hva, hbw, hcap, hcells⟩ := HA.out i hlt
        subst hva
        obtain ⟨S, D, hB, hrow, hb, hR⟩ := HB.out
        obtain ⟨fa, fc, la, lc, hside⟩ := side_lit hB
        rw [hside] at hrow
        have q : ∀ c, c < 8 → wr.cell? ⟨b, off + i * 8 + c, none⟩ = some ((gs i).cell c) := fun c hc => (hb.cell (p := ⟨b, off + i * 8 + c, none⟩) hbw).trans (hcells c hc)
        have q0 : wr.cell? ⟨b, off + i * 8, none⟩ = some (.int .i64 (gs i).kind) := q 0 (by decide)
        by_cases hbad : (gs i).kind < 0 ∨ 4 < (gs i).kind
        · have HNX : Hid (∃ (S' : WD) (E : RD), Both Try.prog W.heap.size (i + 1 + 1) d wr S' E ∧ wr.heap[w1.heap.size]? = some (.cells (sideCs d E) 29 (0, 0)) ∧ Below W.heap.size W wr ∧ Ample m E.a) := ⟨S, D, hB.more (by omega), by rw [hside]; exact hrow, hb, hR⟩
          have hbl : b < wr.heap.size := Nat.lt_of_lt_of_le hbw hb.size
          clear q hcells hB hrow hb hside HB hR
          rcases hbad with hbad | hbad
          · have hd4 : decide (4 < (gs i).kind) = false := decide_eq_false (by omega)
            have hd0 : decide ((gs i).kind < 0) = true := decide_eq_true hbad
            clear hbad
            go_wp2_with fail
            exact ⟨⟨i + 1, by omega, by omega, by go_num, HNX.out⟩, by simp [intOf]; omega⟩
          · have hd4 : decide (4 < (gs i).kind) = true := decide_eq_true hbad
            clear hbad
            go_wp2_with fail
            exact ⟨⟨i + 1, by omega, by omega, by go_num, HNX.out⟩, by simp [intOf]; omega⟩
        have h0 : 0 ≤ (gs i).kind := by omega
        have h4 : (gs i).kind ≤ 4 := by omega
        have hd4 : decide (4 < (gs i).kind) = false := decide_eq_false (by omega)
        have hd0 : decide ((gs i).kind < 0) = false := decide_eq_false (by omega)
        have HACT : Hid (∀ U, Below wr.heap.size wr U → Calls Try.prog 9 #[.agg #[.pointer (some ⟨d, 0, none⟩), .slice fa D.rs.length fc, .int .i64 D.a.room, .slice la (flen D.a.fall) lc, .int .i64 D.a.changes, .bool D.a.down], .agg #[.int .i64 (gs i).kind, .string (gs i).name, .string (gs i).dst, .string (gs i).s, .int .i64 (gs i).n, .int .i64 (gs i).f.on, .int .i64 (gs i).f.keep, .int .i64 (gs i).f.torn]] U fun e w' => ∃ T D' fa' fc' la' lc', e = .returned (.tuple #[.agg #[.pointer (some ⟨d, 0, none⟩), .slice fa' D'.rs.length fc', .int .i64 D'.a.room, .slice la' (flen D'.a.fall) lc', .int .i64 D'.a.changes, .bool D'.a.down], .bool true]) ∧ sideCs d D' = #[.pointer (some ⟨d, 0, none⟩), .slice fa' D'.rs.length fc', .int .i64 D'.a.room, .slice la' (flen D'.a.fall) lc', .int .i64 D'.a.changes, .bool D'.a.down] ∧ Both Try.prog W.heap.size (i + 1 + 1) d w' T D' ∧ Dsk W.heap.size wr w' ∧ Dsk W.heap.size U w' ∧ Ample m D'.a) := fun U hU => by
          have := act_any W.heap.size (i + 1) d S D (gs i) U (hB.below hU) (HFIT.out i hlt) (by omega)
          unfold sideV Ac.v Ac.cs at this
          rw [hside] at this
          refine this.mono ?_
          rintro e w' ⟨T, D', he, hB', hD', hk⟩
          obtain ⟨fa', fc', la', lc', h1⟩ := side_lit hB'
          exact ⟨T, D', fa', fc', la', lc', by rw [he]; unfold sideV; rw [h1], h1, hB', (Dsk.of_below hU).trans hk, hk, by rw [hD']; exact hR.act hB.rises (gs i) h0 h4⟩
        have q1 : wr.cell? ⟨b, off + i * 8 + 1, none⟩ = some (.string (gs i).name) := q 1 (by decide)
        have q2 : wr.cell? ⟨b, off + i * 8 + 2, none⟩ = some (.string (gs i).dst) := q 2 (by decide)
        have q3 : wr.cell? ⟨b, off + i * 8 + 3, none⟩ = some (.string (gs i).s) := q 3 (by decide)
        have q4 : wr.cell? ⟨b, off + i * 8 + 4, none⟩ = some (.int .i64 (gs i).n) := q 4 (by decide)
        have q5 : wr.cell? ⟨b, off + i * 8 + 5, none⟩ = some (.int .i64 (gs i).f.on) := q 5 (by decide)
        have q6 : wr.cell? ⟨b, off + i * 8 + 6, none⟩ = some (.int .i64 (gs i).f.keep) := q 6 (by decide)
        have q7 : wr.cell? ⟨b, off + i * 8 + 7, none⟩ = some (.int .i64 (gs i).f.torn) := q 7 (by decide)
        obtain ⟨c0, c1, c2, c3, c4, c5⟩ := cells6s hrow
        have HROW := hide (And.intro hrow hb)
        have hxl : w1.heap.size < wr.heap.size := block_lt hrow
        have hbl : b < wr.heap.size := Nat.lt_of_lt_of_le hbw hb.size
        clear q hcells hB hrow hb hside HB hR h0 h4 hbad
        go_upto_region 8 with fail
        go_cut [8, 9] from 20 to 67 (fun v5 v6 wx => ∃ Y : Nat, v5 = .pointer (some ⟨Y, 0, none⟩) ∧ v6 = .bool true ∧ Hid (∃ (T : WD) (E : RD), Both Try.prog W.heap.size (i + 1 + 1) d wx T E ∧ wx.heap[Y]? = some (.cells (sideCs d E) 29 (0, 0)) ∧ wx.heap[w1.heap.size]? = some (.cells #[.pointer (some ⟨d, 0, none⟩), .slice fa D.rs.length fc, .int .i64 D.a.room, .slice la (flen D.a.fall) lc, .int .i64 D.a.changes, .bool D.a.down] 29 (0, 0)) ∧ Below W.heap.size W wx ∧ Y ≠ w1.heap.size ∧ Ample m E.a))
        case first =>
          go_region_with (go_at_call 9; refine (HACT.out _ (by first | exact ⟨rfl, rfl, rfl, Nat.le_refl _, fun _ _ => rfl⟩ | exact (Below.refl _ _).alloc (Nat.le_refl _) _ | exact ((Below.refl _ _).alloc (Nat.le_refl _) _).drew)).mono ?_; rintro e w2 ⟨T, D', fa', fc', la', lc', rfl, hside', hB', hk', hkU, hR'⟩; have HQ := hide (And.intro hside' (And.intro hB' (And.intro hk' (And.intro hkU hR')))); first | (have x5 := box_kept hkU (heap_alloc_new wr (.cells #[Value.pointer none, Value.slice none 0 0, Value.int IntKind.i64 0, Value.slice none 0 0, Value.int IntKind.i64 0, Value.bool false] 29)) (by simp [dkind]); obtain ⟨d0, d1, d2, d3, d4, d5⟩ := cells6s x5; obtain ⟨f0, f1, f2, f3, f4, f5⟩ := frozen6s x5; clear x5) | skip; clear hside' hB' hk' hkU hR')
          all_goals go_wp2
          all_goals go_meet
          all_goals
            have hbw2 : Below W.heap.size W w2 := HROW.out.2.trans (HQ.out.2.2.1.below HROW.out.2.size)
            have r3 := box_kept HQ.out.2.2.1 HROW.out.1 (by simp [dkind])
            first
              | (refine ⟨w2.heap.size, rfl, rfl, ?_⟩
                 have kb : Below w2.heap.size w2 (w2.alloc (.cells #[.pointer (some ⟨d, 0, none⟩), .slice fa' D'.rs.length fc', .int .i64 D'.a.room, .slice la' (flen D'.a.fall) lc', .int .i64 D'.a.changes, .bool D'.a.down] 29)) := (Below.refl _ _).alloc (Nat.le_refl _) _
                 exact ⟨T, D', HQ.out.2.1.below kb, by rw [HQ.out.1]; exact heap_alloc_new w2 _, row_kept r3 kb, hbw2.trans (kb.mono hbw2.size), by have := block_lt r3; omega, HQ.out.2.2.2.2⟩)
              | (refine ⟨wr.heap.size, rfl, rfl, ?_⟩
                 have x5 := box_kept HQ.out.2.2.2.1 (heap_alloc_new wr (.cells #[Value.pointer none, Value.slice none 0 0, Value.int IntKind.i64 0, Value.slice none 0 0, Value.int IntKind.i64 0, Value.bool false] 29)) (by simp [dkind])
                 have t2 := tch_set6 w2 wr.heap.size (.pointer (some ⟨d, 0, none⟩)) (.slice fa' D'.rs.length fc') (.int .i64 D'.a.room) (.slice la' (flen D'.a.fall) lc') (.int .i64 D'.a.changes) (.bool D'.a.down)
                 have hrs := HROW.out.2.size
                 exact ⟨T, D', HQ.out.2.1.turned x5 t2, by rw [HQ.out.1]; exact set6 x5 _ _ _ _ _ _, tch_kept r3 t2 (by omega), ⟨t2.os.trans hbw2.os, t2.tape.trans hbw2.tape, t2.output.trans hbw2.output, Nat.le_trans hbw2.size t2.size, fun k hk => (t2.block k (Nat.lt_of_lt_of_le hk hbw2.size) (by omega)).trans (hbw2.block k hk)⟩, by omega, HQ.out.2.2.2.2⟩)
        case rest =>
          obtain ⟨Y, rfl, rfl, HC⟩ := hcut
          obtain ⟨T, E, hB, rY, rX, hb, hne, hR⟩ := HC.out
          obtain ⟨fe, ge, le, he, hside⟩ := side_lit hB
          rw [hside] at rY
          have tX := tch_set6 wc w1.heap.size (.pointer (some ⟨d, 0, none⟩)) (.slice fe E.rs.length ge) (.int .i64 E.a.room) (.slice le (flen E.a.fall) he) (.int .i64 E.a.changes) (.bool E.a.down)
          have hB2 := hB.turned rX tX
          have hrow2 := set6 rX (.pointer (some ⟨d, 0, none⟩)) (.slice fe E.rs.length ge) (.int .i64 E.a.room) (.slice le (flen E.a.fall) he) (.int .i64 E.a.changes) (.bool E.a.down)
          have hb2 : Below W.heap.size W (put5 (wc.setCell ⟨w1.heap.size, 0, none⟩ (.pointer (some ⟨d, 0, none⟩))) w1.heap.size (.slice fe E.rs.length ge) (.int .i64 E.a.room) (.slice le (flen E.a.fall) he) (.int .i64 E.a.changes) (.bool E.a.down)) := ⟨tX.os.trans hb.os, tX.tape.trans hb.tape, tX.output.trans hb.output, Nat.le_trans hb.size tX.size, fun k hk => (tX.block k (Nat.lt_of_lt_of_le hk hb.size) (by omega)).trans (hb.block k hk)⟩
          have HAL : Hid (Calls Try.prog 10 #[.agg #[.pointer (some ⟨d, 0, none⟩), .slice fe E.rs.length ge, .int .i64 E.a.room, .slice le (flen E.a.fall) he, .int .i64 E.a.changes, .bool E.a.down]] (put5 (wc.setCell ⟨w1.heap.size, 0, none⟩ (.pointer (some ⟨d, 0, none⟩))) w1.heap.size (.slice fe E.rs.length ge) (.int .i64 E.a.room) (.slice le (flen E.a.fall) he) (.int .i64 E.a.changes) (.bool E.a.down)) fun e w' => e = .returned (.bool true) ∧ Below (put5 (wc.setCell ⟨w1.heap.size, 0, none⟩ (.pointer (some ⟨d, 0, none⟩))) w1.heap.size (.slice fe E.rs.length ge) (.int .i64 E.a.room) (.slice le (flen E.a.fall) he) (.int .i64 E.a.changes) (.bool E.a.down)).heap.size (put5 (wc.setCell ⟨w1.heap.size, 0, none⟩ (.pointer (some ⟨d, 0, none⟩))) w1.heap.size (.slice fe E.rs.length ge) (.int .i64 E.a.room) (.slice le (flen E.a.fall) he) (.int .i64 E.a.changes) (.bool E.a.down)) w') := by
            have := alike_any W.heap.size (i + 1 + 1) d T E _ hB2
            unfold sideV at this
            rw [hside] at this
            exact this
          have HNEXT : Hid (∀ w3, Below (put5 (wc.setCell ⟨w1.heap.size, 0, none⟩ (.pointer (some ⟨d, 0, none⟩))) w1.heap.size (.slice fe E.rs.length ge) (.int .i64 E.a.room) (.slice le (flen E.a.fall) he) (.int .i64 E.a.changes) (.bool E.a.down)).heap.size (put5 (wc.setCell ⟨w1.heap.size, 0, none⟩ (.pointer (some ⟨d, 0, none⟩))) w1.heap.size (.slice fe E.rs.length ge) (.int .i64 E.a.room) (.slice le (flen E.a.fall) he) (.int .i64 E.a.changes) (.bool E.a.down)) w3 → (∃ (S' : WD) (E : RD), Both Try.prog W.heap.size (i + 1 + 1) d w3 S' E ∧ w3.heap[w1.heap.size]? = some (.cells (sideCs d E) 29 (0, 0)) ∧ Below W.heap.size W w3 ∧ Ample m E.a) ∧ w3.heap[w1.heap.size]? = some (.cells #[.pointer (some ⟨d, 0, none⟩), .slice fe E.rs.length ge, .int .i64 E.a.room, .slice le (flen E.a.fall) he, .int .i64 E.a.changes, .bool E.a.down] 29 (0, 0))) := fun w3 k3 => ⟨⟨T, E, hB2.below k3, by rw [hside]; exact row_kept hrow2 k3, hb2.trans (k3.mono hb2.size), hR⟩, row_kept hrow2 k3⟩
          have HUSED : Hid (∀ w3, Below (put5 (wc.setCell ⟨w1.heap.size, 0, none⟩ (.pointer (some ⟨d, 0, none⟩))) w1.heap.size (.slice fe E.rs.length ge) (.int .i64 E.a.room) (.slice le (flen E.a.fall) he) (.int .i64 E.a.changes) (.bool E.a.down)).heap.size (put5 (wc.setCell ⟨w1.heap.size, 0, none⟩ (.pointer (some ⟨d, 0, none⟩))) w1.heap.size (.slice fe E.rs.length ge) (.int .i64 E.a.room) (.slice le (flen E.a.fall) he) (.int .i64 E.a.changes) (.bool E.a.down)) w3 → Calls Try.prog 22 #[.pointer (some ⟨d, 0, none⟩)] w3 fun e w' => e = .returned (.int .i64 (total T.a.files)) ∧ Below w3.heap.size w3 w') := fun w3 k3 => used_any W.heap.size (i + 1 + 1) d T w3 (hB2.below k3).disk
          have hfit : total T.a.files ≤ m := by rw [hB.same]; exact hR.fits
          generalize total T.a.files = U at HUSED hfit
          obtain ⟨y0, y1, y2, y3, y4, y5⟩ := cells6s rY
          obtain ⟨z0, z1, z2, z3, z4, z5⟩ := cells6s rX
          obtain ⟨f0, f1, f2, f3, f4, f5⟩ := frozen6s rX
          clear hB rY rX hb hB2 hrow2 hb2 tX hside HC hR c0 c1 c2 c3 c4 c5 q0 q1 q2 q3 q4 q5 q6 q7 HACT HROW
          go_wp2_with (first
            | (go_at_call 10; refine (HAL.out).mono ?_; rintro e w3 ⟨rfl, k3⟩; obtain ⟨x0, -⟩ := cells6s (HNEXT.out w3 k3).2; have K3 := hide k3; clear k3)
            | (go_at_call 22; refine (HUSED.out w3 K3.out).mono ?_; rintro e w4 ⟨rfl, k4⟩; have K4 := hide k4; clear k4))
          exact ⟨⟨i + 1, by omega, by omega, by go_num, (HNEXT.out w4 (K3.out.trans (K4.out.mono K3.out.size))).1⟩, by simp [intOf]; omega⟩
      · obtain ⟨S, D, hB, hrow, hb, hR⟩ := HB.out
        have HBE := hide hb
        have hd6 : decide ((i : Int) < 40) = false := decide_eq_false (by omega)
        clear hB hrow hb HB hR
        go_wp2_with (go_at_call 11; refine (HAWAKE.out _).mono ?_; rintro e w3 ⟨rfl, k3⟩)
        go_ret
        exact ⟨rfl, HBE.out.trans (k3.mono HBE.out.size)⟩
    · obtain ⟨S, D, hB, hrow, hb, hR⟩ := HB.out
      have HBE := hide hb
      have hin : i = n := by omega
      subst hin
      clear hB hrow hb HB hR
      go_wp2_with (go_at_call 11; refine (HAWAKE.out _).mono ?_; rintro e w3 ⟨rfl, k3⟩)
      go_ret
      exact ⟨rfl, HBE.out.trans (k3.mono HBE.out.size)⟩
end Go.Proofs.Ytnjkahoaogeecaa
