/- The walk of DiskActs. -/
import Derived.Test.YtnjkahoaogeecaaDiskAct2
import Derived.Test.YtnjkahoaogeecaaDiskAlike
import Derived.Test.YtnjkahoaogeecaaWireOpen
import Derived.Deep.RegionWith
namespace Go.Dk
open Go.RowKit
def Ac.cell (a : Ac) (c : Nat) : Value := a.cs.getD c undef
end Go.Dk
namespace Go.Proofs.Ytnjkahoaogeecaa
open Go.RowKit Go.Dk
theorem act_any (base K d : Nat) (S : WD) (D : RD) (a : Ac) (w : World) (h : Both Try.prog base K d w S D) (hf : a.Fits) (hK : K + 1 ≤ 100000) : Calls Try.prog 9 #[sideV d D, a.v] w (Acted Try.prog base K d w (D.a.actOf a)) := by
  by_cases h6 : a.kind = 6
  · exact act_6 base K d S D a w h hK h6
  by_cases h7 : a.kind = 7
  · exact act_7 base K d S D a w h hK h7
  by_cases h8 : a.kind = 8
  · exact act_8 base K d S D a w h hf hK h8
  by_cases h9 : a.kind = 9
  · exact act_9 base K d S D a w h hf hK h9
  exact act_files base K d S D a w h hf hK (beq_eq_false_iff_ne.2 h6) (beq_eq_false_iff_ne.2 h7) (beq_eq_false_iff_ne.2 h8) (beq_eq_false_iff_ne.2 h9)
theorem side_lit {base K d : Nat} {w : World} {S : WD} {D : RD} (h : Both Try.prog base K d w S D) : ∃ fa fc la lc, sideCs d D = #[.pointer (some ⟨d, 0, none⟩), .slice fa D.rs.length fc, .int .i64 D.a.room, .slice la (flen D.a.fall) lc, .int .i64 D.a.changes, .bool D.a.down] := by
  obtain ⟨la, lc, hlv⟩ := Sees.form h.ref.falls
  obtain ⟨fa, fc, hfv⟩ := Sees.form h.ref.files
  exact ⟨fa, fc, la, lc, by unfold sideCs; rw [hfv, hlv]⟩
set_option maxRecDepth 100000 in
set_option maxHeartbeats 4000000 in
theorem diskActs_any (v : Value) (n : Nat) (gs : Nat → Ac) (W : World) (hs : Wire.SRow W 8 v n (fun j => (gs j).cell)) (hf : ∀ j, j < n → (gs j).Fits) (hn : n ≤ maxLen) :
    Calls Try.prog 3 #[v] W fun e w' => e = .returned (.bool true) ∧ Below W.heap.size W w' := by
  obtain ⟨va, vc, rfl⟩ := hs.form
  unfold maxLen at hn
  have HA : Hid (∀ i, i < n → ∃ b off, va = some ⟨b, off, none⟩ ∧ b < W.heap.size ∧ n ≤ vc ∧ ∀ c, c < 8 → W.cell? ⟨b, off + i * 8 + c, none⟩ = some ((gs i).cell c)) := fun i hi => by
    rcases hs with ⟨_, h0⟩ | ⟨b, off, cap, h1, h2, h3, h4⟩
    · omega
    · cases h1
      exact ⟨b, off, rfl, h2, h3, fun c hc => h4 i c hi hc⟩
  have HFIT := hide hf
  have HAWAKE : Hid (∀ w1, Calls Try.prog 11 #[] w1 fun e w' => e = .returned (.bool true) ∧ Below w1.heap.size w1 w') := awake_any
  have HFRESH : Hid (Calls Try.prog 8 #[] W fun e w' => ∃ d S D fa fc la lc, e = .returned (.agg #[.pointer (some ⟨d, 0, none⟩), .slice fa D.rs.length fc, .int .i64 D.a.room, .slice la (flen D.a.fall) lc, .int .i64 D.a.changes, .bool D.a.down]) ∧ sideCs d D = #[.pointer (some ⟨d, 0, none⟩), .slice fa D.rs.length fc, .int .i64 D.a.room, .slice la (flen D.a.fall) lc, .int .i64 D.a.changes, .bool D.a.down] ∧ Both Try.prog W.heap.size 0 d w' S D ∧ Below W.heap.size W w') := by
    refine (fresh_any W).mono ?_
    rintro e w' ⟨d, S, D, he, hB, _, hb⟩
    obtain ⟨fa, fc, la, lc, h1⟩ := side_lit hB
    exact ⟨d, S, D, fa, fc, la, lc, by rw [he]; unfold sideV; rw [h1], h1, hB, hb⟩
  clear hs hf
  go_enter Try.func3, Try.ntmps3
  go_wp2_with (go_at_call 8; refine (HFRESH.out).mono ?_; rintro e w1 ⟨d, S, D, fa, fc, la, lc, rfl, hside, hB, k1⟩)
  have H0 : Hid (∃ (S' : WD) (E : RD), Both Try.prog W.heap.size 0 d (w1.alloc (.cells #[.pointer (some ⟨d, 0, none⟩), .slice fa D.rs.length fc, .int .i64 D.a.room, .slice la (flen D.a.fall) lc, .int .i64 D.a.changes, .bool D.a.down] 29)) S' E ∧ (w1.alloc (.cells #[.pointer (some ⟨d, 0, none⟩), .slice fa D.rs.length fc, .int .i64 D.a.room, .slice la (flen D.a.fall) lc, .int .i64 D.a.changes, .bool D.a.down] 29)).heap[w1.heap.size]? = some (.cells (sideCs d E) 29 (0, 0)) ∧ Below W.heap.size W (w1.alloc (.cells #[.pointer (some ⟨d, 0, none⟩), .slice fa D.rs.length fc, .int .i64 D.a.room, .slice la (flen D.a.fall) lc, .int .i64 D.a.changes, .bool D.a.down] 29))) :=
    ⟨S, D, hB.below ((Below.refl _ _).alloc (Nat.le_refl _) _), by rw [hside]; exact heap_alloc_new _ _, k1.alloc k1.size _⟩
  have hwx : W.heap.size ≤ w1.heap.size := k1.size
  clear hB hside k1
  go_loopw [4] (fun vi wr => ∃ i : Nat, i ≤ n ∧ i ≤ 60 ∧ vi = .int .i64 i ∧ Hid (∃ (S' : WD) (E : RD), Both Try.prog W.heap.size i d wr S' E ∧ wr.heap[w1.heap.size]? = some (.cells (sideCs d E) 29 (0, 0)) ∧ Below W.heap.size W wr)) (fun vi _ => 60 - (intOf vi).toNat)
  case atStart => exact ⟨0, Nat.zero_le _, Nat.zero_le _, rfl, H0.out⟩
  case round =>
    obtain ⟨i, hi, hi60, rfl, HB⟩ := hrel
    clear H0
    by_cases hlt : i < n
    · by_cases hlt60 : i < 60
      · obtain ⟨b, off, hva, hbw, hcap, hcells⟩ := HA.out i hlt
        subst hva
        obtain ⟨S, D, hB, hrow, hb⟩ := HB.out
        obtain ⟨fa, fc, la, lc, hside⟩ := side_lit hB
        rw [hside] at hrow
        have HACT : Hid (∀ U, Below wr.heap.size wr U → Calls Try.prog 9 #[.agg #[.pointer (some ⟨d, 0, none⟩), .slice fa D.rs.length fc, .int .i64 D.a.room, .slice la (flen D.a.fall) lc, .int .i64 D.a.changes, .bool D.a.down], .agg #[.int .i64 (gs i).kind, .string (gs i).name, .string (gs i).dst, .string (gs i).s, .int .i64 (gs i).n, .int .i64 (gs i).f.on, .int .i64 (gs i).f.keep, .int .i64 (gs i).f.torn]] U fun e w' => ∃ T D' fa' fc' la' lc', e = .returned (.tuple #[.agg #[.pointer (some ⟨d, 0, none⟩), .slice fa' D'.rs.length fc', .int .i64 D'.a.room, .slice la' (flen D'.a.fall) lc', .int .i64 D'.a.changes, .bool D'.a.down], .bool true]) ∧ sideCs d D' = #[.pointer (some ⟨d, 0, none⟩), .slice fa' D'.rs.length fc', .int .i64 D'.a.room, .slice la' (flen D'.a.fall) lc', .int .i64 D'.a.changes, .bool D'.a.down] ∧ Both Try.prog W.heap.size (i + 1) d w' T D' ∧ Dsk W.heap.size wr w' ∧ Dsk W.heap.size U w') := fun U hU => by
          have := act_any W.heap.size i d S D (gs i) U (hB.below hU) (HFIT.out i hlt) (by omega)
          unfold sideV Ac.v Ac.cs at this
          rw [hside] at this
          refine this.mono ?_
          rintro e w' ⟨T, D', he, hB', _, hk⟩
          obtain ⟨fa', fc', la', lc', h1⟩ := side_lit hB'
          exact ⟨T, D', fa', fc', la', lc', by rw [he]; unfold sideV; rw [h1], h1, hB', (Dsk.of_below hU).trans hk, hk⟩
        have q : ∀ c, c < 8 → wr.cell? ⟨b, off + i * 8 + c, none⟩ = some ((gs i).cell c) := fun c hc => (hb.cell (p := ⟨b, off + i * 8 + c, none⟩) hbw).trans (hcells c hc)
        have q0 : wr.cell? ⟨b, off + i * 8, none⟩ = some (.int .i64 (gs i).kind) := q 0 (by decide)
        have q1 : wr.cell? ⟨b, off + i * 8 + 1, none⟩ = some (.string (gs i).name) := q 1 (by decide)
        have q2 : wr.cell? ⟨b, off + i * 8 + 2, none⟩ = some (.string (gs i).dst) := q 2 (by decide)
        have q3 : wr.cell? ⟨b, off + i * 8 + 3, none⟩ = some (.string (gs i).s) := q 3 (by decide)
        have q4 : wr.cell? ⟨b, off + i * 8 + 4, none⟩ = some (.int .i64 (gs i).n) := q 4 (by decide)
        have q5 : wr.cell? ⟨b, off + i * 8 + 5, none⟩ = some (.int .i64 (gs i).f.on) := q 5 (by decide)
        have q6 : wr.cell? ⟨b, off + i * 8 + 6, none⟩ = some (.int .i64 (gs i).f.keep) := q 6 (by decide)
        have q7 : wr.cell? ⟨b, off + i * 8 + 7, none⟩ = some (.int .i64 (gs i).f.torn) := q 7 (by decide)
        obtain ⟨c0, c1, c2, c3, c4, c5⟩ := cells6s hrow
        have HROW := hide (And.intro hrow hb)
        have hxl : w1.heap.size < wr.heap.size := block_lt hrow
        have hbl : b < wr.heap.size := Nat.lt_of_lt_of_le hbw hb.size
        clear q hcells hB hrow hb hside HB
        go_upto_region 5 with fail
        go_cut [5, 6] from 8 to 34 (fun v5 v6 wx => ∃ Y : Nat, v5 = .pointer (some ⟨Y, 0, none⟩) ∧ v6 = .bool true ∧ Hid (∃ (T : WD) (E : RD), Both Try.prog W.heap.size (i + 1) d wx T E ∧ wx.heap[Y]? = some (.cells (sideCs d E) 29 (0, 0)) ∧ wx.heap[w1.heap.size]? = some (.cells #[.pointer (some ⟨d, 0, none⟩), .slice fa D.rs.length fc, .int .i64 D.a.room, .slice la (flen D.a.fall) lc, .int .i64 D.a.changes, .bool D.a.down] 29 (0, 0)) ∧ Below W.heap.size W wx ∧ Y ≠ w1.heap.size))
        case first =>
          go_region_with (go_at_call 9; refine (HACT.out _ (by first | exact ⟨rfl, rfl, rfl, Nat.le_refl _, fun _ _ => rfl⟩ | exact (Below.refl _ _).alloc (Nat.le_refl _) _ | exact ((Below.refl _ _).alloc (Nat.le_refl _) _).drew)).mono ?_; rintro e w2 ⟨T, D', fa', fc', la', lc', rfl, hside', hB', hk', hkU⟩; have HQ := hide (And.intro hside' (And.intro hB' (And.intro hk' hkU))); first | (have x5 := box_kept hkU (heap_alloc_new wr (.cells #[Value.pointer none, Value.slice none 0 0, Value.int IntKind.i64 0, Value.slice none 0 0, Value.int IntKind.i64 0, Value.bool false] 29)) (by simp [dkind]); obtain ⟨d0, d1, d2, d3, d4, d5⟩ := cells6s x5; obtain ⟨f0, f1, f2, f3, f4, f5⟩ := frozen6s x5; clear x5) | skip; clear hside' hB' hk' hkU)
          all_goals go_wp2
          all_goals go_meet
          all_goals
            have hbw2 : Below W.heap.size W w2 := HROW.out.2.trans (HQ.out.2.2.1.below HROW.out.2.size)
            have r3 := box_kept HQ.out.2.2.1 HROW.out.1 (by simp [dkind])
            first
              | (refine ⟨w2.heap.size, rfl, rfl, ?_⟩
                 have kb : Below w2.heap.size w2 (w2.alloc (.cells #[.pointer (some ⟨d, 0, none⟩), .slice fa' D'.rs.length fc', .int .i64 D'.a.room, .slice la' (flen D'.a.fall) lc', .int .i64 D'.a.changes, .bool D'.a.down] 29)) := (Below.refl _ _).alloc (Nat.le_refl _) _
                 exact ⟨T, D', HQ.out.2.1.below kb, by rw [HQ.out.1]; exact heap_alloc_new w2 _, row_kept r3 kb, hbw2.trans (kb.mono hbw2.size), by have := block_lt r3; omega⟩)
              | (refine ⟨wr.heap.size, rfl, rfl, ?_⟩
                 have x5 := box_kept HQ.out.2.2.2 (heap_alloc_new wr (.cells #[Value.pointer none, Value.slice none 0 0, Value.int IntKind.i64 0, Value.slice none 0 0, Value.int IntKind.i64 0, Value.bool false] 29)) (by simp [dkind])
                 have t2 := tch_set6 w2 wr.heap.size (.pointer (some ⟨d, 0, none⟩)) (.slice fa' D'.rs.length fc') (.int .i64 D'.a.room) (.slice la' (flen D'.a.fall) lc') (.int .i64 D'.a.changes) (.bool D'.a.down)
                 have hrs := HROW.out.2.size
                 exact ⟨T, D', HQ.out.2.1.turned x5 t2, by rw [HQ.out.1]; exact set6 x5 _ _ _ _ _ _, tch_kept r3 t2 (by omega), ⟨t2.os.trans hbw2.os, t2.tape.trans hbw2.tape, t2.output.trans hbw2.output, Nat.le_trans hbw2.size t2.size, fun k hk => (t2.block k (Nat.lt_of_lt_of_le hk hbw2.size) (by omega)).trans (hbw2.block k hk)⟩, by omega⟩)
        case rest =>
          obtain ⟨Y, rfl, rfl, HC⟩ := hcut
          obtain ⟨T, E, hB, rY, rX, hb, hne⟩ := HC.out
          obtain ⟨fe, ge, le, he, hside⟩ := side_lit hB
          rw [hside] at rY
          have tX := tch_set6 wc w1.heap.size (.pointer (some ⟨d, 0, none⟩)) (.slice fe E.rs.length ge) (.int .i64 E.a.room) (.slice le (flen E.a.fall) he) (.int .i64 E.a.changes) (.bool E.a.down)
          have hB2 := hB.turned rX tX
          have hrow2 := set6 rX (.pointer (some ⟨d, 0, none⟩)) (.slice fe E.rs.length ge) (.int .i64 E.a.room) (.slice le (flen E.a.fall) he) (.int .i64 E.a.changes) (.bool E.a.down)
          have hb2 : Below W.heap.size W (put5 (wc.setCell ⟨w1.heap.size, 0, none⟩ (.pointer (some ⟨d, 0, none⟩))) w1.heap.size (.slice fe E.rs.length ge) (.int .i64 E.a.room) (.slice le (flen E.a.fall) he) (.int .i64 E.a.changes) (.bool E.a.down)) := ⟨tX.os.trans hb.os, tX.tape.trans hb.tape, tX.output.trans hb.output, Nat.le_trans hb.size tX.size, fun k hk => (tX.block k (Nat.lt_of_lt_of_le hk hb.size) (by omega)).trans (hb.block k hk)⟩
          have HAL : Hid (Calls Try.prog 10 #[.agg #[.pointer (some ⟨d, 0, none⟩), .slice fe E.rs.length ge, .int .i64 E.a.room, .slice le (flen E.a.fall) he, .int .i64 E.a.changes, .bool E.a.down]] (put5 (wc.setCell ⟨w1.heap.size, 0, none⟩ (.pointer (some ⟨d, 0, none⟩))) w1.heap.size (.slice fe E.rs.length ge) (.int .i64 E.a.room) (.slice le (flen E.a.fall) he) (.int .i64 E.a.changes) (.bool E.a.down)) fun e w' => e = .returned (.bool true) ∧ Below (put5 (wc.setCell ⟨w1.heap.size, 0, none⟩ (.pointer (some ⟨d, 0, none⟩))) w1.heap.size (.slice fe E.rs.length ge) (.int .i64 E.a.room) (.slice le (flen E.a.fall) he) (.int .i64 E.a.changes) (.bool E.a.down)).heap.size (put5 (wc.setCell ⟨w1.heap.size, 0, none⟩ (.pointer (some ⟨d, 0, none⟩))) w1.heap.size (.slice fe E.rs.length ge) (.int .i64 E.a.room) (.slice le (flen E.a.fall) he) (.int .i64 E.a.changes) (.bool E.a.down)) w') := by
            have := alike_any W.heap.size (i + 1) d T E _ hB2
            unfold sideV at this
            rw [hside] at this
            exact this
          have HNEXT : Hid (∀ w3, Below (put5 (wc.setCell ⟨w1.heap.size, 0, none⟩ (.pointer (some ⟨d, 0, none⟩))) w1.heap.size (.slice fe E.rs.length ge) (.int .i64 E.a.room) (.slice le (flen E.a.fall) he) (.int .i64 E.a.changes) (.bool E.a.down)).heap.size (put5 (wc.setCell ⟨w1.heap.size, 0, none⟩ (.pointer (some ⟨d, 0, none⟩))) w1.heap.size (.slice fe E.rs.length ge) (.int .i64 E.a.room) (.slice le (flen E.a.fall) he) (.int .i64 E.a.changes) (.bool E.a.down)) w3 → ∃ (S' : WD) (E : RD), Both Try.prog W.heap.size (i + 1) d w3 S' E ∧ w3.heap[w1.heap.size]? = some (.cells (sideCs d E) 29 (0, 0)) ∧ Below W.heap.size W w3) := fun w3 k3 => ⟨T, E, hB2.below k3, by rw [hside]; exact row_kept hrow2 k3, hb2.trans (k3.mono hb2.size)⟩
          obtain ⟨y0, y1, y2, y3, y4, y5⟩ := cells6s rY
          obtain ⟨z0, z1, z2, z3, z4, z5⟩ := cells6s rX
          obtain ⟨f0, f1, f2, f3, f4, f5⟩ := frozen6s rX
          clear hB rY rX hb hB2 hrow2 hb2 tX hside HC c0 c1 c2 c3 c4 c5 q0 q1 q2 q3 q4 q5 q6 q7 HACT HROW
          go_wp2_with (go_at_call 10; refine (HAL.out).mono ?_; rintro e w3 ⟨rfl, k3⟩)
          exact ⟨⟨i + 1, by omega, by omega, by go_num, HNEXT.out w3 k3⟩, by simp [intOf]; omega⟩
      · obtain ⟨S, D, hB, hrow, hb⟩ := HB.out
        have HBE := hide hb
        have hd6 : decide ((i : Int) < 60) = false := decide_eq_false (by omega)
        clear hB hrow hb HB
        go_wp2_with (go_at_call 11; refine (HAWAKE.out _).mono ?_; rintro e w3 ⟨rfl, k3⟩)
        go_ret
        exact ⟨rfl, HBE.out.trans (k3.mono HBE.out.size)⟩
    · obtain ⟨S, D, hB, hrow, hb⟩ := HB.out
      have HBE := hide hb
      have hin : i = n := by omega
      subst hin
      clear hB hrow hb HB
      go_wp2_with (go_at_call 11; refine (HAWAKE.out _).mono ?_; rintro e w3 ⟨rfl, k3⟩)
      go_ret
      exact ⟨rfl, HBE.out.trans (k3.mono HBE.out.size)⟩
end Go.Proofs.Ytnjkahoaogeecaa
