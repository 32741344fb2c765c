/- The walk of DiskSettles. -/
import Derived.Test.YtnjkahoaogeecaaDiskActsWalk
import Derived.Test.YtnjkahoaogeecaaDiskStand
namespace Go.Dk
open Go.RowKit
theorem Stand.under {P : Program} {W : World} {f : Fall} {X d K : Nat} {w w' : World} {z : A} (h : Stand P W f X d K w z) (hb : Below w.heap.size w w') : Stand P W f X d K w' z := by
  obtain ⟨T, hT, hD⟩ := h.disk
  exact h.step (Dsk.of_below hb) ⟨T, hT, hD.below hb⟩
theorem cellsF {w : World} {g : Nat} {a b c : Value} {T : TypeId} (h : w.heap[g]? = some (.cells #[a, b, c] T (0, 0))) : w.cell? ⟨g, 1, none⟩ = some b ∧ w.cell? ⟨g, 2, none⟩ = some c := ⟨cell_of_row _ _ _ _ _ _ h, cell_of_row _ _ _ _ _ _ h⟩
end Go.Dk
namespace Go.Proofs.Ytnjkahoaogeecaa
open Go.RowKit Go.Dk
set_option maxRecDepth 100000 in
set_option maxHeartbeats 4000000 in
theorem diskSettles_any (v : Value) (n : Nat) (gs : Nat → Ac) (how : Int) (f : Fall) (W : World) (hs : Wire.SRow W 8 v n (fun j => (gs j).cell)) (hf : ∀ j, j < n → (gs j).Fits) (hn : n ≤ maxLen) :
    Calls Try.prog 4 #[v, .int .i64 how, .agg #[.int .i64 f.on, .int .i64 f.keep, .int .i64 f.torn]] W fun e w' => e = .returned (.bool true) ∧ Below W.heap.size W w' := by
  obtain ⟨va, vc, rfl⟩ := hs.form
  unfold maxLen at hn
  have HA : Hid (∀ i, i < n → ∃ b off, va = some ⟨b, off, none⟩ ∧ b < W.heap.size ∧ n ≤ vc ∧ ∀ c, c < 8 → W.cell? ⟨b, off + i * 8 + c, none⟩ = some ((gs i).cell c)) := fun i hi => by
    rcases hs with ⟨_, h0⟩ | ⟨b, off, cap, h1, h2, h3, h4⟩
    · omega
    · cases h1
      exact ⟨b, off, rfl, h2, h3, fun c hc => h4 i c hi hc⟩
  have HFIT := hide hf
  have HAWAKE : Hid (∀ w1, Calls Try.prog 11 #[] w1 fun e w' => e = .returned (.bool true) ∧ Below w1.heap.size w1 w') := awake_any
  have kW : Below W.heap.size W (W.alloc (.cells #[.int .i64 f.on, .int .i64 f.keep, .int .i64 f.torn] 34)) := (Below.refl _ _).alloc (Nat.le_refl _) _
  have HFRESH : Hid (Calls Try.prog 8 #[] (W.alloc (.cells #[.int .i64 f.on, .int .i64 f.keep, .int .i64 f.torn] 34)) fun e w' => ∃ d S D fa fc la lc, e = .returned (.agg #[.pointer (some ⟨d, 0, none⟩), .slice fa D.rs.length fc, .int .i64 D.a.room, .slice la (flen D.a.fall) lc, .int .i64 D.a.changes, .bool D.a.down]) ∧ sideCs d D = #[.pointer (some ⟨d, 0, none⟩), .slice fa D.rs.length fc, .int .i64 D.a.room, .slice la (flen D.a.fall) lc, .int .i64 D.a.changes, .bool D.a.down] ∧ Both Try.prog (W.heap.size + 1) 0 d w' S D ∧ Below W.heap.size W w' ∧ w'.heap[W.heap.size]? = some (.cells #[.int .i64 f.on, .int .i64 f.keep, .int .i64 f.torn] 34 (0, 0)) ∧ Lull D.a) := by
    refine (fresh_any (W.alloc (.cells #[.int .i64 f.on, .int .i64 f.keep, .int .i64 f.torn] 34))).mono ?_
    rintro e w' ⟨d, S, D, he, hB, hz, hb⟩
    obtain ⟨fa, fc, la, lc, h1⟩ := side_lit hB
    have hsz : (W.alloc (.cells #[.int .i64 f.on, .int .i64 f.keep, .int .i64 f.torn] 34)).heap.size = W.heap.size + 1 := by simp
    rw [hsz] at hB
    exact ⟨d, S, D, fa, fc, la, lc, by rw [he]; unfold sideV; rw [h1], h1, hB, kW.trans (hb.mono kW.size), row_kept (heap_alloc_new W _) hb, by rw [hz]; exact ⟨rfl, rfl, rfl⟩⟩
  obtain ⟨m, hm, hand⟩ := and_small how 3 (by omega)
  have hand2 : bits .and .i64 how 3 = (m : Int) := hand
  clear hs hf kW hand
  go_enter Try.func4, Try.ntmps4
  go_wp2_with (go_at_call 8; refine (HFRESH.out).mono ?_; rintro e w1 ⟨d, S, D, fa, fc, la, lc, rfl, hside, hB, k1, hbox, hC⟩; have HZ := hide (And.intro hside (And.intro hB (And.intro k1 (And.intro hbox hC)))); clear hside hB k1 hbox hC)
  have hwx : W.heap.size + 1 ≤ w1.heap.size := HZ.out.2.1.start
  have H0 : Hid (∃ (S' : WD) (E : RD), Both Try.prog (W.heap.size + 1) 0 d (w1.alloc (.cells #[.pointer (some ⟨d, 0, none⟩), .slice fa D.rs.length fc, .int .i64 D.a.room, .slice la (flen D.a.fall) lc, .int .i64 D.a.changes, .bool D.a.down] 29)) S' E ∧ (w1.alloc (.cells #[.pointer (some ⟨d, 0, none⟩), .slice fa D.rs.length fc, .int .i64 D.a.room, .slice la (flen D.a.fall) lc, .int .i64 D.a.changes, .bool D.a.down] 29)).heap[w1.heap.size]? = some (.cells (sideCs d E) 29 (0, 0)) ∧ Below W.heap.size W (w1.alloc (.cells #[.pointer (some ⟨d, 0, none⟩), .slice fa D.rs.length fc, .int .i64 D.a.room, .slice la (flen D.a.fall) lc, .int .i64 D.a.changes, .bool D.a.down] 29)) ∧ (w1.alloc (.cells #[.pointer (some ⟨d, 0, none⟩), .slice fa D.rs.length fc, .int .i64 D.a.room, .slice la (flen D.a.fall) lc, .int .i64 D.a.changes, .bool D.a.down] 29)).heap[W.heap.size]? = some (.cells #[.int .i64 f.on, .int .i64 f.keep, .int .i64 f.torn] 34 (0, 0)) ∧ Lull E.a) := by
    have kb : Below w1.heap.size w1 (w1.alloc (.cells #[.pointer (some ⟨d, 0, none⟩), .slice fa D.rs.length fc, .int .i64 D.a.room, .slice la (flen D.a.fall) lc, .int .i64 D.a.changes, .bool D.a.down] 29)) := (Below.refl _ _).alloc (Nat.le_refl _) _
    exact ⟨S, D, HZ.out.2.1.below kb, by rw [HZ.out.1]; exact heap_alloc_new _ _, HZ.out.2.2.1.trans (kb.mono HZ.out.2.2.1.size), row_kept HZ.out.2.2.2.1 kb, HZ.out.2.2.2.2⟩
  clear HFRESH HZ
  go_loopw [8] (fun vi wr => ∃ i : Nat, i ≤ n ∧ i ≤ 20 ∧ vi = .int .i64 i ∧ Hid (∃ (S' : WD) (E : RD), Both Try.prog (W.heap.size + 1) i d wr S' E ∧ wr.heap[w1.heap.size]? = some (.cells (sideCs d E) 29 (0, 0)) ∧ Below W.heap.size W wr ∧ wr.heap[W.heap.size]? = some (.cells #[.int .i64 f.on, .int .i64 f.keep, .int .i64 f.torn] 34 (0, 0)) ∧ Lull E.a)) (fun vi _ => 20 - (intOf vi).toNat)
  case atStart => exact ⟨0, Nat.zero_le _, Nat.zero_le _, rfl, H0.out⟩
  case round =>
    obtain ⟨i, hi, hi60, rfl, HB⟩ := hrel
    clear H0
    by_cases hgo : i < n ∧ i < 20
    · obtain ⟨hlt, hltm⟩ := hgo
      obtain ⟨b, off, hva, hbw, hcap, hcells⟩ := HA.out i hlt
      subst hva
      obtain ⟨S, D, hB, hrow, hb, hbox, hC⟩ := HB.out
      obtain ⟨fa, fc, la, lc, hside⟩ := side_lit hB
      rw [hside] at hrow
      have q : ∀ c, c < 8 → wr.cell? ⟨b, off + i * 8 + c, none⟩ = some ((gs i).cell c) := fun c hc => (hb.cell (p := ⟨b, off + i * 8 + c, none⟩) hbw).trans (hcells c hc)
      have q0 : wr.cell? ⟨b, off + i * 8, none⟩ = some (.int .i64 (gs i).kind) := q 0 (by decide)
      have hbl : b < wr.heap.size := Nat.lt_of_lt_of_le hbw hb.size
      by_cases hbad : (gs i).kind < 0 ∨ 6 ≤ (gs i).kind
      · have HNX : Hid (∃ (S' : WD) (E : RD), Both Try.prog (W.heap.size + 1) (i + 1) d wr S' E ∧ wr.heap[w1.heap.size]? = some (.cells (sideCs d E) 29 (0, 0)) ∧ Below W.heap.size W wr ∧ wr.heap[W.heap.size]? = some (.cells #[.int .i64 f.on, .int .i64 f.keep, .int .i64 f.torn] 34 (0, 0)) ∧ Lull E.a) := ⟨S, D, hB.more (by omega), by rw [hside]; exact hrow, hb, hbox, hC⟩
        clear q hcells hB hrow hb hside HB hbox hC
        rcases hbad with hbad | hbad
        · have hd0 : decide (0 ≤ (gs i).kind) = false := decide_eq_false (by omega)
          go_wp2_with fail
          exact ⟨⟨i + 1, by omega, by omega, by go_num, HNX.out⟩, by simp [intOf]; omega⟩
        · have hd0 : decide (0 ≤ (gs i).kind) = true := decide_eq_true (by omega)
          have hd6 : decide ((gs i).kind < 6) = false := decide_eq_false (by omega)
          go_wp2_with fail
          exact ⟨⟨i + 1, by omega, by omega, by go_num, HNX.out⟩, by simp [intOf]; omega⟩
      have h0 : 0 ≤ (gs i).kind := by omega
      have h6 : (gs i).kind < 6 := by omega
      have hd0 : decide (0 ≤ (gs i).kind) = true := decide_eq_true h0
      have hd6 : decide ((gs i).kind < 6) = true := decide_eq_true h6
      have HACT : Hid (∀ U, Below wr.heap.size wr U → Calls Try.prog 9 #[.agg #[.pointer (some ⟨d, 0, none⟩), .slice fa D.rs.length fc, .int .i64 D.a.room, .slice la (flen D.a.fall) lc, .int .i64 D.a.changes, .bool D.a.down], .agg #[.int .i64 (gs i).kind, .string (gs i).name, .string (gs i).dst, .string (gs i).s, .int .i64 (gs i).n, .int .i64 (gs i).f.on, .int .i64 (gs i).f.keep, .int .i64 (gs i).f.torn]] U fun e w' => ∃ T D' fa' fc' la' lc', e = .returned (.tuple #[.agg #[.pointer (some ⟨d, 0, none⟩), .slice fa' D'.rs.length fc', .int .i64 D'.a.room, .slice la' (flen D'.a.fall) lc', .int .i64 D'.a.changes, .bool D'.a.down], .bool true]) ∧ sideCs d D' = #[.pointer (some ⟨d, 0, none⟩), .slice fa' D'.rs.length fc', .int .i64 D'.a.room, .slice la' (flen D'.a.fall) lc', .int .i64 D'.a.changes, .bool D'.a.down] ∧ Both Try.prog (W.heap.size + 1) (i + 1) d w' T D' ∧ Below W.heap.size W w' ∧ w'.heap[w1.heap.size]? = some (.cells #[.pointer (some ⟨d, 0, none⟩), .slice fa D.rs.length fc, .int .i64 D.a.room, .slice la (flen D.a.fall) lc, .int .i64 D.a.changes, .bool D.a.down] 29 (0, 0)) ∧ w'.heap[W.heap.size]? = some (.cells #[.int .i64 f.on, .int .i64 f.keep, .int .i64 f.torn] 34 (0, 0)) ∧ Lull D'.a) := fun U hU => by
        have := act_any (W.heap.size + 1) i d S D (gs i) U (hB.below hU) (HFIT.out i hlt) (by omega)
        unfold sideV Ac.v Ac.cs at this
        rw [hside] at this
        refine this.mono ?_
        rintro e w' ⟨T, D', he, hB', hD', hk⟩
        obtain ⟨fa', fc', la', lc', h1⟩ := side_lit hB'
        have hk2 : Dsk (W.heap.size + 1) wr w' := (Dsk.of_below hU).trans hk
        exact ⟨T, D', fa', fc', la', lc', by rw [he]; unfold sideV; rw [h1], h1, hB', hb.trans ((hk2.below hB.start).mono (Nat.le_succ _)), box_kept hk2 hrow (by simp [dkind]), (hk2.block _ (block_lt hbox) (by rintro ⟨hge, _⟩; omega)).trans hbox, by rw [hD']; exact hC.act (gs i) h0 h6⟩
      have q1 : wr.cell? ⟨b, off + i * 8 + 1, none⟩ = some (.string (gs i).name) := q 1 (by decide)
      have q2 : wr.cell? ⟨b, off + i * 8 + 2, none⟩ = some (.string (gs i).dst) := q 2 (by decide)
      have q3 : wr.cell? ⟨b, off + i * 8 + 3, none⟩ = some (.string (gs i).s) := q 3 (by decide)
      have q4 : wr.cell? ⟨b, off + i * 8 + 4, none⟩ = some (.int .i64 (gs i).n) := q 4 (by decide)
      have q5 : wr.cell? ⟨b, off + i * 8 + 5, none⟩ = some (.int .i64 (gs i).f.on) := q 5 (by decide)
      have q6 : wr.cell? ⟨b, off + i * 8 + 6, none⟩ = some (.int .i64 (gs i).f.keep) := q 6 (by decide)
      have q7 : wr.cell? ⟨b, off + i * 8 + 7, none⟩ = some (.int .i64 (gs i).f.torn) := q 7 (by decide)
      obtain ⟨c0, c1, c2, c3, c4, c5⟩ := cells6s hrow
      clear q hcells hB hrow hb hside HB hbox hC hbad h0 h6
      go_upto_region 6 with fail
      go_region_with (go_at_call 9; refine (HACT.out _ (by first | exact ⟨rfl, rfl, rfl, Nat.le_refl _, fun _ _ => rfl⟩ | exact Below.refl _ _)).mono ?_; rintro e w2 ⟨T, D', fa', fc', la', lc', rfl, hside', hB', hb', r3, hbox', hC'⟩; have HQ := hide (And.intro hside' (And.intro hB' (And.intro hb' (And.intro r3 (And.intro hbox' hC'))))); obtain ⟨d0, d1, d2, d3, d4, d5⟩ := cells6s r3; obtain ⟨f0, f1, f2, f3, f4, f5⟩ := frozen6s r3; clear hside' hB' hb' r3 hbox' hC')
      all_goals go_wp2
      all_goals
        have t2 := tch_set6 w2 w1.heap.size (.pointer (some ⟨d, 0, none⟩)) (.slice fa' D'.rs.length fc') (.int .i64 D'.a.room) (.slice la' (flen D'.a.fall) lc') (.int .i64 D'.a.changes) (.bool D'.a.down)
        have hbw2 := HQ.out.2.2.1
        refine ⟨⟨i + 1, by omega, by omega, by go_num, T, D', HQ.out.2.1.turned HQ.out.2.2.2.1 t2, by rw [HQ.out.1]; exact set6 HQ.out.2.2.2.1 _ _ _ _ _ _, ⟨t2.os.trans hbw2.os, t2.tape.trans hbw2.tape, t2.output.trans hbw2.output, Nat.le_trans hbw2.size t2.size, fun k hk => (t2.block k (Nat.lt_of_lt_of_le hk hbw2.size) (by omega)).trans (hbw2.block k hk)⟩, tch_kept HQ.out.2.2.2.2.1 t2 (by omega), HQ.out.2.2.2.2.2⟩, by simp [intOf]; omega⟩
    · obtain ⟨S, D, hB, hrow, hb, hbox, hC⟩ := HB.out
      obtain ⟨fa, fc, la, lc, hside⟩ := side_lit hB
      rw [hside] at hrow
      have I1 : Hid (Stand Try.prog W f w1.heap.size d i wr D.a) := ⟨⟨S, hB.same, hB.disk⟩, hB.start, hb, ⟨_, _, _, _, _, hrow⟩, hbox⟩
      obtain ⟨x1, -⟩ := cells6s hrow
      have L1 := hide hC
      clear hB hrow hb hbox hC hside HB HA HFIT
      have HW : Hid (∀ U, Below wr.heap.size wr U → Calls Try.prog 12 #[.pointer (some ⟨d, 0, none⟩), .string ⟨#[111, 119, 110]⟩, .string ⟨#[48, 49, 50, 51, 52, 53, 54, 55, 56, 57]⟩] U fun e w' => e = .returned (.int .i64 0) ∧ ∃ z, Stand Try.prog W f w1.heap.size d (i + 1) w' z ∧ Lull z ∧ z.has [111, 119, 110] [48, 49, 50, 51, 52, 53, 54, 55, 56, 57]) := fun U hU =>
        (st_write (I1.out.under hU) L1.out (by omega) ⟨#[111, 119, 110]⟩ ⟨#[48, 49, 50, 51, 52, 53, 54, 55, 56, 57]⟩ (by decide) (by decide) (by decide)).mono fun e w' ⟨he, h⟩ => ⟨he, _, h, L1.out.puts _ _, puts_has D.a I1.out.rises _ _⟩
      have HAP : Hid (∀ w2 U z, Stand Try.prog W f w1.heap.size d (i + 1) w2 z → Lull z → z.has [111, 119, 110] [48, 49, 50, 51, 52, 53, 54, 55, 56, 57] → Below w2.heap.size w2 U → Calls Try.prog 13 #[.pointer (some ⟨d, 0, none⟩), .string ⟨#[111, 119, 110]⟩, .string ⟨#[97, 98, 99]⟩] U fun e w' => e = .returned (.int .i64 0) ∧ ∃ z, Stand Try.prog W f w1.heap.size d (i + 2) w' z ∧ Lull z ∧ z.has [111, 119, 110] [48, 49, 50, 51, 52, 53, 54, 55, 56, 57, 97, 98, 99]) := fun w2 U z h hl hh hU =>
        (st_append (h.under hU) hl (by omega) ⟨#[111, 119, 110]⟩ ⟨#[97, 98, 99]⟩ (by decide) (by decide) (by decide)).mono fun e w' ⟨he, h'⟩ => ⟨he, _, h', hl.puts _ _, by
          have := puts_has z h.rises (⟨#[111, 119, 110]⟩ : ByteArray).data.toList ⟨(⟨#[97, 98, 99]⟩ : ByteArray).data.toList, false⟩
          rw [hh.fileOf h.rises] at this
          exact this⟩
      by_cases hlt : i < n
      · have hd20 : decide ((i : Int) < 20) = false := decide_eq_false (by omega)
        go_upto_region 7 with fail
        go_region_with (first
          | (go_at_call 12; refine (HW.out _ (by first | exact Below.refl _ _ | exact ⟨rfl, rfl, rfl, Nat.le_refl _, fun _ _ => rfl⟩)).mono ?_; rintro e w2 ⟨rfl, z2, i2, l2, h2⟩; have G2 := hide (And.intro l2 h2); clear l2 h2; have I2 := hide i2; clear i2; obtain ⟨p2, q2, r2, s2, t2, hx2⟩ := I2.out.side; obtain ⟨x2, -⟩ := cells6s hx2; clear hx2; obtain ⟨y2, v2⟩ := cellsF I2.out.box)
          | (go_at_call 13; refine (HAP.out w2 _ z2 I2.out G2.out.1 G2.out.2 (by first | exact Below.refl _ _ | exact ⟨rfl, rfl, rfl, Nat.le_refl _, fun _ _ => rfl⟩)).mono ?_; rintro e w3 ⟨rfl, z3, i3, l3, h3⟩; have G3 := hide (And.intro l3 h3); clear l3 h3; have I3 := hide i3; clear i3; obtain ⟨p3, q3, r3, s3, t3, hx3⟩ := I3.out.side; obtain ⟨x3, -⟩ := cells6s hx3; clear hx3; obtain ⟨y3, v3⟩ := cellsF I3.out.box))
        all_goals clear HW HAP
        all_goals rcases (show m = 0 ∨ m = 1 ∨ m = 2 ∨ m = 3 by omega) with hm' | hm' | hm' | hm'
        all_goals first
          | (have hmm : m = 0 := hm'
             have hand3 : bits .and .i64 how 3 = 0 := by rw [hand2, hmm]; rfl
             clear hand2 hm' hmm
             have HT : Hid (Calls Try.prog 14 #[.pointer (some ⟨d, 0, none⟩)] w3 fun e w' => e = .returned (.int .i64 0) ∧ ∃ z', Stand Try.prog W f w1.heap.size d (i + 2 + 1) w' z' ∧ Lull z' ∧ z'.firm [111, 119, 110] [48, 49, 50, 51, 52, 53, 54, 55, 56, 57, 97, 98, 99]) := st_sync I3.out G3.out.1 (by omega) G3.out.2
             have HLO : Hid (∀ w4 z, Stand Try.prog W f w1.heap.size d (i + 2 + 1) w4 z → Lull z → z.firm [111, 119, 110] [48, 49, 50, 51, 52, 53, 54, 55, 56, 57, 97, 98, 99] → Calls Try.prog 13 #[.pointer (some ⟨d, 0, none⟩), .string ⟨#[108, 111, 111, 115, 101]⟩, .string ⟨#[120]⟩] w4 fun e w' => e = .returned (.int .i64 0) ∧ ∃ z', Stand Try.prog W f w1.heap.size d (i + 2 + 1 + 1) w' z' ∧ Lull z' ∧ z'.firm [111, 119, 110] [48, 49, 50, 51, 52, 53, 54, 55, 56, 57, 97, 98, 99]) := fun w4 z h hl hh =>
               (st_append h hl (by omega) ⟨#[108, 111, 111, 115, 101]⟩ ⟨#[120]⟩ (by decide) (by decide) (by decide)).mono fun e w' ⟨he, h'⟩ => ⟨he, _, h', hl.puts _ _, hh.puts h.rises (by decide) _⟩
             have HCR : Hid (∀ w5 z, Stand Try.prog W f w1.heap.size d (i + 2 + 1 + 1) w5 z → Lull z → z.firm [111, 119, 110] [48, 49, 50, 51, 52, 53, 54, 55, 56, 57, 97, 98, 99] → Calls Try.prog 17 #[.pointer (some ⟨d, 0, none⟩), .int .i64 f.keep, .int .i64 f.torn] w5 fun e w' => e = .returned (.tuple #[]) ∧ ∃ z', Stand Try.prog W f w1.heap.size d (i + 2 + 1 + 1) w' z' ∧ z'.firm [111, 119, 110] [48, 49, 50, 51, 52, 53, 54, 55, 56, 57, 97, 98, 99]) := fun w5 z h hl hh => st_crash h hl hh
             have HUP : Hid (∀ w6 z, Stand Try.prog W f w1.heap.size d (i + 2 + 1 + 1) w6 z → z.firm [111, 119, 110] [48, 49, 50, 51, 52, 53, 54, 55, 56, 57, 97, 98, 99] → Calls Try.prog 18 #[.pointer (some ⟨d, 0, none⟩)] w6 fun e w' => (∃ b, e = .returned (.bool b)) ∧ ∃ z', Stand Try.prog W f w1.heap.size d (i + 2 + 1 + 1) w' z' ∧ z'.down = false ∧ z'.firm [111, 119, 110] [48, 49, 50, 51, 52, 53, 54, 55, 56, 57, 97, 98, 99]) := fun w6 z h hh => st_up h hh
             have HRD : Hid (∀ w7 z, Stand Try.prog W f w1.heap.size d (i + 2 + 1 + 1) w7 z → z.down = false → z.firm [111, 119, 110] [48, 49, 50, 51, 52, 53, 54, 55, 56, 57, 97, 98, 99] → Calls Try.prog 19 #[.pointer (some ⟨d, 0, none⟩), .string ⟨#[111, 119, 110]⟩] w7 fun e w' => e = .returned (.tuple #[.string ⟨#[48, 49, 50, 51, 52, 53, 54, 55, 56, 57, 97, 98, 99]⟩, .int .i64 0]) ∧ w' = w7) := fun w7 z h hd hh => st_read h hd ⟨#[111, 119, 110]⟩ (by decide) (by decide) hh
             go_wp2_with (first
               | (go_at_call 14; refine (HT.out).mono ?_; rintro e w4 ⟨rfl, z4, i4, l4, h4⟩; have G4 := hide (And.intro l4 h4); clear l4 h4; have I4 := hide i4; clear i4; obtain ⟨p4, q4, r4, s4, t4, hx4⟩ := I4.out.side; obtain ⟨x4, -⟩ := cells6s hx4; clear hx4; obtain ⟨y4, v4⟩ := cellsF I4.out.box)
               | (go_at_call 13; refine (HLO.out w4 z4 I4.out G4.out.1 G4.out.2).mono ?_; rintro e w5 ⟨rfl, z5, i5, l5, h5⟩; have G5 := hide (And.intro l5 h5); clear l5 h5; have I5 := hide i5; clear i5; obtain ⟨p5, q5, r5, s5, t5, hx5⟩ := I5.out.side; obtain ⟨x5, -⟩ := cells6s hx5; clear hx5; obtain ⟨y5, v5⟩ := cellsF I5.out.box)
               | (go_at_call 17; refine (HCR.out w5 z5 I5.out G5.out.1 G5.out.2).mono ?_; rintro e w6 ⟨rfl, z6, i6, h6⟩; have G6 := hide h6; clear h6; have I6 := hide i6; clear i6; obtain ⟨p6, q6, r6, s6, t6, hx6⟩ := I6.out.side; obtain ⟨x6, -⟩ := cells6s hx6; clear hx6; obtain ⟨y6, v6⟩ := cellsF I6.out.box)
               | (go_at_call 18; refine (HUP.out w6 z6 I6.out G6.out).mono ?_; rintro e w7 ⟨⟨b7, rfl⟩, z7, i7, l7, h7⟩; have G7 := hide (And.intro l7 h7); clear l7 h7; have I7 := hide i7; clear i7; obtain ⟨p7, q7, r7, s7, t7, hx7⟩ := I7.out.side; obtain ⟨x7, -⟩ := cells6s hx7; clear hx7; obtain ⟨y7, v7⟩ := cellsF I7.out.box)
               | (go_at_call 19; refine (HRD.out w7 z7 I7.out G7.out.1 G7.out.2).mono ?_; rintro e w8 ⟨rfl, rfl⟩)
               | (go_at_call 11; refine (HAWAKE.out _).mono ?_; rintro e w9 ⟨rfl, k9⟩; have K9 := hide k9; clear k9))
             go_ret
             exact ⟨rfl, I7.out.below.trans (K9.out.mono I7.out.below.size)⟩)
          | (have hmm : m = 1 := hm'
             have hand3 : bits .and .i64 how 3 = 1 := by rw [hand2, hmm]; rfl
             clear hand2 hm' hmm
             have HT : Hid (Calls Try.prog 15 #[.pointer (some ⟨d, 0, none⟩), .string ⟨#[111, 119, 110]⟩, .string ⟨#[111, 116, 104, 101, 114, 33]⟩] w3 fun e w' => e = .returned (.int .i64 0) ∧ ∃ z', Stand Try.prog W f w1.heap.size d (i + 2 + 1) w' z' ∧ Lull z' ∧ z'.firm [111, 116, 104, 101, 114, 33] [48, 49, 50, 51, 52, 53, 54, 55, 56, 57, 97, 98, 99]) := st_move I3.out G3.out.1 (by omega) ⟨#[111, 119, 110]⟩ ⟨#[111, 116, 104, 101, 114, 33]⟩ (by decide) (by decide) (by decide) (by decide) (by decide) G3.out.2
             have HLO : Hid (∀ w4 z, Stand Try.prog W f w1.heap.size d (i + 2 + 1) w4 z → Lull z → z.firm [111, 116, 104, 101, 114, 33] [48, 49, 50, 51, 52, 53, 54, 55, 56, 57, 97, 98, 99] → Calls Try.prog 13 #[.pointer (some ⟨d, 0, none⟩), .string ⟨#[108, 111, 111, 115, 101]⟩, .string ⟨#[120]⟩] w4 fun e w' => e = .returned (.int .i64 0) ∧ ∃ z', Stand Try.prog W f w1.heap.size d (i + 2 + 1 + 1) w' z' ∧ Lull z' ∧ z'.firm [111, 116, 104, 101, 114, 33] [48, 49, 50, 51, 52, 53, 54, 55, 56, 57, 97, 98, 99]) := fun w4 z h hl hh =>
               (st_append h hl (by omega) ⟨#[108, 111, 111, 115, 101]⟩ ⟨#[120]⟩ (by decide) (by decide) (by decide)).mono fun e w' ⟨he, h'⟩ => ⟨he, _, h', hl.puts _ _, hh.puts h.rises (by decide) _⟩
             have HCR : Hid (∀ w5 z, Stand Try.prog W f w1.heap.size d (i + 2 + 1 + 1) w5 z → Lull z → z.firm [111, 116, 104, 101, 114, 33] [48, 49, 50, 51, 52, 53, 54, 55, 56, 57, 97, 98, 99] → Calls Try.prog 17 #[.pointer (some ⟨d, 0, none⟩), .int .i64 f.keep, .int .i64 f.torn] w5 fun e w' => e = .returned (.tuple #[]) ∧ ∃ z', Stand Try.prog W f w1.heap.size d (i + 2 + 1 + 1) w' z' ∧ z'.firm [111, 116, 104, 101, 114, 33] [48, 49, 50, 51, 52, 53, 54, 55, 56, 57, 97, 98, 99]) := fun w5 z h hl hh => st_crash h hl hh
             have HUP : Hid (∀ w6 z, Stand Try.prog W f w1.heap.size d (i + 2 + 1 + 1) w6 z → z.firm [111, 116, 104, 101, 114, 33] [48, 49, 50, 51, 52, 53, 54, 55, 56, 57, 97, 98, 99] → Calls Try.prog 18 #[.pointer (some ⟨d, 0, none⟩)] w6 fun e w' => (∃ b, e = .returned (.bool b)) ∧ ∃ z', Stand Try.prog W f w1.heap.size d (i + 2 + 1 + 1) w' z' ∧ z'.down = false ∧ z'.firm [111, 116, 104, 101, 114, 33] [48, 49, 50, 51, 52, 53, 54, 55, 56, 57, 97, 98, 99]) := fun w6 z h hh => st_up h hh
             have HRD : Hid (∀ w7 z, Stand Try.prog W f w1.heap.size d (i + 2 + 1 + 1) w7 z → z.down = false → z.firm [111, 116, 104, 101, 114, 33] [48, 49, 50, 51, 52, 53, 54, 55, 56, 57, 97, 98, 99] → Calls Try.prog 19 #[.pointer (some ⟨d, 0, none⟩), .string ⟨#[111, 116, 104, 101, 114, 33]⟩] w7 fun e w' => e = .returned (.tuple #[.string ⟨#[48, 49, 50, 51, 52, 53, 54, 55, 56, 57, 97, 98, 99]⟩, .int .i64 0]) ∧ w' = w7) := fun w7 z h hd hh => st_read h hd ⟨#[111, 116, 104, 101, 114, 33]⟩ (by decide) (by decide) hh
             go_wp2_with (first
               | (go_at_call 15; refine (HT.out).mono ?_; rintro e w4 ⟨rfl, z4, i4, l4, h4⟩; have G4 := hide (And.intro l4 h4); clear l4 h4; have I4 := hide i4; clear i4; obtain ⟨p4, q4, r4, s4, t4, hx4⟩ := I4.out.side; obtain ⟨x4, -⟩ := cells6s hx4; clear hx4; obtain ⟨y4, v4⟩ := cellsF I4.out.box)
               | (go_at_call 13; refine (HLO.out w4 z4 I4.out G4.out.1 G4.out.2).mono ?_; rintro e w5 ⟨rfl, z5, i5, l5, h5⟩; have G5 := hide (And.intro l5 h5); clear l5 h5; have I5 := hide i5; clear i5; obtain ⟨p5, q5, r5, s5, t5, hx5⟩ := I5.out.side; obtain ⟨x5, -⟩ := cells6s hx5; clear hx5; obtain ⟨y5, v5⟩ := cellsF I5.out.box)
               | (go_at_call 17; refine (HCR.out w5 z5 I5.out G5.out.1 G5.out.2).mono ?_; rintro e w6 ⟨rfl, z6, i6, h6⟩; have G6 := hide h6; clear h6; have I6 := hide i6; clear i6; obtain ⟨p6, q6, r6, s6, t6, hx6⟩ := I6.out.side; obtain ⟨x6, -⟩ := cells6s hx6; clear hx6; obtain ⟨y6, v6⟩ := cellsF I6.out.box)
               | (go_at_call 18; refine (HUP.out w6 z6 I6.out G6.out).mono ?_; rintro e w7 ⟨⟨b7, rfl⟩, z7, i7, l7, h7⟩; have G7 := hide (And.intro l7 h7); clear l7 h7; have I7 := hide i7; clear i7; obtain ⟨p7, q7, r7, s7, t7, hx7⟩ := I7.out.side; obtain ⟨x7, -⟩ := cells6s hx7; clear hx7; obtain ⟨y7, v7⟩ := cellsF I7.out.box)
               | (go_at_call 19; refine (HRD.out w7 z7 I7.out G7.out.1 G7.out.2).mono ?_; rintro e w8 ⟨rfl, rfl⟩)
               | (go_at_call 11; refine (HAWAKE.out _).mono ?_; rintro e w9 ⟨rfl, k9⟩; have K9 := hide k9; clear k9))
             go_ret
             exact ⟨rfl, I7.out.below.trans (K9.out.mono I7.out.below.size)⟩)
          | (have hmm : m = 2 := hm'
             have hand3 : bits .and .i64 how 3 = 2 := by rw [hand2, hmm]; rfl
             clear hand2 hm' hmm
             have HT : Hid (Calls Try.prog 16 #[.pointer (some ⟨d, 0, none⟩), .string ⟨#[111, 119, 110]⟩, .int .i64 13] w3 fun e w' => e = .returned (.int .i64 0) ∧ ∃ z', Stand Try.prog W f w1.heap.size d (i + 2 + 1) w' z' ∧ Lull z' ∧ z'.firm [111, 119, 110] [48, 49, 50, 51, 52, 53, 54, 55, 56, 57, 97, 98, 99]) := st_trunc I3.out G3.out.1 (by omega) ⟨#[111, 119, 110]⟩ rfl (by decide) (by decide) G3.out.2
             have HLO : Hid (∀ w4 z, Stand Try.prog W f w1.heap.size d (i + 2 + 1) w4 z → Lull z → z.firm [111, 119, 110] [48, 49, 50, 51, 52, 53, 54, 55, 56, 57, 97, 98, 99] → Calls Try.prog 13 #[.pointer (some ⟨d, 0, none⟩), .string ⟨#[108, 111, 111, 115, 101]⟩, .string ⟨#[120]⟩] w4 fun e w' => e = .returned (.int .i64 0) ∧ ∃ z', Stand Try.prog W f w1.heap.size d (i + 2 + 1 + 1) w' z' ∧ Lull z' ∧ z'.firm [111, 119, 110] [48, 49, 50, 51, 52, 53, 54, 55, 56, 57, 97, 98, 99]) := fun w4 z h hl hh =>
               (st_append h hl (by omega) ⟨#[108, 111, 111, 115, 101]⟩ ⟨#[120]⟩ (by decide) (by decide) (by decide)).mono fun e w' ⟨he, h'⟩ => ⟨he, _, h', hl.puts _ _, hh.puts h.rises (by decide) _⟩
             have HCR : Hid (∀ w5 z, Stand Try.prog W f w1.heap.size d (i + 2 + 1 + 1) w5 z → Lull z → z.firm [111, 119, 110] [48, 49, 50, 51, 52, 53, 54, 55, 56, 57, 97, 98, 99] → Calls Try.prog 17 #[.pointer (some ⟨d, 0, none⟩), .int .i64 f.keep, .int .i64 f.torn] w5 fun e w' => e = .returned (.tuple #[]) ∧ ∃ z', Stand Try.prog W f w1.heap.size d (i + 2 + 1 + 1) w' z' ∧ z'.firm [111, 119, 110] [48, 49, 50, 51, 52, 53, 54, 55, 56, 57, 97, 98, 99]) := fun w5 z h hl hh => st_crash h hl hh
             have HUP : Hid (∀ w6 z, Stand Try.prog W f w1.heap.size d (i + 2 + 1 + 1) w6 z → z.firm [111, 119, 110] [48, 49, 50, 51, 52, 53, 54, 55, 56, 57, 97, 98, 99] → Calls Try.prog 18 #[.pointer (some ⟨d, 0, none⟩)] w6 fun e w' => (∃ b, e = .returned (.bool b)) ∧ ∃ z', Stand Try.prog W f w1.heap.size d (i + 2 + 1 + 1) w' z' ∧ z'.down = false ∧ z'.firm [111, 119, 110] [48, 49, 50, 51, 52, 53, 54, 55, 56, 57, 97, 98, 99]) := fun w6 z h hh => st_up h hh
             have HRD : Hid (∀ w7 z, Stand Try.prog W f w1.heap.size d (i + 2 + 1 + 1) w7 z → z.down = false → z.firm [111, 119, 110] [48, 49, 50, 51, 52, 53, 54, 55, 56, 57, 97, 98, 99] → Calls Try.prog 19 #[.pointer (some ⟨d, 0, none⟩), .string ⟨#[111, 119, 110]⟩] w7 fun e w' => e = .returned (.tuple #[.string ⟨#[48, 49, 50, 51, 52, 53, 54, 55, 56, 57, 97, 98, 99]⟩, .int .i64 0]) ∧ w' = w7) := fun w7 z h hd hh => st_read h hd ⟨#[111, 119, 110]⟩ (by decide) (by decide) hh
             go_wp2_with (first
               | (go_at_call 16; refine (HT.out).mono ?_; rintro e w4 ⟨rfl, z4, i4, l4, h4⟩; have G4 := hide (And.intro l4 h4); clear l4 h4; have I4 := hide i4; clear i4; obtain ⟨p4, q4, r4, s4, t4, hx4⟩ := I4.out.side; obtain ⟨x4, -⟩ := cells6s hx4; clear hx4; obtain ⟨y4, v4⟩ := cellsF I4.out.box)
               | (go_at_call 13; refine (HLO.out w4 z4 I4.out G4.out.1 G4.out.2).mono ?_; rintro e w5 ⟨rfl, z5, i5, l5, h5⟩; have G5 := hide (And.intro l5 h5); clear l5 h5; have I5 := hide i5; clear i5; obtain ⟨p5, q5, r5, s5, t5, hx5⟩ := I5.out.side; obtain ⟨x5, -⟩ := cells6s hx5; clear hx5; obtain ⟨y5, v5⟩ := cellsF I5.out.box)
               | (go_at_call 17; refine (HCR.out w5 z5 I5.out G5.out.1 G5.out.2).mono ?_; rintro e w6 ⟨rfl, z6, i6, h6⟩; have G6 := hide h6; clear h6; have I6 := hide i6; clear i6; obtain ⟨p6, q6, r6, s6, t6, hx6⟩ := I6.out.side; obtain ⟨x6, -⟩ := cells6s hx6; clear hx6; obtain ⟨y6, v6⟩ := cellsF I6.out.box)
               | (go_at_call 18; refine (HUP.out w6 z6 I6.out G6.out).mono ?_; rintro e w7 ⟨⟨b7, rfl⟩, z7, i7, l7, h7⟩; have G7 := hide (And.intro l7 h7); clear l7 h7; have I7 := hide i7; clear i7; obtain ⟨p7, q7, r7, s7, t7, hx7⟩ := I7.out.side; obtain ⟨x7, -⟩ := cells6s hx7; clear hx7; obtain ⟨y7, v7⟩ := cellsF I7.out.box)
               | (go_at_call 19; refine (HRD.out w7 z7 I7.out G7.out.1 G7.out.2).mono ?_; rintro e w8 ⟨rfl, rfl⟩)
               | (go_at_call 11; refine (HAWAKE.out _).mono ?_; rintro e w9 ⟨rfl, k9⟩; have K9 := hide k9; clear k9))
             go_ret
             exact ⟨rfl, I7.out.below.trans (K9.out.mono I7.out.below.size)⟩)
          | (have hmm : m = 3 := hm'
             have hand3 : bits .and .i64 how 3 = 3 := by rw [hand2, hmm]; rfl
             clear hand2 hm' hmm
             have HT : Hid (Calls Try.prog 16 #[.pointer (some ⟨d, 0, none⟩), .string ⟨#[111, 119, 110]⟩, .int .i64 13] w3 fun e w' => e = .returned (.int .i64 0) ∧ ∃ z', Stand Try.prog W f w1.heap.size d (i + 2 + 1) w' z' ∧ Lull z' ∧ z'.firm [111, 119, 110] [48, 49, 50, 51, 52, 53, 54, 55, 56, 57, 97, 98, 99]) := st_trunc I3.out G3.out.1 (by omega) ⟨#[111, 119, 110]⟩ rfl (by decide) (by decide) G3.out.2
             have HLO : Hid (∀ w4 z, Stand Try.prog W f w1.heap.size d (i + 2 + 1) w4 z → Lull z → z.firm [111, 119, 110] [48, 49, 50, 51, 52, 53, 54, 55, 56, 57, 97, 98, 99] → Calls Try.prog 13 #[.pointer (some ⟨d, 0, none⟩), .string ⟨#[108, 111, 111, 115, 101]⟩, .string ⟨#[120]⟩] w4 fun e w' => e = .returned (.int .i64 0) ∧ ∃ z', Stand Try.prog W f w1.heap.size d (i + 2 + 1 + 1) w' z' ∧ Lull z' ∧ z'.firm [111, 119, 110] [48, 49, 50, 51, 52, 53, 54, 55, 56, 57, 97, 98, 99]) := fun w4 z h hl hh =>
               (st_append h hl (by omega) ⟨#[108, 111, 111, 115, 101]⟩ ⟨#[120]⟩ (by decide) (by decide) (by decide)).mono fun e w' ⟨he, h'⟩ => ⟨he, _, h', hl.puts _ _, hh.puts h.rises (by decide) _⟩
             have HCR : Hid (∀ w5 z, Stand Try.prog W f w1.heap.size d (i + 2 + 1 + 1) w5 z → Lull z → z.firm [111, 119, 110] [48, 49, 50, 51, 52, 53, 54, 55, 56, 57, 97, 98, 99] → Calls Try.prog 17 #[.pointer (some ⟨d, 0, none⟩), .int .i64 f.keep, .int .i64 f.torn] w5 fun e w' => e = .returned (.tuple #[]) ∧ ∃ z', Stand Try.prog W f w1.heap.size d (i + 2 + 1 + 1) w' z' ∧ z'.firm [111, 119, 110] [48, 49, 50, 51, 52, 53, 54, 55, 56, 57, 97, 98, 99]) := fun w5 z h hl hh => st_crash h hl hh
             have HUP : Hid (∀ w6 z, Stand Try.prog W f w1.heap.size d (i + 2 + 1 + 1) w6 z → z.firm [111, 119, 110] [48, 49, 50, 51, 52, 53, 54, 55, 56, 57, 97, 98, 99] → Calls Try.prog 18 #[.pointer (some ⟨d, 0, none⟩)] w6 fun e w' => (∃ b, e = .returned (.bool b)) ∧ ∃ z', Stand Try.prog W f w1.heap.size d (i + 2 + 1 + 1) w' z' ∧ z'.down = false ∧ z'.firm [111, 119, 110] [48, 49, 50, 51, 52, 53, 54, 55, 56, 57, 97, 98, 99]) := fun w6 z h hh => st_up h hh
             have HRD : Hid (∀ w7 z, Stand Try.prog W f w1.heap.size d (i + 2 + 1 + 1) w7 z → z.down = false → z.firm [111, 119, 110] [48, 49, 50, 51, 52, 53, 54, 55, 56, 57, 97, 98, 99] → Calls Try.prog 19 #[.pointer (some ⟨d, 0, none⟩), .string ⟨#[111, 119, 110]⟩] w7 fun e w' => e = .returned (.tuple #[.string ⟨#[48, 49, 50, 51, 52, 53, 54, 55, 56, 57, 97, 98, 99]⟩, .int .i64 0]) ∧ w' = w7) := fun w7 z h hd hh => st_read h hd ⟨#[111, 119, 110]⟩ (by decide) (by decide) hh
             go_wp2_with (first
               | (go_at_call 16; refine (HT.out).mono ?_; rintro e w4 ⟨rfl, z4, i4, l4, h4⟩; have G4 := hide (And.intro l4 h4); clear l4 h4; have I4 := hide i4; clear i4; obtain ⟨p4, q4, r4, s4, t4, hx4⟩ := I4.out.side; obtain ⟨x4, -⟩ := cells6s hx4; clear hx4; obtain ⟨y4, v4⟩ := cellsF I4.out.box)
               | (go_at_call 13; refine (HLO.out w4 z4 I4.out G4.out.1 G4.out.2).mono ?_; rintro e w5 ⟨rfl, z5, i5, l5, h5⟩; have G5 := hide (And.intro l5 h5); clear l5 h5; have I5 := hide i5; clear i5; obtain ⟨p5, q5, r5, s5, t5, hx5⟩ := I5.out.side; obtain ⟨x5, -⟩ := cells6s hx5; clear hx5; obtain ⟨y5, v5⟩ := cellsF I5.out.box)
               | (go_at_call 17; refine (HCR.out w5 z5 I5.out G5.out.1 G5.out.2).mono ?_; rintro e w6 ⟨rfl, z6, i6, h6⟩; have G6 := hide h6; clear h6; have I6 := hide i6; clear i6; obtain ⟨p6, q6, r6, s6, t6, hx6⟩ := I6.out.side; obtain ⟨x6, -⟩ := cells6s hx6; clear hx6; obtain ⟨y6, v6⟩ := cellsF I6.out.box)
               | (go_at_call 18; refine (HUP.out w6 z6 I6.out G6.out).mono ?_; rintro e w7 ⟨⟨b7, rfl⟩, z7, i7, l7, h7⟩; have G7 := hide (And.intro l7 h7); clear l7 h7; have I7 := hide i7; clear i7; obtain ⟨p7, q7, r7, s7, t7, hx7⟩ := I7.out.side; obtain ⟨x7, -⟩ := cells6s hx7; clear hx7; obtain ⟨y7, v7⟩ := cellsF I7.out.box)
               | (go_at_call 19; refine (HRD.out w7 z7 I7.out G7.out.1 G7.out.2).mono ?_; rintro e w8 ⟨rfl, rfl⟩)
               | (go_at_call 11; refine (HAWAKE.out _).mono ?_; rintro e w9 ⟨rfl, k9⟩; have K9 := hide k9; clear k9))
             go_ret
             exact ⟨rfl, I7.out.below.trans (K9.out.mono I7.out.below.size)⟩)
      · have hin : i = n := by omega
        subst hin
        go_upto_region 7 with fail
        go_region_with (first
          | (go_at_call 12; refine (HW.out _ (by first | exact Below.refl _ _ | exact ⟨rfl, rfl, rfl, Nat.le_refl _, fun _ _ => rfl⟩)).mono ?_; rintro e w2 ⟨rfl, z2, i2, l2, h2⟩; have G2 := hide (And.intro l2 h2); clear l2 h2; have I2 := hide i2; clear i2; obtain ⟨p2, q2, r2, s2, t2, hx2⟩ := I2.out.side; obtain ⟨x2, -⟩ := cells6s hx2; clear hx2; obtain ⟨y2, v2⟩ := cellsF I2.out.box)
          | (go_at_call 13; refine (HAP.out w2 _ z2 I2.out G2.out.1 G2.out.2 (by first | exact Below.refl _ _ | exact ⟨rfl, rfl, rfl, Nat.le_refl _, fun _ _ => rfl⟩)).mono ?_; rintro e w3 ⟨rfl, z3, i3, l3, h3⟩; have G3 := hide (And.intro l3 h3); clear l3 h3; have I3 := hide i3; clear i3; obtain ⟨p3, q3, r3, s3, t3, hx3⟩ := I3.out.side; obtain ⟨x3, -⟩ := cells6s hx3; clear hx3; obtain ⟨y3, v3⟩ := cellsF I3.out.box))
        all_goals clear HW HAP
        all_goals rcases (show m = 0 ∨ m = 1 ∨ m = 2 ∨ m = 3 by omega) with hm' | hm' | hm' | hm'
        all_goals first
          | (have hmm : m = 0 := hm'
             have hand3 : bits .and .i64 how 3 = 0 := by rw [hand2, hmm]; rfl
             clear hand2 hm' hmm
             have HT : Hid (Calls Try.prog 14 #[.pointer (some ⟨d, 0, none⟩)] w3 fun e w' => e = .returned (.int .i64 0) ∧ ∃ z', Stand Try.prog W f w1.heap.size d (i + 2 + 1) w' z' ∧ Lull z' ∧ z'.firm [111, 119, 110] [48, 49, 50, 51, 52, 53, 54, 55, 56, 57, 97, 98, 99]) := st_sync I3.out G3.out.1 (by omega) G3.out.2
             have HLO : Hid (∀ w4 z, Stand Try.prog W f w1.heap.size d (i + 2 + 1) w4 z → Lull z → z.firm [111, 119, 110] [48, 49, 50, 51, 52, 53, 54, 55, 56, 57, 97, 98, 99] → Calls Try.prog 13 #[.pointer (some ⟨d, 0, none⟩), .string ⟨#[108, 111, 111, 115, 101]⟩, .string ⟨#[120]⟩] w4 fun e w' => e = .returned (.int .i64 0) ∧ ∃ z', Stand Try.prog W f w1.heap.size d (i + 2 + 1 + 1) w' z' ∧ Lull z' ∧ z'.firm [111, 119, 110] [48, 49, 50, 51, 52, 53, 54, 55, 56, 57, 97, 98, 99]) := fun w4 z h hl hh =>
               (st_append h hl (by omega) ⟨#[108, 111, 111, 115, 101]⟩ ⟨#[120]⟩ (by decide) (by decide) (by decide)).mono fun e w' ⟨he, h'⟩ => ⟨he, _, h', hl.puts _ _, hh.puts h.rises (by decide) _⟩
             have HCR : Hid (∀ w5 z, Stand Try.prog W f w1.heap.size d (i + 2 + 1 + 1) w5 z → Lull z → z.firm [111, 119, 110] [48, 49, 50, 51, 52, 53, 54, 55, 56, 57, 97, 98, 99] → Calls Try.prog 17 #[.pointer (some ⟨d, 0, none⟩), .int .i64 f.keep, .int .i64 f.torn] w5 fun e w' => e = .returned (.tuple #[]) ∧ ∃ z', Stand Try.prog W f w1.heap.size d (i + 2 + 1 + 1) w' z' ∧ z'.firm [111, 119, 110] [48, 49, 50, 51, 52, 53, 54, 55, 56, 57, 97, 98, 99]) := fun w5 z h hl hh => st_crash h hl hh
             have HUP : Hid (∀ w6 z, Stand Try.prog W f w1.heap.size d (i + 2 + 1 + 1) w6 z → z.firm [111, 119, 110] [48, 49, 50, 51, 52, 53, 54, 55, 56, 57, 97, 98, 99] → Calls Try.prog 18 #[.pointer (some ⟨d, 0, none⟩)] w6 fun e w' => (∃ b, e = .returned (.bool b)) ∧ ∃ z', Stand Try.prog W f w1.heap.size d (i + 2 + 1 + 1) w' z' ∧ z'.down = false ∧ z'.firm [111, 119, 110] [48, 49, 50, 51, 52, 53, 54, 55, 56, 57, 97, 98, 99]) := fun w6 z h hh => st_up h hh
             have HRD : Hid (∀ w7 z, Stand Try.prog W f w1.heap.size d (i + 2 + 1 + 1) w7 z → z.down = false → z.firm [111, 119, 110] [48, 49, 50, 51, 52, 53, 54, 55, 56, 57, 97, 98, 99] → Calls Try.prog 19 #[.pointer (some ⟨d, 0, none⟩), .string ⟨#[111, 119, 110]⟩] w7 fun e w' => e = .returned (.tuple #[.string ⟨#[48, 49, 50, 51, 52, 53, 54, 55, 56, 57, 97, 98, 99]⟩, .int .i64 0]) ∧ w' = w7) := fun w7 z h hd hh => st_read h hd ⟨#[111, 119, 110]⟩ (by decide) (by decide) hh
             go_wp2_with (first
               | (go_at_call 14; refine (HT.out).mono ?_; rintro e w4 ⟨rfl, z4, i4, l4, h4⟩; have G4 := hide (And.intro l4 h4); clear l4 h4; have I4 := hide i4; clear i4; obtain ⟨p4, q4, r4, s4, t4, hx4⟩ := I4.out.side; obtain ⟨x4, -⟩ := cells6s hx4; clear hx4; obtain ⟨y4, v4⟩ := cellsF I4.out.box)
               | (go_at_call 13; refine (HLO.out w4 z4 I4.out G4.out.1 G4.out.2).mono ?_; rintro e w5 ⟨rfl, z5, i5, l5, h5⟩; have G5 := hide (And.intro l5 h5); clear l5 h5; have I5 := hide i5; clear i5; obtain ⟨p5, q5, r5, s5, t5, hx5⟩ := I5.out.side; obtain ⟨x5, -⟩ := cells6s hx5; clear hx5; obtain ⟨y5, v5⟩ := cellsF I5.out.box)
               | (go_at_call 17; refine (HCR.out w5 z5 I5.out G5.out.1 G5.out.2).mono ?_; rintro e w6 ⟨rfl, z6, i6, h6⟩; have G6 := hide h6; clear h6; have I6 := hide i6; clear i6; obtain ⟨p6, q6, r6, s6, t6, hx6⟩ := I6.out.side; obtain ⟨x6, -⟩ := cells6s hx6; clear hx6; obtain ⟨y6, v6⟩ := cellsF I6.out.box)
               | (go_at_call 18; refine (HUP.out w6 z6 I6.out G6.out).mono ?_; rintro e w7 ⟨⟨b7, rfl⟩, z7, i7, l7, h7⟩; have G7 := hide (And.intro l7 h7); clear l7 h7; have I7 := hide i7; clear i7; obtain ⟨p7, q7, r7, s7, t7, hx7⟩ := I7.out.side; obtain ⟨x7, -⟩ := cells6s hx7; clear hx7; obtain ⟨y7, v7⟩ := cellsF I7.out.box)
               | (go_at_call 19; refine (HRD.out w7 z7 I7.out G7.out.1 G7.out.2).mono ?_; rintro e w8 ⟨rfl, rfl⟩)
               | (go_at_call 11; refine (HAWAKE.out _).mono ?_; rintro e w9 ⟨rfl, k9⟩; have K9 := hide k9; clear k9))
             go_ret
             exact ⟨rfl, I7.out.below.trans (K9.out.mono I7.out.below.size)⟩)
          | (have hmm : m = 1 := hm'
             have hand3 : bits .and .i64 how 3 = 1 := by rw [hand2, hmm]; rfl
             clear hand2 hm' hmm
             have HT : Hid (Calls Try.prog 15 #[.pointer (some ⟨d, 0, none⟩), .string ⟨#[111, 119, 110]⟩, .string ⟨#[111, 116, 104, 101, 114, 33]⟩] w3 fun e w' => e = .returned (.int .i64 0) ∧ ∃ z', Stand Try.prog W f w1.heap.size d (i + 2 + 1) w' z' ∧ Lull z' ∧ z'.firm [111, 116, 104, 101, 114, 33] [48, 49, 50, 51, 52, 53, 54, 55, 56, 57, 97, 98, 99]) := st_move I3.out G3.out.1 (by omega) ⟨#[111, 119, 110]⟩ ⟨#[111, 116, 104, 101, 114, 33]⟩ (by decide) (by decide) (by decide) (by decide) (by decide) G3.out.2
             have HLO : Hid (∀ w4 z, Stand Try.prog W f w1.heap.size d (i + 2 + 1) w4 z → Lull z → z.firm [111, 116, 104, 101, 114, 33] [48, 49, 50, 51, 52, 53, 54, 55, 56, 57, 97, 98, 99] → Calls Try.prog 13 #[.pointer (some ⟨d, 0, none⟩), .string ⟨#[108, 111, 111, 115, 101]⟩, .string ⟨#[120]⟩] w4 fun e w' => e = .returned (.int .i64 0) ∧ ∃ z', Stand Try.prog W f w1.heap.size d (i + 2 + 1 + 1) w' z' ∧ Lull z' ∧ z'.firm [111, 116, 104, 101, 114, 33] [48, 49, 50, 51, 52, 53, 54, 55, 56, 57, 97, 98, 99]) := fun w4 z h hl hh =>
               (st_append h hl (by omega) ⟨#[108, 111, 111, 115, 101]⟩ ⟨#[120]⟩ (by decide) (by decide) (by decide)).mono fun e w' ⟨he, h'⟩ => ⟨he, _, h', hl.puts _ _, hh.puts h.rises (by decide) _⟩
             have HCR : Hid (∀ w5 z, Stand Try.prog W f w1.heap.size d (i + 2 + 1 + 1) w5 z → Lull z → z.firm [111, 116, 104, 101, 114, 33] [48, 49, 50, 51, 52, 53, 54, 55, 56, 57, 97, 98, 99] → Calls Try.prog 17 #[.pointer (some ⟨d, 0, none⟩), .int .i64 f.keep, .int .i64 f.torn] w5 fun e w' => e = .returned (.tuple #[]) ∧ ∃ z', Stand Try.prog W f w1.heap.size d (i + 2 + 1 + 1) w' z' ∧ z'.firm [111, 116, 104, 101, 114, 33] [48, 49, 50, 51, 52, 53, 54, 55, 56, 57, 97, 98, 99]) := fun w5 z h hl hh => st_crash h hl hh
             have HUP : Hid (∀ w6 z, Stand Try.prog W f w1.heap.size d (i + 2 + 1 + 1) w6 z → z.firm [111, 116, 104, 101, 114, 33] [48, 49, 50, 51, 52, 53, 54, 55, 56, 57, 97, 98, 99] → Calls Try.prog 18 #[.pointer (some ⟨d, 0, none⟩)] w6 fun e w' => (∃ b, e = .returned (.bool b)) ∧ ∃ z', Stand Try.prog W f w1.heap.size d (i + 2 + 1 + 1) w' z' ∧ z'.down = false ∧ z'.firm [111, 116, 104, 101, 114, 33] [48, 49, 50, 51, 52, 53, 54, 55, 56, 57, 97, 98, 99]) := fun w6 z h hh => st_up h hh
             have HRD : Hid (∀ w7 z, Stand Try.prog W f w1.heap.size d (i + 2 + 1 + 1) w7 z → z.down = false → z.firm [111, 116, 104, 101, 114, 33] [48, 49, 50, 51, 52, 53, 54, 55, 56, 57, 97, 98, 99] → Calls Try.prog 19 #[.pointer (some ⟨d, 0, none⟩), .string ⟨#[111, 116, 104, 101, 114, 33]⟩] w7 fun e w' => e = .returned (.tuple #[.string ⟨#[48, 49, 50, 51, 52, 53, 54, 55, 56, 57, 97, 98, 99]⟩, .int .i64 0]) ∧ w' = w7) := fun w7 z h hd hh => st_read h hd ⟨#[111, 116, 104, 101, 114, 33]⟩ (by decide) (by decide) hh
             go_wp2_with (first
               | (go_at_call 15; refine (HT.out).mono ?_; rintro e w4 ⟨rfl, z4, i4, l4, h4⟩; have G4 := hide (And.intro l4 h4); clear l4 h4; have I4 := hide i4; clear i4; obtain ⟨p4, q4, r4, s4, t4, hx4⟩ := I4.out.side; obtain ⟨x4, -⟩ := cells6s hx4; clear hx4; obtain ⟨y4, v4⟩ := cellsF I4.out.box)
               | (go_at_call 13; refine (HLO.out w4 z4 I4.out G4.out.1 G4.out.2).mono ?_; rintro e w5 ⟨rfl, z5, i5, l5, h5⟩; have G5 := hide (And.intro l5 h5); clear l5 h5; have I5 := hide i5; clear i5; obtain ⟨p5, q5, r5, s5, t5, hx5⟩ := I5.out.side; obtain ⟨x5, -⟩ := cells6s hx5; clear hx5; obtain ⟨y5, v5⟩ := cellsF I5.out.box)
               | (go_at_call 17; refine (HCR.out w5 z5 I5.out G5.out.1 G5.out.2).mono ?_; rintro e w6 ⟨rfl, z6, i6, h6⟩; have G6 := hide h6; clear h6; have I6 := hide i6; clear i6; obtain ⟨p6, q6, r6, s6, t6, hx6⟩ := I6.out.side; obtain ⟨x6, -⟩ := cells6s hx6; clear hx6; obtain ⟨y6, v6⟩ := cellsF I6.out.box)
               | (go_at_call 18; refine (HUP.out w6 z6 I6.out G6.out).mono ?_; rintro e w7 ⟨⟨b7, rfl⟩, z7, i7, l7, h7⟩; have G7 := hide (And.intro l7 h7); clear l7 h7; have I7 := hide i7; clear i7; obtain ⟨p7, q7, r7, s7, t7, hx7⟩ := I7.out.side; obtain ⟨x7, -⟩ := cells6s hx7; clear hx7; obtain ⟨y7, v7⟩ := cellsF I7.out.box)
               | (go_at_call 19; refine (HRD.out w7 z7 I7.out G7.out.1 G7.out.2).mono ?_; rintro e w8 ⟨rfl, rfl⟩)
               | (go_at_call 11; refine (HAWAKE.out _).mono ?_; rintro e w9 ⟨rfl, k9⟩; have K9 := hide k9; clear k9))
             go_ret
             exact ⟨rfl, I7.out.below.trans (K9.out.mono I7.out.below.size)⟩)
          | (have hmm : m = 2 := hm'
             have hand3 : bits .and .i64 how 3 = 2 := by rw [hand2, hmm]; rfl
             clear hand2 hm' hmm
             have HT : Hid (Calls Try.prog 16 #[.pointer (some ⟨d, 0, none⟩), .string ⟨#[111, 119, 110]⟩, .int .i64 13] w3 fun e w' => e = .returned (.int .i64 0) ∧ ∃ z', Stand Try.prog W f w1.heap.size d (i + 2 + 1) w' z' ∧ Lull z' ∧ z'.firm [111, 119, 110] [48, 49, 50, 51, 52, 53, 54, 55, 56, 57, 97, 98, 99]) := st_trunc I3.out G3.out.1 (by omega) ⟨#[111, 119, 110]⟩ rfl (by decide) (by decide) G3.out.2
             have HLO : Hid (∀ w4 z, Stand Try.prog W f w1.heap.size d (i + 2 + 1) w4 z → Lull z → z.firm [111, 119, 110] [48, 49, 50, 51, 52, 53, 54, 55, 56, 57, 97, 98, 99] → Calls Try.prog 13 #[.pointer (some ⟨d, 0, none⟩), .string ⟨#[108, 111, 111, 115, 101]⟩, .string ⟨#[120]⟩] w4 fun e w' => e = .returned (.int .i64 0) ∧ ∃ z', Stand Try.prog W f w1.heap.size d (i + 2 + 1 + 1) w' z' ∧ Lull z' ∧ z'.firm [111, 119, 110] [48, 49, 50, 51, 52, 53, 54, 55, 56, 57, 97, 98, 99]) := fun w4 z h hl hh =>
               (st_append h hl (by omega) ⟨#[108, 111, 111, 115, 101]⟩ ⟨#[120]⟩ (by decide) (by decide) (by decide)).mono fun e w' ⟨he, h'⟩ => ⟨he, _, h', hl.puts _ _, hh.puts h.rises (by decide) _⟩
             have HCR : Hid (∀ w5 z, Stand Try.prog W f w1.heap.size d (i + 2 + 1 + 1) w5 z → Lull z → z.firm [111, 119, 110] [48, 49, 50, 51, 52, 53, 54, 55, 56, 57, 97, 98, 99] → Calls Try.prog 17 #[.pointer (some ⟨d, 0, none⟩), .int .i64 f.keep, .int .i64 f.torn] w5 fun e w' => e = .returned (.tuple #[]) ∧ ∃ z', Stand Try.prog W f w1.heap.size d (i + 2 + 1 + 1) w' z' ∧ z'.firm [111, 119, 110] [48, 49, 50, 51, 52, 53, 54, 55, 56, 57, 97, 98, 99]) := fun w5 z h hl hh => st_crash h hl hh
             have HUP : Hid (∀ w6 z, Stand Try.prog W f w1.heap.size d (i + 2 + 1 + 1) w6 z → z.firm [111, 119, 110] [48, 49, 50, 51, 52, 53, 54, 55, 56, 57, 97, 98, 99] → Calls Try.prog 18 #[.pointer (some ⟨d, 0, none⟩)] w6 fun e w' => (∃ b, e = .returned (.bool b)) ∧ ∃ z', Stand Try.prog W f w1.heap.size d (i + 2 + 1 + 1) w' z' ∧ z'.down = false ∧ z'.firm [111, 119, 110] [48, 49, 50, 51, 52, 53, 54, 55, 56, 57, 97, 98, 99]) := fun w6 z h hh => st_up h hh
             have HRD : Hid (∀ w7 z, Stand Try.prog W f w1.heap.size d (i + 2 + 1 + 1) w7 z → z.down = false → z.firm [111, 119, 110] [48, 49, 50, 51, 52, 53, 54, 55, 56, 57, 97, 98, 99] → Calls Try.prog 19 #[.pointer (some ⟨d, 0, none⟩), .string ⟨#[111, 119, 110]⟩] w7 fun e w' => e = .returned (.tuple #[.string ⟨#[48, 49, 50, 51, 52, 53, 54, 55, 56, 57, 97, 98, 99]⟩, .int .i64 0]) ∧ w' = w7) := fun w7 z h hd hh => st_read h hd ⟨#[111, 119, 110]⟩ (by decide) (by decide) hh
             go_wp2_with (first
               | (go_at_call 16; refine (HT.out).mono ?_; rintro e w4 ⟨rfl, z4, i4, l4, h4⟩; have G4 := hide (And.intro l4 h4); clear l4 h4; have I4 := hide i4; clear i4; obtain ⟨p4, q4, r4, s4, t4, hx4⟩ := I4.out.side; obtain ⟨x4, -⟩ := cells6s hx4; clear hx4; obtain ⟨y4, v4⟩ := cellsF I4.out.box)
               | (go_at_call 13; refine (HLO.out w4 z4 I4.out G4.out.1 G4.out.2).mono ?_; rintro e w5 ⟨rfl, z5, i5, l5, h5⟩; have G5 := hide (And.intro l5 h5); clear l5 h5; have I5 := hide i5; clear i5; obtain ⟨p5, q5, r5, s5, t5, hx5⟩ := I5.out.side; obtain ⟨x5, -⟩ := cells6s hx5; clear hx5; obtain ⟨y5, v5⟩ := cellsF I5.out.box)
               | (go_at_call 17; refine (HCR.out w5 z5 I5.out G5.out.1 G5.out.2).mono ?_; rintro e w6 ⟨rfl, z6, i6, h6⟩; have G6 := hide h6; clear h6; have I6 := hide i6; clear i6; obtain ⟨p6, q6, r6, s6, t6, hx6⟩ := I6.out.side; obtain ⟨x6, -⟩ := cells6s hx6; clear hx6; obtain ⟨y6, v6⟩ := cellsF I6.out.box)
               | (go_at_call 18; refine (HUP.out w6 z6 I6.out G6.out).mono ?_; rintro e w7 ⟨⟨b7, rfl⟩, z7, i7, l7, h7⟩; have G7 := hide (And.intro l7 h7); clear l7 h7; have I7 := hide i7; clear i7; obtain ⟨p7, q7, r7, s7, t7, hx7⟩ := I7.out.side; obtain ⟨x7, -⟩ := cells6s hx7; clear hx7; obtain ⟨y7, v7⟩ := cellsF I7.out.box)
               | (go_at_call 19; refine (HRD.out w7 z7 I7.out G7.out.1 G7.out.2).mono ?_; rintro e w8 ⟨rfl, rfl⟩)
               | (go_at_call 11; refine (HAWAKE.out _).mono ?_; rintro e w9 ⟨rfl, k9⟩; have K9 := hide k9; clear k9))
             go_ret
             exact ⟨rfl, I7.out.below.trans (K9.out.mono I7.out.below.size)⟩)
          | (have hmm : m = 3 := hm'
             have hand3 : bits .and .i64 how 3 = 3 := by rw [hand2, hmm]; rfl
             clear hand2 hm' hmm
             have HT : Hid (Calls Try.prog 16 #[.pointer (some ⟨d, 0, none⟩), .string ⟨#[111, 119, 110]⟩, .int .i64 13] w3 fun e w' => e = .returned (.int .i64 0) ∧ ∃ z', Stand Try.prog W f w1.heap.size d (i + 2 + 1) w' z' ∧ Lull z' ∧ z'.firm [111, 119, 110] [48, 49, 50, 51, 52, 53, 54, 55, 56, 57, 97, 98, 99]) := st_trunc I3.out G3.out.1 (by omega) ⟨#[111, 119, 110]⟩ rfl (by decide) (by decide) G3.out.2
             have HLO : Hid (∀ w4 z, Stand Try.prog W f w1.heap.size d (i + 2 + 1) w4 z → Lull z → z.firm [111, 119, 110] [48, 49, 50, 51, 52, 53, 54, 55, 56, 57, 97, 98, 99] → Calls Try.prog 13 #[.pointer (some ⟨d, 0, none⟩), .string ⟨#[108, 111, 111, 115, 101]⟩, .string ⟨#[120]⟩] w4 fun e w' => e = .returned (.int .i64 0) ∧ ∃ z', Stand Try.prog W f w1.heap.size d (i + 2 + 1 + 1) w' z' ∧ Lull z' ∧ z'.firm [111, 119, 110] [48, 49, 50, 51, 52, 53, 54, 55, 56, 57, 97, 98, 99]) := fun w4 z h hl hh =>
               (st_append h hl (by omega) ⟨#[108, 111, 111, 115, 101]⟩ ⟨#[120]⟩ (by decide) (by decide) (by decide)).mono fun e w' ⟨he, h'⟩ => ⟨he, _, h', hl.puts _ _, hh.puts h.rises (by decide) _⟩
             have HCR : Hid (∀ w5 z, Stand Try.prog W f w1.heap.size d (i + 2 + 1 + 1) w5 z → Lull z → z.firm [111, 119, 110] [48, 49, 50, 51, 52, 53, 54, 55, 56, 57, 97, 98, 99] → Calls Try.prog 17 #[.pointer (some ⟨d, 0, none⟩), .int .i64 f.keep, .int .i64 f.torn] w5 fun e w' => e = .returned (.tuple #[]) ∧ ∃ z', Stand Try.prog W f w1.heap.size d (i + 2 + 1 + 1) w' z' ∧ z'.firm [111, 119, 110] [48, 49, 50, 51, 52, 53, 54, 55, 56, 57, 97, 98, 99]) := fun w5 z h hl hh => st_crash h hl hh
             have HUP : Hid (∀ w6 z, Stand Try.prog W f w1.heap.size d (i + 2 + 1 + 1) w6 z → z.firm [111, 119, 110] [48, 49, 50, 51, 52, 53, 54, 55, 56, 57, 97, 98, 99] → Calls Try.prog 18 #[.pointer (some ⟨d, 0, none⟩)] w6 fun e w' => (∃ b, e = .returned (.bool b)) ∧ ∃ z', Stand Try.prog W f w1.heap.size d (i + 2 + 1 + 1) w' z' ∧ z'.down = false ∧ z'.firm [111, 119, 110] [48, 49, 50, 51, 52, 53, 54, 55, 56, 57, 97, 98, 99]) := fun w6 z h hh => st_up h hh
             have HRD : Hid (∀ w7 z, Stand Try.prog W f w1.heap.size d (i + 2 + 1 + 1) w7 z → z.down = false → z.firm [111, 119, 110] [48, 49, 50, 51, 52, 53, 54, 55, 56, 57, 97, 98, 99] → Calls Try.prog 19 #[.pointer (some ⟨d, 0, none⟩), .string ⟨#[111, 119, 110]⟩] w7 fun e w' => e = .returned (.tuple #[.string ⟨#[48, 49, 50, 51, 52, 53, 54, 55, 56, 57, 97, 98, 99]⟩, .int .i64 0]) ∧ w' = w7) := fun w7 z h hd hh => st_read h hd ⟨#[111, 119, 110]⟩ (by decide) (by decide) hh
             go_wp2_with (first
               | (go_at_call 16; refine (HT.out).mono ?_; rintro e w4 ⟨rfl, z4, i4, l4, h4⟩; have G4 := hide (And.intro l4 h4); clear l4 h4; have I4 := hide i4; clear i4; obtain ⟨p4, q4, r4, s4, t4, hx4⟩ := I4.out.side; obtain ⟨x4, -⟩ := cells6s hx4; clear hx4; obtain ⟨y4, v4⟩ := cellsF I4.out.box)
               | (go_at_call 13; refine (HLO.out w4 z4 I4.out G4.out.1 G4.out.2).mono ?_; rintro e w5 ⟨rfl, z5, i5, l5, h5⟩; have G5 := hide (And.intro l5 h5); clear l5 h5; have I5 := hide i5; clear i5; obtain ⟨p5, q5, r5, s5, t5, hx5⟩ := I5.out.side; obtain ⟨x5, -⟩ := cells6s hx5; clear hx5; obtain ⟨y5, v5⟩ := cellsF I5.out.box)
               | (go_at_call 17; refine (HCR.out w5 z5 I5.out G5.out.1 G5.out.2).mono ?_; rintro e w6 ⟨rfl, z6, i6, h6⟩; have G6 := hide h6; clear h6; have I6 := hide i6; clear i6; obtain ⟨p6, q6, r6, s6, t6, hx6⟩ := I6.out.side; obtain ⟨x6, -⟩ := cells6s hx6; clear hx6; obtain ⟨y6, v6⟩ := cellsF I6.out.box)
               | (go_at_call 18; refine (HUP.out w6 z6 I6.out G6.out).mono ?_; rintro e w7 ⟨⟨b7, rfl⟩, z7, i7, l7, h7⟩; have G7 := hide (And.intro l7 h7); clear l7 h7; have I7 := hide i7; clear i7; obtain ⟨p7, q7, r7, s7, t7, hx7⟩ := I7.out.side; obtain ⟨x7, -⟩ := cells6s hx7; clear hx7; obtain ⟨y7, v7⟩ := cellsF I7.out.box)
               | (go_at_call 19; refine (HRD.out w7 z7 I7.out G7.out.1 G7.out.2).mono ?_; rintro e w8 ⟨rfl, rfl⟩)
               | (go_at_call 11; refine (HAWAKE.out _).mono ?_; rintro e w9 ⟨rfl, k9⟩; have K9 := hide k9; clear k9))
             go_ret
             exact ⟨rfl, I7.out.below.trans (K9.out.mono I7.out.below.size)⟩)
end Go.Proofs.Ytnjkahoaogeecaa
