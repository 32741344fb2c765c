/- The walk of DiskFallen. -/
import Derived.Test.YtnjkahoaogeecaaDiskActsWalk
import Derived.Test.YtnjkahoaogeecaaDiskFirm
namespace Go.Dk
open Go.RowKit
theorem cells3F {w : World} {g : Nat} {a b c : Value} {T : TypeId} (h : w.heap[g]? = some (.cells #[a, b, c] T (0, 0))) : w.cell? ⟨g, 0, none⟩ = some a ∧ w.cell? ⟨g, 1, none⟩ = some b ∧ w.cell? ⟨g, 2, none⟩ = some c := ⟨cell_of_row _ _ _ _ _ _ h, cell_of_row _ _ _ _ _ _ h, cell_of_row _ _ _ _ _ _ h⟩
/-- Both disks, the law's side, and the document's disk as it was. -/
structure Fell (P : Program) (W : World) (X Y d k K : Nat) (D E : RD) (w : World) : Prop where
  both : ∃ T : WD, Both P (W.heap.size + 1) K d w T E
  side : w.heap[X]? = some (.cells (sideCs d E) 29 (0, 0))
  was : w.heap[Y]? = some (.cells D.cs 27 (0, 0))
  ref : RefAt k w D
  below : Below W.heap.size W w
  ge : W.heap.size ≤ X
  ne : Y ≠ X
theorem Fell.under {P : Program} {W : World} {X Y d k K : Nat} {D E : RD} {w w' : World} (h : Fell P W X Y d k K D E w) (hb : Below w.heap.size w w') : Fell P W X Y d k K D E w' := by
  obtain ⟨T, hT⟩ := h.both
  exact ⟨⟨T, hT.below hb⟩, row_kept h.side hb, row_kept h.was hb, h.ref.below hb, h.below.trans (hb.mono h.below.size), h.ge, h.ne⟩
/-- Behind something that is done, and its answer stored. -/
theorem Fell.stored {P : Program} {W : World} {X Y d k K K' : Nat} {D E E' : RD} {w w1 w2 : World} {T : WD} (h : Fell P W X Y d k K D E w) (hB : Both P (W.heap.size + 1) K' d w1 T E') (hk : Dsk (W.heap.size + 1) w w1) (t : Tch (· = X) w1 w2) (hx : w2.heap[X]? = some (.cells (sideCs d E') 29 (0, 0))) : Fell P W X Y d k K' D E' w2 := by
  obtain ⟨S, hS⟩ := h.both
  have r1 := box_kept hk h.side (by simp [dkind])
  have r2 := box_kept hk h.was (by simp [dkind])
  have hb1 := hk.below hS.start
  have hb : Below W.heap.size W w1 := h.below.trans (hb1.mono (Nat.le_succ _))
  refine ⟨⟨T, hB.turned r1 t⟩, hx, tch_kept r2 t h.ne, (h.ref.dsk hk).kept t.size fun b k ht => ?_, ⟨t.os.trans hb.os, t.tape.trans hb.tape, t.output.trans hb.output, Nat.le_trans hb.size t.size, fun j hj => (t.block j (Nat.lt_of_lt_of_le hj hb.size) (by have := h.ge; intro e; omega)).trans (hb.block j hj)⟩, h.ge, h.ne⟩
  obtain ⟨cs', fr, hb⟩ := tag_some ht
  refine t.block b (block_lt hb) fun e => ?_
  rw [e, tag_of r1] at ht
  exact rowTag_ne29 k (Option.some.inj ht).symm
theorem any_name {l : List RF} {nm : Bs} (h : ∃ r ∈ l, r.a.name = nm) : (l.any fun r => decide (r.a.name = nm)) = true := by
  obtain ⟨r, hr, he⟩ := h
  exact List.any_eq_true.2 ⟨r, hr, by simpa using he⟩
end Go.Dk
namespace Go.Proofs.Ytnjkahoaogeecaa
open Go.RowKit Go.Dk
set_option maxRecDepth 100000 in
set_option maxHeartbeats 4000000 in
theorem diskFallen_any (v : Value) (n : Nat) (gs : Nat → Ac) (f : Fall) (W : World) (hs : Wire.SRow W 8 v n (fun j => (gs j).cell)) (hf : ∀ j, j < n → (gs j).Fits) (hn : n ≤ maxLen) :
    Calls Try.prog 5 #[v, .agg #[.int .i64 f.on, .int .i64 f.keep, .int .i64 f.torn]] W fun e w' => e = .returned (.bool true) ∧ Below W.heap.size W w' := by
  obtain ⟨va, vc, rfl⟩ := hs.form
  unfold maxLen at hn
  have HA : Hid (∀ i, i < n → ∃ b off, va = some ⟨b, off, none⟩ ∧ b < W.heap.size ∧ n ≤ vc ∧ ∀ c, c < 8 → W.cell? ⟨b, off + i * 8 + c, none⟩ = some ((gs i).cell c)) := fun i hi => by
    rcases hs with ⟨_, h0⟩ | ⟨b, off, cap, h1, h2, h3, h4⟩
    · omega
    · cases h1
      exact ⟨b, off, rfl, h2, h3, fun c hc => h4 i c hi hc⟩
  have HFIT := hide hf
  have HAWAKE : Hid (∀ w1, Calls Try.prog 11 #[] w1 fun e w' => e = .returned (.bool true) ∧ Below w1.heap.size w1 w') := awake_any
  have kW : Below W.heap.size W (W.alloc (.cells #[.int .i64 f.on, .int .i64 f.keep, .int .i64 f.torn] 34)) := (Below.refl _ _).alloc (Nat.le_refl _) _
  have HFRESH : Hid (Calls Try.prog 8 #[] (W.alloc (.cells #[.int .i64 f.on, .int .i64 f.keep, .int .i64 f.torn] 34)) fun e w' => ∃ d S D fa fc la lc, e = .returned (.agg #[.pointer (some ⟨d, 0, none⟩), .slice fa D.rs.length fc, .int .i64 D.a.room, .slice la (flen D.a.fall) lc, .int .i64 D.a.changes, .bool D.a.down]) ∧ sideCs d D = #[.pointer (some ⟨d, 0, none⟩), .slice fa D.rs.length fc, .int .i64 D.a.room, .slice la (flen D.a.fall) lc, .int .i64 D.a.changes, .bool D.a.down] ∧ Both Try.prog (W.heap.size + 1) 0 d w' S D ∧ Below W.heap.size W w' ∧ w'.heap[W.heap.size]? = some (.cells #[.int .i64 f.on, .int .i64 f.keep, .int .i64 f.torn] 34 (0, 0)) ∧ Lull D.a) := by
    refine (fresh_any (W.alloc (.cells #[.int .i64 f.on, .int .i64 f.keep, .int .i64 f.torn] 34))).mono ?_
    rintro e w' ⟨d, S, D, he, hB, hz, hb⟩
    obtain ⟨fa, fc, la, lc, h1⟩ := side_lit hB
    have hsz : (W.alloc (.cells #[.int .i64 f.on, .int .i64 f.keep, .int .i64 f.torn] 34)).heap.size = W.heap.size + 1 := by simp
    rw [hsz] at hB
    exact ⟨d, S, D, fa, fc, la, lc, by rw [he]; unfold sideV; rw [h1], h1, hB, kW.trans (hb.mono kW.size), row_kept (heap_alloc_new W _) hb, by rw [hz]; exact ⟨rfl, rfl, rfl⟩⟩
  clear hs hf kW
  go_enter Try.func5, Try.ntmps5
  go_wp2_with (go_at_call 8; refine (HFRESH.out).mono ?_; rintro e w1 ⟨d, S, D, fa, fc, la, lc, rfl, hside, hB, k1, hbox, hC⟩; have HZ := hide (And.intro hside (And.intro hB (And.intro k1 (And.intro hbox hC)))); clear hside hB k1 hbox hC)
  have hwx : W.heap.size + 1 ≤ w1.heap.size := HZ.out.2.1.start
  have H0 : Hid (∃ (S' : WD) (E : RD), Both Try.prog (W.heap.size + 1) 0 d (w1.alloc (.cells #[.pointer (some ⟨d, 0, none⟩), .slice fa D.rs.length fc, .int .i64 D.a.room, .slice la (flen D.a.fall) lc, .int .i64 D.a.changes, .bool D.a.down] 29)) S' E ∧ (w1.alloc (.cells #[.pointer (some ⟨d, 0, none⟩), .slice fa D.rs.length fc, .int .i64 D.a.room, .slice la (flen D.a.fall) lc, .int .i64 D.a.changes, .bool D.a.down] 29)).heap[w1.heap.size]? = some (.cells (sideCs d E) 29 (0, 0)) ∧ Below W.heap.size W (w1.alloc (.cells #[.pointer (some ⟨d, 0, none⟩), .slice fa D.rs.length fc, .int .i64 D.a.room, .slice la (flen D.a.fall) lc, .int .i64 D.a.changes, .bool D.a.down] 29)) ∧ (w1.alloc (.cells #[.pointer (some ⟨d, 0, none⟩), .slice fa D.rs.length fc, .int .i64 D.a.room, .slice la (flen D.a.fall) lc, .int .i64 D.a.changes, .bool D.a.down] 29)).heap[W.heap.size]? = some (.cells #[.int .i64 f.on, .int .i64 f.keep, .int .i64 f.torn] 34 (0, 0)) ∧ Lull E.a) := by
    have kb : Below w1.heap.size w1 (w1.alloc (.cells #[.pointer (some ⟨d, 0, none⟩), .slice fa D.rs.length fc, .int .i64 D.a.room, .slice la (flen D.a.fall) lc, .int .i64 D.a.changes, .bool D.a.down] 29)) := (Below.refl _ _).alloc (Nat.le_refl _) _
    exact ⟨S, D, HZ.out.2.1.below kb, by rw [HZ.out.1]; exact heap_alloc_new _ _, HZ.out.2.2.1.trans (kb.mono HZ.out.2.2.1.size), row_kept HZ.out.2.2.2.1 kb, HZ.out.2.2.2.2⟩
  clear HFRESH HZ
  go_loopw [6] (fun vi wr => ∃ i : Nat, i ≤ n ∧ i ≤ 30 ∧ vi = .int .i64 i ∧ Hid (∃ (S' : WD) (E : RD), Both Try.prog (W.heap.size + 1) i d wr S' E ∧ wr.heap[w1.heap.size]? = some (.cells (sideCs d E) 29 (0, 0)) ∧ Below W.heap.size W wr ∧ wr.heap[W.heap.size]? = some (.cells #[.int .i64 f.on, .int .i64 f.keep, .int .i64 f.torn] 34 (0, 0)) ∧ Lull E.a)) (fun vi _ => 30 - (intOf vi).toNat)
  case atStart => exact ⟨0, Nat.zero_le _, Nat.zero_le _, rfl, H0.out⟩
  case round =>
    obtain ⟨i, hi, hi60, rfl, HB⟩ := hrel
    clear H0
    by_cases hgo : i < n ∧ i < 30
    · obtain ⟨hlt, hltm⟩ := hgo
      obtain ⟨b, off, hva, hbw, hcap, hcells⟩ := HA.out i hlt
      subst hva
      obtain ⟨S, D, hB, hrow, hb, hbox, hC⟩ := HB.out
      obtain ⟨fa, fc, la, lc, hside⟩ := side_lit hB
      rw [hside] at hrow
      have q : ∀ c, c < 8 → wr.cell? ⟨b, off + i * 8 + c, none⟩ = some ((gs i).cell c) := fun c hc => (hb.cell (p := ⟨b, off + i * 8 + c, none⟩) hbw).trans (hcells c hc)
      have q0 : wr.cell? ⟨b, off + i * 8, none⟩ = some (.int .i64 (gs i).kind) := q 0 (by decide)
      have hbl : b < wr.heap.size := Nat.lt_of_lt_of_le hbw hb.size
      by_cases hbad : (gs i).kind < 0 ∨ 6 ≤ (gs i).kind
      · have HNX : Hid (∃ (S' : WD) (E : RD), Both Try.prog (W.heap.size + 1) (i + 1) d wr S' E ∧ wr.heap[w1.heap.size]? = some (.cells (sideCs d E) 29 (0, 0)) ∧ Below W.heap.size W wr ∧ wr.heap[W.heap.size]? = some (.cells #[.int .i64 f.on, .int .i64 f.keep, .int .i64 f.torn] 34 (0, 0)) ∧ Lull E.a) := ⟨S, D, hB.more (by omega), by rw [hside]; exact hrow, hb, hbox, hC⟩
        clear q hcells hB hrow hb hside HB hbox hC
        rcases hbad with hbad | hbad
        · have hd0 : decide (0 ≤ (gs i).kind) = false := decide_eq_false (by omega)
          go_wp2_with fail
          exact ⟨⟨i + 1, by omega, by omega, by go_num, HNX.out⟩, by simp [intOf]; omega⟩
        · have hd0 : decide (0 ≤ (gs i).kind) = true := decide_eq_true (by omega)
          have hd6 : decide ((gs i).kind < 6) = false := decide_eq_false (by omega)
          go_wp2_with fail
          exact ⟨⟨i + 1, by omega, by omega, by go_num, HNX.out⟩, by simp [intOf]; omega⟩
      have h0 : 0 ≤ (gs i).kind := by omega
      have h6 : (gs i).kind < 6 := by omega
      have hd0 : decide (0 ≤ (gs i).kind) = true := decide_eq_true h0
      have hd6 : decide ((gs i).kind < 6) = true := decide_eq_true h6
      have HACT : Hid (∀ U, Below wr.heap.size wr U → Calls Try.prog 9 #[.agg #[.pointer (some ⟨d, 0, none⟩), .slice fa D.rs.length fc, .int .i64 D.a.room, .slice la (flen D.a.fall) lc, .int .i64 D.a.changes, .bool D.a.down], .agg #[.int .i64 (gs i).kind, .string (gs i).name, .string (gs i).dst, .string (gs i).s, .int .i64 (gs i).n, .int .i64 (gs i).f.on, .int .i64 (gs i).f.keep, .int .i64 (gs i).f.torn]] U fun e w' => ∃ T D' fa' fc' la' lc', e = .returned (.tuple #[.agg #[.pointer (some ⟨d, 0, none⟩), .slice fa' D'.rs.length fc', .int .i64 D'.a.room, .slice la' (flen D'.a.fall) lc', .int .i64 D'.a.changes, .bool D'.a.down], .bool true]) ∧ sideCs d D' = #[.pointer (some ⟨d, 0, none⟩), .slice fa' D'.rs.length fc', .int .i64 D'.a.room, .slice la' (flen D'.a.fall) lc', .int .i64 D'.a.changes, .bool D'.a.down] ∧ Both Try.prog (W.heap.size + 1) (i + 1) d w' T D' ∧ Below W.heap.size W w' ∧ w'.heap[w1.heap.size]? = some (.cells #[.pointer (some ⟨d, 0, none⟩), .slice fa D.rs.length fc, .int .i64 D.a.room, .slice la (flen D.a.fall) lc, .int .i64 D.a.changes, .bool D.a.down] 29 (0, 0)) ∧ w'.heap[W.heap.size]? = some (.cells #[.int .i64 f.on, .int .i64 f.keep, .int .i64 f.torn] 34 (0, 0)) ∧ Lull D'.a) := fun U hU => by
        have := act_any (W.heap.size + 1) i d S D (gs i) U (hB.below hU) (HFIT.out i hlt) (by omega)
        unfold sideV Ac.v Ac.cs at this
        rw [hside] at this
        refine this.mono ?_
        rintro e w' ⟨T, D', he, hB', hD', hk⟩
        obtain ⟨fa', fc', la', lc', h1⟩ := side_lit hB'
        have hk2 : Dsk (W.heap.size + 1) wr w' := (Dsk.of_below hU).trans hk
        exact ⟨T, D', fa', fc', la', lc', by rw [he]; unfold sideV; rw [h1], h1, hB', hb.trans ((hk2.below hB.start).mono (Nat.le_succ _)), box_kept hk2 hrow (by simp [dkind]), (hk2.block _ (block_lt hbox) (by rintro ⟨hge, _⟩; omega)).trans hbox, by rw [hD']; exact hC.act (gs i) h0 h6⟩
      have q1 : wr.cell? ⟨b, off + i * 8 + 1, none⟩ = some (.string (gs i).name) := q 1 (by decide)
      have q2 : wr.cell? ⟨b, off + i * 8 + 2, none⟩ = some (.string (gs i).dst) := q 2 (by decide)
      have q3 : wr.cell? ⟨b, off + i * 8 + 3, none⟩ = some (.string (gs i).s) := q 3 (by decide)
      have q4 : wr.cell? ⟨b, off + i * 8 + 4, none⟩ = some (.int .i64 (gs i).n) := q 4 (by decide)
      have q5 : wr.cell? ⟨b, off + i * 8 + 5, none⟩ = some (.int .i64 (gs i).f.on) := q 5 (by decide)
      have q6 : wr.cell? ⟨b, off + i * 8 + 6, none⟩ = some (.int .i64 (gs i).f.keep) := q 6 (by decide)
      have q7 : wr.cell? ⟨b, off + i * 8 + 7, none⟩ = some (.int .i64 (gs i).f.torn) := q 7 (by decide)
      obtain ⟨c0, c1, c2, c3, c4, c5⟩ := cells6s hrow
      clear q hcells hB hrow hb hside HB hbox hC hbad h0 h6
      go_upto_region 6 with fail
      go_region_with (go_at_call 9; refine (HACT.out _ (by first | exact ⟨rfl, rfl, rfl, Nat.le_refl _, fun _ _ => rfl⟩ | exact Below.refl _ _)).mono ?_; rintro e w2 ⟨T, D', fa', fc', la', lc', rfl, hside', hB', hb', r3, hbox', hC'⟩; have HQ := hide (And.intro hside' (And.intro hB' (And.intro hb' (And.intro r3 (And.intro hbox' hC'))))); obtain ⟨d0, d1, d2, d3, d4, d5⟩ := cells6s r3; obtain ⟨f0, f1, f2, f3, f4, f5⟩ := frozen6s r3; clear hside' hB' hb' r3 hbox' hC')
      all_goals go_wp2
      all_goals
        have t2 := tch_set6 w2 w1.heap.size (.pointer (some ⟨d, 0, none⟩)) (.slice fa' D'.rs.length fc') (.int .i64 D'.a.room) (.slice la' (flen D'.a.fall) lc') (.int .i64 D'.a.changes) (.bool D'.a.down)
        have hbw2 := HQ.out.2.2.1
        refine ⟨⟨i + 1, by omega, by omega, by go_num, T, D', HQ.out.2.1.turned HQ.out.2.2.2.1 t2, by rw [HQ.out.1]; exact set6 HQ.out.2.2.2.1 _ _ _ _ _ _, ⟨t2.os.trans hbw2.os, t2.tape.trans hbw2.tape, t2.output.trans hbw2.output, Nat.le_trans hbw2.size t2.size, fun k hk => (t2.block k (Nat.lt_of_lt_of_le hk hbw2.size) (by omega)).trans (hbw2.block k hk)⟩, tch_kept HQ.out.2.2.2.2.1 t2 (by omega), HQ.out.2.2.2.2.2⟩, by simp [intOf]; omega⟩
    · obtain ⟨S, D, hB, hrow, hb, hbox, hC⟩ := HB.out
      obtain ⟨fa, fc, la, lc, hside⟩ := side_lit hB
      rw [hside] at hrow
      obtain ⟨c0, c1, c2, c3, c4, c5⟩ := cells6s hrow
      obtain ⟨y0, y1, y2⟩ := cells3F hbox
      have hxl : w1.heap.size < wr.heap.size := block_lt hrow
      have hWl : W.heap.size < wr.heap.size := block_lt hbox
      have hDcs : D.cs = #[.slice fa D.rs.length fc, .int .i64 D.a.room, .slice la (flen D.a.fall) lc, .int .i64 D.a.changes, .bool D.a.down] := by
        have := hside
        unfold sideCs at this
        unfold RD.cs
        simpa using this
      have F0 : Hid (Fell Try.prog W w1.heap.size wr.heap.size d i i D D (wr.alloc (.cells #[.slice fa D.rs.length fc, .int .i64 D.a.room, .slice la (flen D.a.fall) lc, .int .i64 D.a.changes, .bool D.a.down] 27))) := by
        have kb : Below wr.heap.size wr (wr.alloc (.cells #[.slice fa D.rs.length fc, .int .i64 D.a.room, .slice la (flen D.a.fall) lc, .int .i64 D.a.changes, .bool D.a.down] 27)) := (Below.refl _ _).alloc (Nat.le_refl _) _
        exact ⟨⟨S, hB.below kb⟩, by rw [hside]; exact row_kept hrow kb, by rw [hDcs]; exact heap_alloc_new _ _, hB.ref.below kb, hb.trans (kb.mono hb.size), by omega, by omega⟩
      have HC := hide (And.intro hC (And.intro hside hDcs))
      have HACT6 : Hid (Calls Try.prog 9 #[.agg #[.pointer (some ⟨d, 0, none⟩), .slice fa D.rs.length fc, .int .i64 D.a.room, .slice la (flen D.a.fall) lc, .int .i64 D.a.changes, .bool D.a.down], .agg #[.int .i64 6, .string ⟨#[]⟩, .string ⟨#[]⟩, .string ⟨#[]⟩, .int .i64 0, .int .i64 f.on, .int .i64 f.keep, .int .i64 f.torn]] (wr.alloc (.cells #[.slice fa D.rs.length fc, .int .i64 D.a.room, .slice la (flen D.a.fall) lc, .int .i64 D.a.changes, .bool D.a.down] 27)) fun e w' => ∃ T D2 fa2 fc2 la2 lc2, e = .returned (.tuple #[.agg #[.pointer (some ⟨d, 0, none⟩), .slice fa2 D2.rs.length fc2, .int .i64 D2.a.room, .slice la2 (flen D2.a.fall) lc2, .int .i64 D2.a.changes, .bool D2.a.down], .bool true]) ∧ sideCs d D2 = #[.pointer (some ⟨d, 0, none⟩), .slice fa2 D2.rs.length fc2, .int .i64 D2.a.room, .slice la2 (flen D2.a.fall) lc2, .int .i64 D2.a.changes, .bool D2.a.down] ∧ D2.a = D.a.crash f.keep f.torn ∧ Both Try.prog (W.heap.size + 1) (i + 1) d w' T D2 ∧ Dsk (W.heap.size + 1) (wr.alloc (.cells #[.slice fa D.rs.length fc, .int .i64 D.a.room, .slice la (flen D.a.fall) lc, .int .i64 D.a.changes, .bool D.a.down] 27)) w' ∧ w'.heap[w1.heap.size]? = some (.cells #[.pointer (some ⟨d, 0, none⟩), .slice fa D.rs.length fc, .int .i64 D.a.room, .slice la (flen D.a.fall) lc, .int .i64 D.a.changes, .bool D.a.down] 29 (0, 0))) := by
        obtain ⟨T, hT⟩ := F0.out.both
        have := act_6 (W.heap.size + 1) i d T D ⟨6, ⟨#[]⟩, ⟨#[]⟩, ⟨#[]⟩, 0, f⟩ (wr.alloc (.cells #[.slice fa D.rs.length fc, .int .i64 D.a.room, .slice la (flen D.a.fall) lc, .int .i64 D.a.changes, .bool D.a.down] 27)) hT (by omega) rfl
        unfold sideV Ac.v Ac.cs at this
        rw [hside] at this
        refine this.mono ?_
        rintro e w' ⟨T', D2, he, hB', hD', hk⟩
        obtain ⟨fa2, fc2, la2, lc2, h1⟩ := side_lit hB'
        exact ⟨T', D2, fa2, fc2, la2, lc2, by rw [he]; unfold sideV; rw [h1], h1, by rw [hD', act_kind6 rfl], hB', hk, by rw [← hside]; exact box_kept hk F0.out.side (by simp [dkind])⟩
      clear hB hrow hb hbox hC hside HB HA HFIT hDcs
      by_cases hlt : i < n
      · have hd30 : decide ((i : Int) < 30) = false := decide_eq_false (by omega)
        go_upto_region 9 with (go_at_call 9; refine (HACT6.out).mono ?_; rintro e w2 ⟨T2, D2, fa2, fc2, la2, lc2, rfl, hs2, ha2, hB2, hk2, r2⟩; have Q2 := hide (And.intro hs2 (And.intro ha2 (And.intro hB2 (And.intro hk2 r2)))); obtain ⟨d0, d1, d2, d3, d4, d5⟩ := cells6s r2; obtain ⟨f0, f1, f2, f3, f4, f5⟩ := frozen6s r2; clear hs2 ha2 hB2 hk2 r2 HACT6)
        obtain ⟨w3, hw3⟩ : ∃ w3, w3 = put5 (w2.setCell ⟨w1.heap.size, 0, none⟩ (.pointer (some ⟨d, 0, none⟩))) w1.heap.size (.slice fa2 D2.rs.length fc2) (.int .i64 D2.a.room) (.slice la2 (flen D2.a.fall) lc2) (.int .i64 D2.a.changes) (.bool D2.a.down) := ⟨_, rfl⟩
        have F3 : Hid (Fell Try.prog W w1.heap.size wr.heap.size d i (i + 1) D D2 w3) := by
          rw [hw3]
          exact F0.out.stored Q2.out.2.2.1 Q2.out.2.2.2.1 (tch_set6 w2 w1.heap.size (.pointer (some ⟨d, 0, none⟩)) (.slice fa2 D2.rs.length fc2) (.int .i64 D2.a.room) (.slice la2 (flen D2.a.fall) lc2) (.int .i64 D2.a.changes) (.bool D2.a.down)) (by rw [Q2.out.1]; exact set6 Q2.out.2.2.2.2 _ _ _ _ _ _)
        have HD2 := hide (And.intro Q2.out.1 Q2.out.2.1)
        unfold put5 at hw3
        rw [← hw3]
        clear hw3 d0 d1 d2 d3 d4 d5 f0 f1 f2 f3 f4 f5 F0 Q2 c0 c1 c2 c3 c4 c5 y0 y1 y2
        have HACT7 : Hid (Calls Try.prog 9 #[.agg #[.pointer (some ⟨d, 0, none⟩), .slice fa2 D2.rs.length fc2, .int .i64 D2.a.room, .slice la2 (flen D2.a.fall) lc2, .int .i64 D2.a.changes, .bool D2.a.down], .agg #[.int .i64 7, .string ⟨#[]⟩, .string ⟨#[]⟩, .string ⟨#[]⟩, .int .i64 0, .int .i64 0, .int .i64 0, .int .i64 0]] w3 fun e w' => ∃ T D3 fa3 fc3 la3 lc3, e = .returned (.tuple #[.agg #[.pointer (some ⟨d, 0, none⟩), .slice fa3 D3.rs.length fc3, .int .i64 D3.a.room, .slice la3 (flen D3.a.fall) lc3, .int .i64 D3.a.changes, .bool D3.a.down], .bool true]) ∧ sideCs d D3 = #[.pointer (some ⟨d, 0, none⟩), .slice fa3 D3.rs.length fc3, .int .i64 D3.a.room, .slice la3 (flen D3.a.fall) lc3, .int .i64 D3.a.changes, .bool D3.a.down] ∧ D3.a = { D2.a with down := false } ∧ Both Try.prog (W.heap.size + 1) (i + 1 + 1) d w' T D3 ∧ Dsk (W.heap.size + 1) w3 w' ∧ w'.heap[w1.heap.size]? = some (.cells #[.pointer (some ⟨d, 0, none⟩), .slice fa2 D2.rs.length fc2, .int .i64 D2.a.room, .slice la2 (flen D2.a.fall) lc2, .int .i64 D2.a.changes, .bool D2.a.down] 29 (0, 0))) := by
          obtain ⟨T, hT⟩ := F3.out.both
          have := act_7 (W.heap.size + 1) (i + 1) d T D2 ⟨7, ⟨#[]⟩, ⟨#[]⟩, ⟨#[]⟩, 0, ⟨0, 0, 0⟩⟩ w3 hT (by omega) rfl
          unfold sideV Ac.v Ac.cs at this
          rw [HD2.out.1] at this
          refine this.mono ?_
          rintro e w' ⟨T', D3, he, hB', hD', hk⟩
          obtain ⟨fa3, fc3, la3, lc3, h1⟩ := side_lit hB'
          exact ⟨T', D3, fa3, fc3, la3, lc3, by rw [he]; unfold sideV; rw [h1], h1, by rw [hD', act_kind7 rfl], hB', hk, by rw [← HD2.out.1]; exact box_kept hk F3.out.side (by simp [dkind])⟩
        have z3 := F3.out.side
        rw [HD2.out.1] at z3
        obtain ⟨c0, c1, c2, c3, c4, c5⟩ := cells6s z3
        clear z3
        go_upto_region 10 with (go_at_call 9; refine (HACT7.out).mono ?_; rintro e w4 ⟨T4, D3, fa3, fc3, la3, lc3, rfl, hs2, ha2, hB2, hk2, r2⟩; have Q2 := hide (And.intro hs2 (And.intro ha2 (And.intro hB2 (And.intro hk2 r2)))); obtain ⟨d0, d1, d2, d3, d4, d5⟩ := cells6s r2; obtain ⟨f0, f1, f2, f3, f4, f5⟩ := frozen6s r2; clear hs2 ha2 hB2 hk2 r2 HACT7)
        obtain ⟨w5, hw5⟩ : ∃ w5, w5 = put5 (w4.setCell ⟨w1.heap.size, 0, none⟩ (.pointer (some ⟨d, 0, none⟩))) w1.heap.size (.slice fa3 D3.rs.length fc3) (.int .i64 D3.a.room) (.slice la3 (flen D3.a.fall) lc3) (.int .i64 D3.a.changes) (.bool D3.a.down) := ⟨_, rfl⟩
        obtain ⟨Y, hY⟩ : ∃ Y, Y = wr.heap.size := ⟨_, rfl⟩
        have F5 : Hid (Fell Try.prog W w1.heap.size Y d i (i + 1 + 1) D D3 w5) := by
          rw [hw5, hY]
          exact F3.out.stored Q2.out.2.2.1 Q2.out.2.2.2.1 (tch_set6 w4 w1.heap.size (.pointer (some ⟨d, 0, none⟩)) (.slice fa3 D3.rs.length fc3) (.int .i64 D3.a.room) (.slice la3 (flen D3.a.fall) lc3) (.int .i64 D3.a.changes) (.bool D3.a.down)) (by rw [Q2.out.1]; exact set6 Q2.out.2.2.2.2 _ _ _ _ _ _)
        have HD3 := hide (And.intro Q2.out.1 (And.intro Q2.out.2.1 HD2.out.2))
        unfold put5 at hw5
        rw [← hw5, ← hY]
        clear hw5 d0 d1 d2 d3 d4 d5 f0 f1 f2 f3 f4 f5 Q2 c0 c1 c2 c3 c4 c5 F3
        have HNOW : Hid (looseOf D3.a.files = 0 ∧ ∀ a ∈ D3.a.files, ∃ r ∈ D.rs, r.a.name = a.name) := by
          have hf3 : D3.a.files = (D.a.crash f.keep f.torn).files := by rw [HD3.out.2.1, HD3.out.2.2]
          rw [hf3]
          refine ⟨crash_loose HC.out.1.down _ _, fun a ha => ?_⟩
          obtain ⟨g, hg, he⟩ := crash_names HC.out.1.down _ _ ha
          rw [← F5.out.ref.same] at hg
          obtain ⟨r, hr, hra⟩ := List.mem_map.1 hg
          exact ⟨r, hr, by rw [hra]; exact he⟩
        have HALIKE : Hid (∀ U, Fell Try.prog W w1.heap.size Y d i (i + 1 + 1) D D3 U → Calls Try.prog 10 #[.agg #[.pointer (some ⟨d, 0, none⟩), .slice fa3 D3.rs.length fc3, .int .i64 D3.a.room, .slice la3 (flen D3.a.fall) lc3, .int .i64 D3.a.changes, .bool D3.a.down]] U fun e w' => e = .returned (.bool true) ∧ Below U.heap.size U w') := fun U h => by
          obtain ⟨T, hT⟩ := h.both
          have := alike_any (W.heap.size + 1) (i + 1 + 1) d T D3 U hT
          unfold sideV at this
          rw [HD3.out.1] at this
          exact this
        have HLOOSE : Hid (∀ U, Fell Try.prog W w1.heap.size Y d i (i + 1 + 1) D D3 U → Calls Try.prog 20 #[.pointer (some ⟨d, 0, none⟩)] U fun e w' => e = .returned (.int .i64 0) ∧ Below U.heap.size U w') := fun U h => by
          obtain ⟨T, hT⟩ := h.both
          have := loose_any (W.heap.size + 1) (i + 1 + 1) d T U hT.disk
          rw [hT.same, HNOW.out.1] at this
          exact this
        have HNAMES : Hid (∀ U, Fell Try.prog W w1.heap.size Y d i (i + 1 + 1) D D3 U → Calls Try.prog 21 #[.pointer (some ⟨d, 0, none⟩)] U fun e w' => ∃ (na : Option Addr) (nc : Nat) (ns : List Bs), e = .returned (.slice na ns.length nc) ∧ ns.length ≤ 100000 ∧ (∀ j, j < ns.length → ∃ nm b off, ns[j]? = some nm ∧ na = some ⟨b, off, none⟩ ∧ ns.length ≤ nc ∧ w'.cell? ⟨b, off + j, none⟩ = some (.string ⟨nm.toArray⟩)) ∧ (∀ nm ∈ ns, ∃ r ∈ D.rs, r.a.name = nm) ∧ Below U.heap.size U w') := fun U h => by
          obtain ⟨T, hT⟩ := h.both
          refine (names_any (W.heap.size + 1) (i + 1 + 1) d T U hT.disk).mono ?_
          rintro e w' ⟨v, he, hown, hb⟩
          obtain ⟨na, nc, hv⟩ := RegionOwn.own_form hown
          have hl : (T.fs.map WF.nm).length = T.fs.length := by simp
          have hcnt := hT.disk.count
          refine ⟨na, nc, T.fs.map WF.nm, by rw [he, hv, hl], by rw [hl]; omega, fun j hj => ?_, fun nm hnm => ?_, hb⟩
          · refine ⟨(T.fs.map WF.nm)[j], ?_⟩
            rcases hown.2 with ⟨h1, h2⟩ | ⟨g, cap, cur, h1, _, h3, h4, _, h6, h7⟩
            · rw [hl] at hj; omega
            · rw [h1] at hv
              cases hv
              refine ⟨g, 0, List.getElem?_eq_getElem hj, rfl, by rw [hl]; exact h4, ?_⟩
              rw [Nat.zero_add, cell_of_row _ _ _ _ _ _ h3, ← Array.getElem?_toList]
              have hj' : j < T.fs.length := by rw [hl] at hj; exact hj
              have : (cur.toList.take (T.fs.length * 1))[j]? = cur.toList[j]? := List.getElem?_take_of_lt (by omega)
              rw [← this, h7, List.getElem?_map, List.getElem?_eq_getElem hj]
              rfl
          · obtain ⟨F, hF, rfl⟩ := List.mem_map.1 hnm
            have : F.a ∈ D3.a.files := by rw [← hT.same, ← hT.disk.same]; exact List.mem_map.2 ⟨F, hF, rfl⟩
            exact HNOW.out.2 _ this
        have z5 := F5.out.side
        rw [HD3.out.1] at z5
        obtain ⟨c0, c1, c2, c3, c4, c5⟩ := cells6s z5
        clear z5 HD2 hY
        go_upto_region 13 with (first
          | (go_at_call 11; refine (HAWAKE.out _).mono ?_; rintro e w6 ⟨rfl, k6⟩; have F6 := hide (F5.out.under k6); clear k6; have z6 := F6.out.side; rw [HD3.out.1] at z6; obtain ⟨g0, g1, g2, g3, g4, g5⟩ := cells6s z6; clear z6)
          | (go_at_call 10; refine (HALIKE.out w6 F6.out).mono ?_; rintro e w7 ⟨rfl, k7⟩; have F7 := hide (F6.out.under k7); clear k7; have z7 := F7.out.side; rw [HD3.out.1] at z7; obtain ⟨p0, -⟩ := cells6s z7; clear z7)
          | (go_at_call 20; refine (HLOOSE.out w7 F7.out).mono ?_; rintro e w8 ⟨rfl, k8⟩; have F8 := hide (F7.out.under k8); clear k8; have z8 := F8.out.side; rw [HD3.out.1] at z8; obtain ⟨q0, -⟩ := cells6s z8; clear z8)
          | (go_at_call 21; refine (HNAMES.out w8 F8.out).mono ?_; rintro e w9 ⟨na, nc, ns, rfl, hnl, hns, hin, k9⟩; have F9 := hide (F8.out.under k9); have HNS := hide (And.intro hns hin); clear k9 hns hin))
        have w9c := F9.out.was
        rw [HC.out.2.2] at w9c
        have v0 : w9.cell? ⟨Y, 0, none⟩ = some (.slice fa D.rs.length fc) := cell_of_row _ _ _ _ _ _ w9c
        have HFS : Hid (∀ k, k < D.rs.length → ∃ r b off, D.rs[k]? = some r ∧ fa = some ⟨b, off, none⟩ ∧ D.rs.length ≤ fc ∧ w9.cell? ⟨b, off + k * 4, none⟩ = some (.string ⟨r.a.name.toArray⟩)) := fun k hk => by
          obtain ⟨b, off, cap, h1, h2, h3, h4, -⟩ := F9.out.ref.files.file (List.getElem?_eq_getElem hk)
          have hcs := HC.out.2.2
          unfold RD.cs at hcs
          have hfv : D.fv = .slice fa D.rs.length fc := by
            have := congrArg (fun l : Array Value => l[0]?) hcs
            simpa using this
          rw [hfv] at h1
          cases h1
          exact ⟨_, b, off, List.getElem?_eq_getElem hk, rfl, h2, h4⟩
        have hrl : D.rs.length ≤ 100000 := Nat.le_trans F9.out.ref.count F9.out.ref.lim
        have HEND : Hid (Below W.heap.size W w9) := F9.out.below
        clear w9c F5 F6 F7 F8 HNOW HALIKE HLOOSE HNAMES HD3 HC HAWAKE c0 c1 c2 c3 c4 c5 g0 g1 g2 g3 g4 g5 p0 q0 F9
        go_wp2_with fail
        go_loopw [10] (fun vi wx => ∃ j : Nat, j ≤ ns.length ∧ vi = .int .i64 j ∧ ∃ q, w9.drewN q = wx) (fun vi _ => ns.length - (intOf vi).toNat)
        case atStart => exact ⟨0, Nat.zero_le _, rfl, 0, rfl⟩
        case round =>
          obtain ⟨j, hj, rfl, q, rfl⟩ := hrel
          by_cases hjl : j < ns.length
          · obtain ⟨nm, nb, noff, hnm, hna, hcap, hcell⟩ := HNS.out.1 j hjl
            subst hna
            have HANY := hide (any_name (HNS.out.2 nm (List.mem_of_getElem? hnm)))
            go_wp2_with fail
            go_loopw [11, 12] (fun vt vk wx => ∃ k : Nat, k ≤ D.rs.length ∧ vk = .int .i64 k ∧ (∃ q, w9.drewN q = wx) ∧ vt = .bool ((D.rs.take k).any fun r => decide (r.a.name = nm))) (fun _ vk _ => D.rs.length - (intOf vk).toNat)
            case atStart => exact ⟨0, Nat.zero_le _, rfl, ⟨q, rfl⟩, rfl⟩
            case round =>
              obtain ⟨k, hk, rfl, ⟨q2, rfl⟩, rfl⟩ := hrel
              by_cases hkl : k < D.rs.length
              · obtain ⟨r, rb, roff, hr, hfa, hfc, hrc⟩ := HFS.out k hkl
                subst hfa
                have v0' : (w9.drewN q2).cell? ⟨Y, 0, none⟩ = some (.slice (some ⟨rb, roff, none⟩) D.rs.length fc) := v0
                have hrc' : (w9.drewN q2).cell? ⟨rb, roff + k * 4, none⟩ = some (.string ⟨r.a.name.toArray⟩) := hrc
                have hcell' : (w9.drewN q2).cell? ⟨nb, noff + j, none⟩ = some (.string ⟨nm.toArray⟩) := hcell
                have HNEXT : Hid (((D.rs.take (k + 1)).any fun r => decide (r.a.name = nm)) = (((D.rs.take k).any fun r => decide (r.a.name = nm)) || decide (r.a.name = nm))) := by
                  show _ = _
                  rw [List.take_add_one, hr, List.any_append]
                  simp
                cases hb : (D.rs.take k).any fun r => decide (r.a.name = nm) with
                | true =>
                  go_upto_region 20 with fail
                  go_quiet (fail)
                  go_wp2_with fail
                  exact ⟨⟨k + 1, by omega, by go_num, ⟨_, rfl⟩, by rw [HNEXT.out, hb]; rfl⟩, by simp [intOf]; omega⟩
                | false =>
                  go_upto_region 20 with fail
                  go_quiet (fail)
                  go_wp2_with fail
                  refine ⟨⟨k + 1, by omega, by go_num, ⟨_, rfl⟩, ?_⟩, by simp [intOf]; omega⟩
                  rw [HNEXT.out, hb]
                  congr 1
                  rw [Bool.eq_iff_iff]
                  simp
              · have hke : k = D.rs.length := by omega
                subst hke
                have v0' : (w9.drewN q2).cell? ⟨Y, 0, none⟩ = some (.slice fa D.rs.length fc) := v0
                have hall : ((D.rs.take D.rs.length).any fun r => decide (r.a.name = nm)) = true := by rw [List.take_length]; exact HANY.out
                rw [hall]
                go_wp2_with fail
                exact ⟨⟨j + 1, by omega, by go_num, _, rfl⟩, by simp [intOf]; omega⟩
          · have hje : j = ns.length := by omega
            subst hje
            go_wp2
            go_ret
            exact ⟨rfl, HEND.out.trans (show Below W.heap.size w9 (w9.drewN q) from ⟨rfl, rfl, rfl, Nat.le_refl _, fun _ _ => rfl⟩)⟩
      · have hin : i = n := by omega
        subst hin
        go_upto_region 9 with (go_at_call 9; refine (HACT6.out).mono ?_; rintro e w2 ⟨T2, D2, fa2, fc2, la2, lc2, rfl, hs2, ha2, hB2, hk2, r2⟩; have Q2 := hide (And.intro hs2 (And.intro ha2 (And.intro hB2 (And.intro hk2 r2)))); obtain ⟨d0, d1, d2, d3, d4, d5⟩ := cells6s r2; obtain ⟨f0, f1, f2, f3, f4, f5⟩ := frozen6s r2; clear hs2 ha2 hB2 hk2 r2 HACT6)
        obtain ⟨w3, hw3⟩ : ∃ w3, w3 = put5 (w2.setCell ⟨w1.heap.size, 0, none⟩ (.pointer (some ⟨d, 0, none⟩))) w1.heap.size (.slice fa2 D2.rs.length fc2) (.int .i64 D2.a.room) (.slice la2 (flen D2.a.fall) lc2) (.int .i64 D2.a.changes) (.bool D2.a.down) := ⟨_, rfl⟩
        have F3 : Hid (Fell Try.prog W w1.heap.size wr.heap.size d i (i + 1) D D2 w3) := by
          rw [hw3]
          exact F0.out.stored Q2.out.2.2.1 Q2.out.2.2.2.1 (tch_set6 w2 w1.heap.size (.pointer (some ⟨d, 0, none⟩)) (.slice fa2 D2.rs.length fc2) (.int .i64 D2.a.room) (.slice la2 (flen D2.a.fall) lc2) (.int .i64 D2.a.changes) (.bool D2.a.down)) (by rw [Q2.out.1]; exact set6 Q2.out.2.2.2.2 _ _ _ _ _ _)
        have HD2 := hide (And.intro Q2.out.1 Q2.out.2.1)
        unfold put5 at hw3
        rw [← hw3]
        clear hw3 d0 d1 d2 d3 d4 d5 f0 f1 f2 f3 f4 f5 F0 Q2 c0 c1 c2 c3 c4 c5 y0 y1 y2
        have HACT7 : Hid (Calls Try.prog 9 #[.agg #[.pointer (some ⟨d, 0, none⟩), .slice fa2 D2.rs.length fc2, .int .i64 D2.a.room, .slice la2 (flen D2.a.fall) lc2, .int .i64 D2.a.changes, .bool D2.a.down], .agg #[.int .i64 7, .string ⟨#[]⟩, .string ⟨#[]⟩, .string ⟨#[]⟩, .int .i64 0, .int .i64 0, .int .i64 0, .int .i64 0]] w3 fun e w' => ∃ T D3 fa3 fc3 la3 lc3, e = .returned (.tuple #[.agg #[.pointer (some ⟨d, 0, none⟩), .slice fa3 D3.rs.length fc3, .int .i64 D3.a.room, .slice la3 (flen D3.a.fall) lc3, .int .i64 D3.a.changes, .bool D3.a.down], .bool true]) ∧ sideCs d D3 = #[.pointer (some ⟨d, 0, none⟩), .slice fa3 D3.rs.length fc3, .int .i64 D3.a.room, .slice la3 (flen D3.a.fall) lc3, .int .i64 D3.a.changes, .bool D3.a.down] ∧ D3.a = { D2.a with down := false } ∧ Both Try.prog (W.heap.size + 1) (i + 1 + 1) d w' T D3 ∧ Dsk (W.heap.size + 1) w3 w' ∧ w'.heap[w1.heap.size]? = some (.cells #[.pointer (some ⟨d, 0, none⟩), .slice fa2 D2.rs.length fc2, .int .i64 D2.a.room, .slice la2 (flen D2.a.fall) lc2, .int .i64 D2.a.changes, .bool D2.a.down] 29 (0, 0))) := by
          obtain ⟨T, hT⟩ := F3.out.both
          have := act_7 (W.heap.size + 1) (i + 1) d T D2 ⟨7, ⟨#[]⟩, ⟨#[]⟩, ⟨#[]⟩, 0, ⟨0, 0, 0⟩⟩ w3 hT (by omega) rfl
          unfold sideV Ac.v Ac.cs at this
          rw [HD2.out.1] at this
          refine this.mono ?_
          rintro e w' ⟨T', D3, he, hB', hD', hk⟩
          obtain ⟨fa3, fc3, la3, lc3, h1⟩ := side_lit hB'
          exact ⟨T', D3, fa3, fc3, la3, lc3, by rw [he]; unfold sideV; rw [h1], h1, by rw [hD', act_kind7 rfl], hB', hk, by rw [← HD2.out.1]; exact box_kept hk F3.out.side (by simp [dkind])⟩
        have z3 := F3.out.side
        rw [HD2.out.1] at z3
        obtain ⟨c0, c1, c2, c3, c4, c5⟩ := cells6s z3
        clear z3
        go_upto_region 10 with (go_at_call 9; refine (HACT7.out).mono ?_; rintro e w4 ⟨T4, D3, fa3, fc3, la3, lc3, rfl, hs2, ha2, hB2, hk2, r2⟩; have Q2 := hide (And.intro hs2 (And.intro ha2 (And.intro hB2 (And.intro hk2 r2)))); obtain ⟨d0, d1, d2, d3, d4, d5⟩ := cells6s r2; obtain ⟨f0, f1, f2, f3, f4, f5⟩ := frozen6s r2; clear hs2 ha2 hB2 hk2 r2 HACT7)
        obtain ⟨w5, hw5⟩ : ∃ w5, w5 = put5 (w4.setCell ⟨w1.heap.size, 0, none⟩ (.pointer (some ⟨d, 0, none⟩))) w1.heap.size (.slice fa3 D3.rs.length fc3) (.int .i64 D3.a.room) (.slice la3 (flen D3.a.fall) lc3) (.int .i64 D3.a.changes) (.bool D3.a.down) := ⟨_, rfl⟩
        obtain ⟨Y, hY⟩ : ∃ Y, Y = wr.heap.size := ⟨_, rfl⟩
        have F5 : Hid (Fell Try.prog W w1.heap.size Y d i (i + 1 + 1) D D3 w5) := by
          rw [hw5, hY]
          exact F3.out.stored Q2.out.2.2.1 Q2.out.2.2.2.1 (tch_set6 w4 w1.heap.size (.pointer (some ⟨d, 0, none⟩)) (.slice fa3 D3.rs.length fc3) (.int .i64 D3.a.room) (.slice la3 (flen D3.a.fall) lc3) (.int .i64 D3.a.changes) (.bool D3.a.down)) (by rw [Q2.out.1]; exact set6 Q2.out.2.2.2.2 _ _ _ _ _ _)
        have HD3 := hide (And.intro Q2.out.1 (And.intro Q2.out.2.1 HD2.out.2))
        unfold put5 at hw5
        rw [← hw5, ← hY]
        clear hw5 d0 d1 d2 d3 d4 d5 f0 f1 f2 f3 f4 f5 Q2 c0 c1 c2 c3 c4 c5 F3
        have HNOW : Hid (looseOf D3.a.files = 0 ∧ ∀ a ∈ D3.a.files, ∃ r ∈ D.rs, r.a.name = a.name) := by
          have hf3 : D3.a.files = (D.a.crash f.keep f.torn).files := by rw [HD3.out.2.1, HD3.out.2.2]
          rw [hf3]
          refine ⟨crash_loose HC.out.1.down _ _, fun a ha => ?_⟩
          obtain ⟨g, hg, he⟩ := crash_names HC.out.1.down _ _ ha
          rw [← F5.out.ref.same] at hg
          obtain ⟨r, hr, hra⟩ := List.mem_map.1 hg
          exact ⟨r, hr, by rw [hra]; exact he⟩
        have HALIKE : Hid (∀ U, Fell Try.prog W w1.heap.size Y d i (i + 1 + 1) D D3 U → Calls Try.prog 10 #[.agg #[.pointer (some ⟨d, 0, none⟩), .slice fa3 D3.rs.length fc3, .int .i64 D3.a.room, .slice la3 (flen D3.a.fall) lc3, .int .i64 D3.a.changes, .bool D3.a.down]] U fun e w' => e = .returned (.bool true) ∧ Below U.heap.size U w') := fun U h => by
          obtain ⟨T, hT⟩ := h.both
          have := alike_any (W.heap.size + 1) (i + 1 + 1) d T D3 U hT
          unfold sideV at this
          rw [HD3.out.1] at this
          exact this
        have HLOOSE : Hid (∀ U, Fell Try.prog W w1.heap.size Y d i (i + 1 + 1) D D3 U → Calls Try.prog 20 #[.pointer (some ⟨d, 0, none⟩)] U fun e w' => e = .returned (.int .i64 0) ∧ Below U.heap.size U w') := fun U h => by
          obtain ⟨T, hT⟩ := h.both
          have := loose_any (W.heap.size + 1) (i + 1 + 1) d T U hT.disk
          rw [hT.same, HNOW.out.1] at this
          exact this
        have HNAMES : Hid (∀ U, Fell Try.prog W w1.heap.size Y d i (i + 1 + 1) D D3 U → Calls Try.prog 21 #[.pointer (some ⟨d, 0, none⟩)] U fun e w' => ∃ (na : Option Addr) (nc : Nat) (ns : List Bs), e = .returned (.slice na ns.length nc) ∧ ns.length ≤ 100000 ∧ (∀ j, j < ns.length → ∃ nm b off, ns[j]? = some nm ∧ na = some ⟨b, off, none⟩ ∧ ns.length ≤ nc ∧ w'.cell? ⟨b, off + j, none⟩ = some (.string ⟨nm.toArray⟩)) ∧ (∀ nm ∈ ns, ∃ r ∈ D.rs, r.a.name = nm) ∧ Below U.heap.size U w') := fun U h => by
          obtain ⟨T, hT⟩ := h.both
          refine (names_any (W.heap.size + 1) (i + 1 + 1) d T U hT.disk).mono ?_
          rintro e w' ⟨v, he, hown, hb⟩
          obtain ⟨na, nc, hv⟩ := RegionOwn.own_form hown
          have hl : (T.fs.map WF.nm).length = T.fs.length := by simp
          have hcnt := hT.disk.count
          refine ⟨na, nc, T.fs.map WF.nm, by rw [he, hv, hl], by rw [hl]; omega, fun j hj => ?_, fun nm hnm => ?_, hb⟩
          · refine ⟨(T.fs.map WF.nm)[j], ?_⟩
            rcases hown.2 with ⟨h1, h2⟩ | ⟨g, cap, cur, h1, _, h3, h4, _, h6, h7⟩
            · rw [hl] at hj; omega
            · rw [h1] at hv
              cases hv
              refine ⟨g, 0, List.getElem?_eq_getElem hj, rfl, by rw [hl]; exact h4, ?_⟩
              rw [Nat.zero_add, cell_of_row _ _ _ _ _ _ h3, ← Array.getElem?_toList]
              have hj' : j < T.fs.length := by rw [hl] at hj; exact hj
              have : (cur.toList.take (T.fs.length * 1))[j]? = cur.toList[j]? := List.getElem?_take_of_lt (by omega)
              rw [← this, h7, List.getElem?_map, List.getElem?_eq_getElem hj]
              rfl
          · obtain ⟨F, hF, rfl⟩ := List.mem_map.1 hnm
            have : F.a ∈ D3.a.files := by rw [← hT.same, ← hT.disk.same]; exact List.mem_map.2 ⟨F, hF, rfl⟩
            exact HNOW.out.2 _ this
        have z5 := F5.out.side
        rw [HD3.out.1] at z5
        obtain ⟨c0, c1, c2, c3, c4, c5⟩ := cells6s z5
        clear z5 HD2 hY
        go_upto_region 13 with (first
          | (go_at_call 11; refine (HAWAKE.out _).mono ?_; rintro e w6 ⟨rfl, k6⟩; have F6 := hide (F5.out.under k6); clear k6; have z6 := F6.out.side; rw [HD3.out.1] at z6; obtain ⟨g0, g1, g2, g3, g4, g5⟩ := cells6s z6; clear z6)
          | (go_at_call 10; refine (HALIKE.out w6 F6.out).mono ?_; rintro e w7 ⟨rfl, k7⟩; have F7 := hide (F6.out.under k7); clear k7; have z7 := F7.out.side; rw [HD3.out.1] at z7; obtain ⟨p0, -⟩ := cells6s z7; clear z7)
          | (go_at_call 20; refine (HLOOSE.out w7 F7.out).mono ?_; rintro e w8 ⟨rfl, k8⟩; have F8 := hide (F7.out.under k8); clear k8; have z8 := F8.out.side; rw [HD3.out.1] at z8; obtain ⟨q0, -⟩ := cells6s z8; clear z8)
          | (go_at_call 21; refine (HNAMES.out w8 F8.out).mono ?_; rintro e w9 ⟨na, nc, ns, rfl, hnl, hns, hin, k9⟩; have F9 := hide (F8.out.under k9); have HNS := hide (And.intro hns hin); clear k9 hns hin))
        have w9c := F9.out.was
        rw [HC.out.2.2] at w9c
        have v0 : w9.cell? ⟨Y, 0, none⟩ = some (.slice fa D.rs.length fc) := cell_of_row _ _ _ _ _ _ w9c
        have HFS : Hid (∀ k, k < D.rs.length → ∃ r b off, D.rs[k]? = some r ∧ fa = some ⟨b, off, none⟩ ∧ D.rs.length ≤ fc ∧ w9.cell? ⟨b, off + k * 4, none⟩ = some (.string ⟨r.a.name.toArray⟩)) := fun k hk => by
          obtain ⟨b, off, cap, h1, h2, h3, h4, -⟩ := F9.out.ref.files.file (List.getElem?_eq_getElem hk)
          have hcs := HC.out.2.2
          unfold RD.cs at hcs
          have hfv : D.fv = .slice fa D.rs.length fc := by
            have := congrArg (fun l : Array Value => l[0]?) hcs
            simpa using this
          rw [hfv] at h1
          cases h1
          exact ⟨_, b, off, List.getElem?_eq_getElem hk, rfl, h2, h4⟩
        have hrl : D.rs.length ≤ 100000 := Nat.le_trans F9.out.ref.count F9.out.ref.lim
        have HEND : Hid (Below W.heap.size W w9) := F9.out.below
        clear w9c F5 F6 F7 F8 HNOW HALIKE HLOOSE HNAMES HD3 HC HAWAKE c0 c1 c2 c3 c4 c5 g0 g1 g2 g3 g4 g5 p0 q0 F9
        go_wp2_with fail
        go_loopw [10] (fun vi wx => ∃ j : Nat, j ≤ ns.length ∧ vi = .int .i64 j ∧ ∃ q, w9.drewN q = wx) (fun vi _ => ns.length - (intOf vi).toNat)
        case atStart => exact ⟨0, Nat.zero_le _, rfl, 0, rfl⟩
        case round =>
          obtain ⟨j, hj, rfl, q, rfl⟩ := hrel
          by_cases hjl : j < ns.length
          · obtain ⟨nm, nb, noff, hnm, hna, hcap, hcell⟩ := HNS.out.1 j hjl
            subst hna
            have HANY := hide (any_name (HNS.out.2 nm (List.mem_of_getElem? hnm)))
            go_wp2_with fail
            go_loopw [11, 12] (fun vt vk wx => ∃ k : Nat, k ≤ D.rs.length ∧ vk = .int .i64 k ∧ (∃ q, w9.drewN q = wx) ∧ vt = .bool ((D.rs.take k).any fun r => decide (r.a.name = nm))) (fun _ vk _ => D.rs.length - (intOf vk).toNat)
            case atStart => exact ⟨0, Nat.zero_le _, rfl, ⟨q, rfl⟩, rfl⟩
            case round =>
              obtain ⟨k, hk, rfl, ⟨q2, rfl⟩, rfl⟩ := hrel
              by_cases hkl : k < D.rs.length
              · obtain ⟨r, rb, roff, hr, hfa, hfc, hrc⟩ := HFS.out k hkl
                subst hfa
                have v0' : (w9.drewN q2).cell? ⟨Y, 0, none⟩ = some (.slice (some ⟨rb, roff, none⟩) D.rs.length fc) := v0
                have hrc' : (w9.drewN q2).cell? ⟨rb, roff + k * 4, none⟩ = some (.string ⟨r.a.name.toArray⟩) := hrc
                have hcell' : (w9.drewN q2).cell? ⟨nb, noff + j, none⟩ = some (.string ⟨nm.toArray⟩) := hcell
                have HNEXT : Hid (((D.rs.take (k + 1)).any fun r => decide (r.a.name = nm)) = (((D.rs.take k).any fun r => decide (r.a.name = nm)) || decide (r.a.name = nm))) := by
                  show _ = _
                  rw [List.take_add_one, hr, List.any_append]
                  simp
                cases hb : (D.rs.take k).any fun r => decide (r.a.name = nm) with
                | true =>
                  go_upto_region 20 with fail
                  go_quiet (fail)
                  go_wp2_with fail
                  exact ⟨⟨k + 1, by omega, by go_num, ⟨_, rfl⟩, by rw [HNEXT.out, hb]; rfl⟩, by simp [intOf]; omega⟩
                | false =>
                  go_upto_region 20 with fail
                  go_quiet (fail)
                  go_wp2_with fail
                  refine ⟨⟨k + 1, by omega, by go_num, ⟨_, rfl⟩, ?_⟩, by simp [intOf]; omega⟩
                  rw [HNEXT.out, hb]
                  congr 1
                  rw [Bool.eq_iff_iff]
                  simp
              · have hke : k = D.rs.length := by omega
                subst hke
                have v0' : (w9.drewN q2).cell? ⟨Y, 0, none⟩ = some (.slice fa D.rs.length fc) := v0
                have hall : ((D.rs.take D.rs.length).any fun r => decide (r.a.name = nm)) = true := by rw [List.take_length]; exact HANY.out
                rw [hall]
                go_wp2_with fail
                exact ⟨⟨j + 1, by omega, by go_num, _, rfl⟩, by simp [intOf]; omega⟩
          · have hje : j = ns.length := by omega
            subst hje
            go_wp2
            go_ret
            exact ⟨rfl, HEND.out.trans (show Below W.heap.size w9 (w9.drewN q) from ⟨rfl, rfl, rfl, Nat.le_refl _, fun _ _ => rfl⟩)⟩
end Go.Proofs.Ytnjkahoaogeecaa
