/- Several texts in one: SortU, SortHeap, SortPivot, SortPart. -/
import Derived.Test.YtnbhchdaobimmaaGreatDoorMoveKids
import Derived.Sort.Defs
import Derived.Sort.Statements
import Derived.Test.YtnbhchdaobimmaaGreatDoorQuietAll
import Derived.Sort.LotC
import Derived.Sort.WalkC
import Derived.Deep.DeepCutAuto
import Derived.Deep.CutBlock
/- A row of 64-bit numbers that is sorted: its memory, the comparison, insertion sort. -/
namespace Go.Srt
open Go.RowKit Go.Sort
/-- The row in block g holds d (and what was behind it); all else is as in W. -/
structure Us (T : TypeId) (W : World) (g : Nat) (d : Array Int) (w : World) : Prop where
 row : ∃ cur, w.heap[g]? = some (.cells cur T (0, 0)) ∧ ∀ i, i < d.size → cur[i]? = some (.int .u64 d[i]!)
 os : w.os = W.os
 tape : w.tape = W.tape
 output : w.output = W.output
 size : W.heap.size ≤ w.heap.size
 lt : g < W.heap.size
 other : ∀ k, k < W.heap.size → k ≠ g → w.heap[k]? = W.heap[k]?
 len : ∃ c0 c1, W.heap[g]? = some (.cells c0 T (0, 0)) ∧ w.heap[g]? = some (.cells c1 T (0, 0)) ∧ c1.size = c0.size ∧ ∀ i, d.size ≤ i → c1[i]? = c0[i]?
variable {T : TypeId} {W w w' : World} {g : Nat} {d : Array Int}
theorem Us.cell (h : Us T W g d w) {i : Nat} (hi : i < d.size) : w.cell? ⟨g, i, none⟩ = some (.int .u64 d[i]!) := by
 obtain ⟨cur, h1, h2⟩ := h.row
 rw [cell_of_row _ _ _ _ _ _ h1]
 exact h2 i hi
theorem Us.fz (h : Us T W g d w) (i : Nat) : w.frozen? ⟨g, i, none⟩ = false := by
 obtain ⟨cur, h1, h2⟩ := h.row
 exact frozen_of_row _ _ _ _ _ h1
theorem Us.below (h : Us T W g d w) (k : Below w.heap.size w w') : Us T W g d w' := by
 have hg : g < w.heap.size := Nat.lt_of_lt_of_le h.lt h.size
 refine ⟨?_, k.os.trans h.os, k.tape.trans h.tape, k.output.trans h.output, Nat.le_trans h.size k.size, h.lt, fun i hi hn => (k.block i (Nat.lt_of_lt_of_le hi h.size)).trans (h.other i hi hn), ?_⟩
 ·obtain ⟨cur, h1, h2⟩ := h.row
  exact ⟨cur, (k.block g hg).trans h1, h2⟩
 ·obtain ⟨c0, c1, h1, h2, h3, h4⟩ := h.len
  exact ⟨c0, c1, h1, (k.block g hg).trans h2, h3, h4⟩
theorem Us.set (h : Us T W g d w) {i : Nat} (hi : i < d.size) (x : Int) : Us T W g (d.setIfInBounds i x) (w.setCell ⟨g, i, none⟩ (.int .u64 x)) := by
 refine ⟨?_, h.os, h.tape, h.output, by simpa using h.size, h.lt, fun k hk hn => (heap_setCell_other _ _ _ _ hn).trans (h.other k hk hn), ?_⟩
 ·obtain ⟨cur, h1, h2⟩ := h.row
  refine ⟨_, heap_setCell_same _ _ _ _ _ _ h1, fun j hj => ?_⟩
  rw [Array.size_setIfInBounds] at hj
  by_cases e : j = i
  ·subst e
   have hc : j < cur.size := by
    have := h2 j hj
    exact (Array.getElem?_eq_some_iff.1 this).1
   simp [hc, hj]
  ·have e2 : ¬ i = j := fun h => e h.symm
   rw [Array.getElem?_setIfInBounds_ne e2, h2 j hj]
   simp [hj, e2]
 ·obtain ⟨c0, c1, h1, h2, h3, h4⟩ := h.len
  refine ⟨c0, _, h1, heap_setCell_same _ _ _ _ _ _ h2, by rw [Array.size_setIfInBounds]; exact h3, fun j hj => ?_⟩
  rw [Array.size_setIfInBounds] at hj
  rw [Array.getElem?_setIfInBounds_ne (by omega)]
  exact h4 j hj
theorem Us.swp (h : Us T W g d w) {i j : Nat} (hi : i < d.size) (hj : j < d.size) : Us T W g (Sort.swp d i j) ((w.setCell ⟨g, i, none⟩ (.int .u64 d[j]!)).setCell ⟨g, j, none⟩ (.int .u64 d[i]!)) := by
 unfold Sort.swp
 exact (h.set hi _).set (by rw [Array.size_setIfInBounds]; exact hj) _
theorem swp_size (d : Array Int) (i j : Nat) : (Sort.swp d i j).size = d.size := by unfold Sort.swp; simp
/-- A row of one's own. -/
theorem Us.start (h : ∃ cur, w.heap[g]? = some (.cells cur T (0, 0)) ∧ ∀ i, i < d.size → cur[i]? = some (.int .u64 d[i]!)) : Us T w g d w := by
 obtain ⟨cur, h1, h2⟩ := h
 exact ⟨⟨cur, h1, h2⟩, rfl, rfl, rfl, Nat.le_refl _, (Array.getElem?_eq_some_iff.1 h1).1, fun _ _ _ => rfl, cur, cur, h1, h1, rfl, fun _ _ => rfl⟩
theorem insInner_size (a : Nat) : ∀ (j : Nat) (d : Array Int), (insInner ltInt a j d).size = d.size
 | 0, d => rfl
 | j + 1, d => by
  unfold insInner
  split
  ·rw [insInner_size a j, swp_size]
  ·rfl
theorem insOuter_step {a b i : Nat} {d : Array Int} (h : i < b) : insOuter ltInt a b i d = insOuter ltInt a b (i + 1) (insInner ltInt a i d) := by
 conv => lhs; unfold insOuter
 rw [if_pos h]
theorem insOuter_end {a b i : Nat} {d : Array Int} (h : ¬ i < b) : insOuter ltInt a b i d = d := by
 unfold insOuter
 rw [if_neg h]
end Go.Srt
namespace Go.Proofs.YtnbhchdaobimmaaGreatDoor
open Go.RowKit Go.Sort Go.Srt Go.Mov
attribute [local go_sem] Oper.semAt_some
set_option maxRecDepth 100000 in
theorem nan_any (x : Int) (w : World) : Calls Tryz.prog 127 #[.int .u64 x] w fun e w' => e = .returned (.bool false) ∧ w' = w := by
 go_enter Tryz.func127, Tryz.ntmps127
 go_wp2_with fail
 go_ret
 exact ⟨by simp, rfl⟩
set_option maxRecDepth 100000 in
theorem less_any (x y : Int) (w : World) : Calls Tryz.prog 135 #[.int .u64 x, .int .u64 y] w fun e w' => e = .returned (.bool (ltInt x y)) ∧ w' = w := by
 have HN := hide (fun v => nan_any x v)
 go_enter Tryz.func135, Tryz.ntmps135
 go_wp2_with (go_at_call 127; refine (HN.out _).mono ?_; rintro e w1 ⟨rfl, rfl⟩; clear HN)
 go_ret
 exact ⟨by unfold ltInt; simp, rfl⟩
set_option maxHeartbeats 4000000 in
set_option maxRecDepth 100000 in
theorem insSort_any {W : World} {g c : Nat} (a b : Nat) (d : Array Int) (w : World) (h : Us 49 W g d w) (hb : b ≤ d.size) (hd : d.size ≤ 1000000) (hc : d.size ≤ c) (hab : a ≤ b) :
  Calls Tryz.prog 129 #[.slice (some ⟨g, 0, none⟩) d.size c, .int .i64 a, .int .i64 b] w fun e w' => e = .returned (.tuple #[]) ∧ Us 49 W g (insertionSort ltInt d a b) w' := by
 obtain ⟨N, hN⟩ : ∃ N, N = d.size := ⟨_, rfl⟩
 have HT : Hid (Us 49 W g d w ∧ d.size = N) := ⟨h, hN.symm⟩
 rw [← hN] at hb hd hc ⊢
 clear h hN
 have ha0 : (0 : Int) ≤ a := by omega
 have hbI : (b : Int) ≤ N := by omega
 have hNI : (N : Int) ≤ 1000000 := by omega
 have hcI : (N : Int) ≤ c := by omega
 have haI : (a : Int) ≤ 1000000 := by omega
 unfold insertionSort
 obtain ⟨R, hR⟩ : ∃ R, R = insOuter ltInt a b (a + 1) d := ⟨_, rfl⟩
 rw [← hR]
 have HR := hide hR.symm
 clear hR
 go_enter Tryz.func129, Tryz.ntmps129
 go_wp2_with fail
 go_loopw [6] (fun v6 wr => ∃ (i : Nat), v6 = .int .i64 i ∧ a + 1 ≤ i ∧ i ≤ N + 1 ∧ Hid (∃ d', Us 49 W g d' wr ∧ d'.size = N ∧ insOuter ltInt a b i d' = R)) (fun v6 _ => N + 1 - (intOf v6).toNat)
 case atStart => exact ⟨a + 1, by simp, Nat.le_refl _, by omega, d, HT.out.1, HT.out.2, HR.out⟩
 case round =>
  obtain ⟨i, rfl, hi1, hi2, HI⟩ := hrel
  clear HT HR
  by_cases hib : i < b
  ·have hibI : (i : Int) < b := by omega
   have hi0 : (0 : Int) ≤ i := by omega
   obtain ⟨d1, hU, hs, hE⟩ := HI.out
   rw [insOuter_step hib] at hE
   obtain ⟨X, hX⟩ : ∃ X, X = insInner ltInt a i d1 := ⟨_, rfl⟩
   have hXs : X.size = N := by rw [hX, insInner_size]; exact hs
   rw [← hX] at hE
   have HJ0 : Hid (Us 49 W g d1 wr ∧ d1.size = N ∧ insInner ltInt a i d1 = X) := ⟨hU, hs, hX.symm⟩
   have HE := hide (And.intro hE hXs)
   clear HI hU hs hE hX hXs
   go_wp2_with fail
   go_loopw [7] (fun v7 wr => ∃ (j : Nat), v7 = .int .i64 j ∧ a ≤ j ∧ j ≤ i ∧ Hid (∃ d', Us 49 W g d' wr ∧ d'.size = N ∧ insInner ltInt a j d' = X)) (fun v7 _ => (intOf v7).toNat)
   case atStart => exact ⟨i, rfl, by omega, Nat.le_refl _, d1, HJ0.out⟩
   case round =>
    obtain ⟨j, rfl, hj1, hj2, HJ⟩ := hrel
    clear HJ0
    obtain ⟨d2, hU, hs, hE⟩ := HJ.out
    by_cases hja : a < j
    ·obtain ⟨k, rfl⟩ : ∃ k, j = k + 1 := ⟨j - 1, by omega⟩
     have hjaI : (a : Int) < (k : Int) + 1 := by omega
     have hk0 : (0 : Int) ≤ k := by omega
     have hk01 : (0 : Int) ≤ (k : Int) + 1 := by omega
     have hkN : (k : Int) + 1 < N := by omega
     have hkN2 : (k : Int) < N := by omega
     have hcx : ((k + 1 : Nat) : Int) = (k : Int) + 1 := by omega
     rw [hcx]
     clear hcx
     have c1 := hU.cell (i := k + 1) (by omega)
     have c2 := hU.cell (i := k) (by omega)
     have f1 := hU.fz (k + 1)
     have f2 := hU.fz k
     have hsw := fun (v : World) (hv : Us 49 W g d2 v) => hv.swp (i := k + 1) (j := k) (by omega) (by omega)
     have hss := swp_size d2 (k + 1) k
     have HU := hide (And.intro hU (And.intro hs (And.intro hsw hss)))
     have HL := hide (fun v => less_any d2[k + 1]! d2[k]! v)
     have HE2 := hide hE
     generalize hx1 : d2[k + 1]! = x1 at c1 c2 HL
     generalize hx2 : d2[k]! = x2 at c1 c2 HL
     have HX := hide (And.intro hx1 hx2)
     clear hU hs hE hsw hss hx1 hx2 HJ
     have r1 := cell_regrown c1
     have r2 := cell_regrown c2
     obtain ⟨lt, hlt⟩ : ∃ lt, lt = ltInt x1 x2 := ⟨_, rfl⟩
     rw [← hlt] at HL
     have HLT := hide hlt
     clear hlt
     go_upto_region 4 with fail
     refine QuietCalls.region (by kernel_rfl) (by kernel_rfl) ?_
     iterate 13 (first | go_big_quiet_step (fail) | quiet_step (fail))
     refine QuietCalls.call rfl 135 #[.int .u64 x1, .int .u64 x2] (.bool lt) (fun v _ => (HL.out v).mono fun e w' hh => ⟨hh.1, hh.2 ▸ Below.refl _ _⟩) (fun v => by go_simp) ?_; simp only [Act.put, List.setIfInBounds_toArray, List.set_cons_succ, List.set_cons_zero]
     iterate 1 (first | go_big_quiet_step (fail) | quiet_step (fail))
     refine wpQuiet_nil ?_
     intro w2 k2
     have HU2 := hide (HU.out.1.below k2)
     have d1c := HU2.out.cell (i := k + 1) (by rw [HU.out.2.1]; omega)
     have d2c := HU2.out.cell (i := k) (by rw [HU.out.2.1]; omega)
     have g1 := HU2.out.fz (k + 1)
     have g2 := HU2.out.fz k
     rw [HX.out.1] at d1c
     rw [HX.out.2] at d2c
     clear k2 c1 c2 r1 r2 f1 f2 HL
     cases lt with
     | true =>
      go_upto_region 6 with fail
      go_region
      have HS := hide (And.intro (((HU.out.2.2.1 w2 HU2.out).below ((Below.refl _ _).drew))) (HU.out.2.2.2.trans HU.out.2.1))
      rw [HX.out.1, HX.out.2] at HS
      have hstep : insInner ltInt a k (Sort.swp d2 (k + 1) k) = X := by
       have h1 := HE2.out
       unfold insInner at h1
       rw [HX.out.1, HX.out.2, ← HLT.out, if_pos (by simpa using hja)] at h1
       exact h1
      have HST := hide hstep
      clear hstep d1c d2c g1 g2
      generalize ((w2.setCell ⟨g, k + 1, none⟩ (.int .u64 x2)).setCell ⟨g, k, none⟩ (.int .u64 x1)).drew = w3 at HS ⊢
      go_wp2_with fail
      go_roundw
      case rel => exact ⟨k, by simp, by omega, by omega, _, HS.out.1, HS.out.2, HST.out⟩
      case measure => simp [intOf]
     | false =>
      have hend : X = d2 := by
       have h1 := HE2.out
       unfold insInner at h1
       rw [HX.out.1, HX.out.2, ← HLT.out] at h1
       simpa using h1.symm
      go_wp2_with fail
      go_roundw
      case rel => exact ⟨i + 1, by simp, by omega, by omega, d2, HU2.out, HU.out.2.1, by rw [← hend]; exact HE.out.1⟩
      case measure => simp [intOf]; omega
    ·obtain rfl : j = a := by omega
     have hend : X = d2 := by
      rw [← hE]
      cases j with
      | zero => rfl
      | succ k => unfold insInner; simp
     have HU := hide (And.intro hU hs)
     clear hU hs hE HJ
     have hjj : ¬ (j : Int) < j := by omega
     go_upto_region 4 with fail
     refine QuietCalls.region (by kernel_rfl) (by kernel_rfl) ?_
     iterate 15 (first | go_big_quiet_step (fail) | quiet_step (fail))
     refine wpQuiet_nil ?_
     intro w2 k2
     have HU2 := hide (HU.out.1.below k2)
     clear k2
     go_wp2_with fail
     go_roundw
     case rel => exact ⟨i + 1, by simp, by omega, by omega, d2, HU2.out, HU.out.2, by rw [← hend]; exact HE.out.1⟩
     case measure => simp [intOf]; omega
  ·obtain ⟨d1, hU, hs, hE⟩ := HI.out
   rw [insOuter_end hib] at hE
   have hibI : ¬ (i : Int) < b := by omega
   have HU := hide (And.intro hU hE)
   clear hU hE HI
   go_wp2_with fail
   go_end0
   exact ⟨rfl, by rw [← HU.out.2]; exact HU.out.1⟩
end Go.Proofs.YtnbhchdaobimmaaGreatDoor
/- Contracts: sifting down, and sorting by a heap. -/
namespace Go.Srt
open Go.RowKit Go.Sort
theorem sift_size (hi first : Nat) : ∀ (n root : Nat) (d : Array Int), hi - root ≤ n → (siftDown ltInt hi first root d).size = d.size := by
 intro n
 induction n with
 | zero =>
  intro root d h
  unfold siftDown
  rw [dif_pos (by omega)]
 | succ n ih =>
  intro root d h
  unfold siftDown
  split
  ·rfl
  ·split
   ·split
    ·rfl
    ·split
     ·rw [ih _ _ (by omega), swp_size]
     ·rfl
   ·split
    ·rfl
    ·rw [ih _ _ (by omega), swp_size]
theorem sift_end {hi first root : Nat} {d : Array Int} (h : hi ≤ 2 * root + 1) : siftDown ltInt hi first root d = d := by unfold siftDown; rw [dif_pos h]
theorem sift_hi {hi first root : Nat} {d : Array Int} (h1 : ¬ hi ≤ 2 * root + 1) (h2 : 2 * root + 1 + 1 < hi) (h3 : ltInt d[first + (2 * root + 1)]! d[first + (2 * root + 1) + 1]! = true) : siftDown ltInt hi first root d = if !ltInt d[first + root]! d[first + (2 * root + 2)]! then d else siftDown ltInt hi first (2 * root + 2) (Sort.swp d (first + root) (first + (2 * root + 2))) := by
 conv => lhs; unfold siftDown
 rw [dif_neg h1, if_pos (by simp [h2, h3]), dif_pos (by omega)]
theorem sift_lo {hi first root : Nat} {d : Array Int} (h1 : ¬ hi ≤ 2 * root + 1) (h2 : ¬ (2 * root + 1 + 1 < hi ∧ ltInt d[first + (2 * root + 1)]! d[first + (2 * root + 1) + 1]! = true)) : siftDown ltInt hi first root d = if !ltInt d[first + root]! d[first + (2 * root + 1)]! then d else siftDown ltInt hi first (2 * root + 1) (Sort.swp d (first + root) (first + (2 * root + 1))) := by
 conv => lhs; unfold siftDown
 rw [dif_neg h1, if_neg (by simpa using h2)]
end Go.Srt
namespace Go.Proofs.YtnbhchdaobimmaaGreatDoor
open Go.RowKit Go.Sort Go.Srt Go.Mov
attribute [local go_sem] Oper.semAt_some
set_option maxHeartbeats 4000000 in
set_option maxRecDepth 100000 in
theorem sift_any {W : World} {g c : Nat} (lo hi first : Nat) (d : Array Int) (w : World) (h : Us 49 W g d w) (hb : first + hi ≤ d.size) (hlo : lo ≤ hi) (hd : d.size ≤ 1000000) (hc : d.size ≤ c) :
  Calls Tryz.prog 146 #[.slice (some ⟨g, 0, none⟩) d.size c, .int .i64 lo, .int .i64 hi, .int .i64 first] w fun e w' => e = .returned (.tuple #[]) ∧ Us 49 W g (siftDown ltInt hi first lo d) w' := by
 obtain ⟨N, hN⟩ : ∃ N, N = d.size := ⟨_, rfl⟩
 obtain ⟨R, hR⟩ : ∃ R, R = siftDown ltInt hi first lo d := ⟨_, rfl⟩
 rw [← hR]
 have HT : Hid (Us 49 W g d w ∧ d.size = N ∧ siftDown ltInt hi first lo d = R) := ⟨h, hN.symm, hR.symm⟩
 rw [← hN] at hb hd hc ⊢
 clear h hN hR
 have hNI : (N : Int) ≤ 1000000 := by omega
 have hcI : (N : Int) ≤ c := by omega
 have hhiI : (hi : Int) ≤ 1000000 := by omega
 have hfI : (first : Int) ≤ 1000000 := by omega
 have hf0 : (0 : Int) ≤ first := by omega
 have hh0 : (0 : Int) ≤ hi := by omega
 go_enter Tryz.func146, Tryz.ntmps146
 go_wp2_with fail
 go_loopw [8] (fun v8 wr => ∃ (root : Nat), v8 = .int .i64 root ∧ root ≤ hi ∧ Hid (∃ d', Us 49 W g d' wr ∧ d'.size = N ∧ siftDown ltInt hi first root d' = R)) (fun v8 _ => hi - (intOf v8).toNat)
 case atStart => exact ⟨lo, rfl, hlo, d, HT.out⟩
 case round =>
  obtain ⟨root, rfl, hrt, HI⟩ := hrel
  clear HT
  obtain ⟨d1, hU, hs, hE⟩ := HI.out
  clear HI
  obtain ⟨ch, hch⟩ : ∃ ch, ch = 2 * root + 1 := ⟨_, rfl⟩
  have rch : 2 * (root : Int) + 1 = (ch : Int) := by omega
  have hrI : (root : Int) ≤ 1000000 := by omega
  have hr0 : (0 : Int) ≤ root := by omega
  have hc0 : (0 : Int) ≤ ch := by omega
  have hcb : (ch : Int) ≤ 2000001 := by omega
  by_cases hend : hi ≤ ch
  ·have hendI : (hi : Int) ≤ ch := by omega
   rw [sift_end (by omega)] at hE
   have HU := hide (And.intro hU hE)
   clear hU hE hs hch
   go_wp2_with fail
   go_end0
   exact ⟨rfl, by rw [← HU.out.2]; exact HU.out.1⟩
  ·have hendI : ¬ (hi : Int) ≤ ch := by omega
   have hltI : (ch : Int) < hi := by omega
   have hnot : ¬ hi ≤ 2 * root + 1 := by omega
   obtain ⟨c1, hc1⟩ : ∃ c1, c1 = ch + 1 := ⟨_, rfl⟩
   have rc1 : (ch : Int) + 1 = (c1 : Int) := by omega
   obtain ⟨pr, hpr⟩ : ∃ pr, pr = first + root := ⟨_, rfl⟩
   have rpr : (first : Int) + (root : Int) = (pr : Int) := by omega
   obtain ⟨pc, hpc⟩ : ∃ pc, pc = first + ch := ⟨_, rfl⟩
   have rpc : (first : Int) + (ch : Int) = (pc : Int) := by omega
   obtain ⟨p1, hp1⟩ : ∃ p1, p1 = pc + 1 := ⟨_, rfl⟩
   have rp1 : (pc : Int) + 1 = (p1 : Int) := by omega
   have rpc1 : (first : Int) + (c1 : Int) = (p1 : Int) := by omega
   have hprN : (pr : Int) < N := by omega
   have hpcN : (pc : Int) < N := by omega
   have hpr0 : (0 : Int) ≤ pr := by omega
   have hpc0 : (0 : Int) ≤ pc := by omega
   have hp10 : (0 : Int) ≤ p1 := by omega
   have hp1b : (p1 : Int) ≤ 2000001 := by omega
   have hc10 : (0 : Int) ≤ c1 := by omega
   have hc1b : (c1 : Int) ≤ 2000002 := by omega
   have HEQ := hide (And.intro hch (And.intro hc1 (And.intro hpr (And.intro hpc hp1))))
   have HU := hide (And.intro hU (And.intro hs hE))
   clear hU hs hE hch hc1 hpr hpc hp1
   by_cases hc2 : c1 < hi
   ·have hc2I : (c1 : Int) < hi := by omega
    have hp1N : (p1 : Int) < N := by have := HEQ.out; omega
    have b1 := HU.out.1.cell (i := pc) (by rw [HU.out.2.1]; omega)
    have b2 := HU.out.1.cell (i := p1) (by rw [HU.out.2.1]; omega)
    have HLm := hide (fun v => less_any d1[pc]! d1[p1]! v)
    generalize hx1 : d1[pc]! = x1 at b1 b2 HLm
    generalize hx2 : d1[p1]! = x2 at b1 b2 HLm
    have HX := hide (And.intro hx1 hx2)
    clear hx1 hx2
    obtain ⟨m, hm⟩ : ∃ m, m = ltInt x1 x2 := ⟨_, rfl⟩
    rw [← hm] at HLm
    have HLT := hide hm
    clear hm
    have r1 := cell_regrown b1
    have r2 := cell_regrown b2
    go_upto_region 3 with fail
    refine QuietCalls.region (by kernel_rfl) (by kernel_rfl) ?_
    iterate 18 (first | go_big_quiet_step (fail) | quiet_step (fail))
    refine QuietCalls.call rfl 135 #[.int .u64 x1, .int .u64 x2] (.bool m) (fun v _ => (HLm.out v).mono fun e w' hh => ⟨hh.1, hh.2 ▸ Below.refl _ _⟩) (fun v => by go_simp) ?_; simp only [Act.put, List.setIfInBounds_toArray, List.set_cons_succ, List.set_cons_zero]
    iterate 1 (first | go_big_quiet_step (fail) | quiet_step (fail))
    refine wpQuiet_nil ?_
    intro w3 k3
    have HU3 := hide (HU.out.1.below k3)
    clear k3 b1 b2 r1 r2 HLm
    cases m with
    | true =>
     have HSIFT : Hid (siftDown ltInt hi first root d1 = if !ltInt d1[pr]! d1[p1]! then d1 else siftDown ltInt hi first c1 (Sort.swp d1 pr p1)) := by
      have hq := HEQ.out
      have h1 := sift_hi (first := first) (d := d1) hnot (by omega) (by rw [show first + (2 * root + 1) = pc by omega, show pc + 1 = p1 by omega, HX.out.1, HX.out.2]; exact HLT.out.symm)
      rw [show first + root = pr by omega, show first + (2 * root + 2) = p1 by omega, show 2 * root + 2 = c1 by omega] at h1
      exact h1
     have e1 := HU3.out.cell (i := pr) (by rw [HU.out.2.1]; omega)
     have e2 := HU3.out.cell (i := p1) (by rw [HU.out.2.1]; omega)
     have HLl := hide (fun v => less_any d1[pr]! d1[p1]! v)
     have hsw := HU3.out
     generalize hy1 : d1[pr]! = y1 at e1 e2 HLl
     generalize hy2 : d1[p1]! = y2 at e1 e2 HLl
     have HY := hide (And.intro hy1 hy2)
     clear hsw hy1 hy2
     obtain ⟨l, hl⟩ : ∃ l, l = ltInt y1 y2 := ⟨_, rfl⟩
     rw [← hl] at HLl
     have HLT2 := hide hl
     clear hl
     have s1 := cell_regrown e1
     have s2 := cell_regrown e2
     go_upto_region 5 with fail
     refine QuietCalls.region (by kernel_rfl) (by kernel_rfl) ?_
     iterate 12 (first | go_big_quiet_step (fail) | quiet_step (fail))
     refine QuietCalls.call rfl 135 #[.int .u64 y1, .int .u64 y2] (.bool l) (fun v _ => (HLl.out v).mono fun e w' hh => ⟨hh.1, hh.2 ▸ Below.refl _ _⟩) (fun v => by go_simp) ?_; simp only [Act.put, List.setIfInBounds_toArray, List.set_cons_succ, List.set_cons_zero]
     iterate 1 (first | go_big_quiet_step (fail) | quiet_step (fail))
     refine wpQuiet_nil ?_
     intro w4 k4
     have HU4 := hide (HU3.out.below k4)
     have f1 := HU4.out.cell (i := pr) (by rw [HU.out.2.1]; omega)
     have f2 := HU4.out.cell (i := p1) (by rw [HU.out.2.1]; omega)
     have g1 := HU4.out.fz pr
     have g2 := HU4.out.fz p1
     rw [HY.out.1] at f1
     rw [HY.out.2] at f2
     clear k4 e1 e2 s1 s2 HLl
     cases l with
     | false =>
      have hR : Hid (R = d1) := by
       show R = d1
       have h1 := HU.out.2.2
       rw [HSIFT.out, HY.out.1, HY.out.2, ← HLT2.out] at h1
       simpa using h1.symm
      go_wp2_with fail
      refine bodyPost_ret (results_none rfl _ _ _) rfl ?_
      exact ⟨rfl, by rw [hR.out]; exact HU4.out⟩
     | true =>
      go_upto_region 6 with fail
      go_region
      have HS := hide (And.intro ((HU4.out.swp (i := pr) (j := p1) (by rw [HU.out.2.1]; omega) (by rw [HU.out.2.1]; omega)).below ((Below.refl _ _).drew)) ((swp_size d1 pr p1).trans HU.out.2.1))
      rw [HY.out.1, HY.out.2] at HS
      have hstep : siftDown ltInt hi first c1 (Sort.swp d1 pr p1) = R := by
       have h1 := HU.out.2.2
       rw [HSIFT.out, HY.out.1, HY.out.2, ← HLT2.out] at h1
       simpa using h1
      have HST := hide hstep
      clear hstep f1 f2 g1 g2
      generalize ((w4.setCell ⟨g, pr, none⟩ (.int .u64 y2)).setCell ⟨g, p1, none⟩ (.int .u64 y1)).drew = w5 at HS ⊢
      go_wp2_with fail
      go_roundw
      case rel => exact ⟨c1, by simp, by omega, _, HS.out.1, HS.out.2, HST.out⟩
      case measure => simp [intOf]; have := HEQ.out; omega
    | false =>
     have HSIFT : Hid (siftDown ltInt hi first root d1 = if !ltInt d1[pr]! d1[pc]! then d1 else siftDown ltInt hi first ch (Sort.swp d1 pr pc)) := by
      have hq := HEQ.out
      have h1 := sift_lo (first := first) (d := d1) hnot (fun hh => by
       have h2 := hh.2
       rw [show first + (2 * root + 1) = pc by omega, show pc + 1 = p1 by omega, HX.out.1, HX.out.2, ← HLT.out] at h2
       cases h2)
      rw [show first + root = pr by omega, show first + (2 * root + 1) = pc by omega, show 2 * root + 1 = ch by omega] at h1
      exact h1
     have e1 := HU3.out.cell (i := pr) (by rw [HU.out.2.1]; omega)
     have e2 := HU3.out.cell (i := pc) (by rw [HU.out.2.1]; omega)
     have HLl := hide (fun v => less_any d1[pr]! d1[pc]! v)
     have hsw := HU3.out
     generalize hy1 : d1[pr]! = y1 at e1 e2 HLl
     generalize hy2 : d1[pc]! = y2 at e1 e2 HLl
     have HY := hide (And.intro hy1 hy2)
     clear hsw hy1 hy2
     obtain ⟨l, hl⟩ : ∃ l, l = ltInt y1 y2 := ⟨_, rfl⟩
     rw [← hl] at HLl
     have HLT2 := hide hl
     clear hl
     have s1 := cell_regrown e1
     have s2 := cell_regrown e2
     go_upto_region 5 with fail
     refine QuietCalls.region (by kernel_rfl) (by kernel_rfl) ?_
     iterate 12 (first | go_big_quiet_step (fail) | quiet_step (fail))
     refine QuietCalls.call rfl 135 #[.int .u64 y1, .int .u64 y2] (.bool l) (fun v _ => (HLl.out v).mono fun e w' hh => ⟨hh.1, hh.2 ▸ Below.refl _ _⟩) (fun v => by go_simp) ?_; simp only [Act.put, List.setIfInBounds_toArray, List.set_cons_succ, List.set_cons_zero]
     iterate 1 (first | go_big_quiet_step (fail) | quiet_step (fail))
     refine wpQuiet_nil ?_
     intro w4 k4
     have HU4 := hide (HU3.out.below k4)
     have f1 := HU4.out.cell (i := pr) (by rw [HU.out.2.1]; omega)
     have f2 := HU4.out.cell (i := pc) (by rw [HU.out.2.1]; omega)
     have g1 := HU4.out.fz pr
     have g2 := HU4.out.fz pc
     rw [HY.out.1] at f1
     rw [HY.out.2] at f2
     clear k4 e1 e2 s1 s2 HLl
     cases l with
     | false =>
      have hR : Hid (R = d1) := by
       show R = d1
       have h1 := HU.out.2.2
       rw [HSIFT.out, HY.out.1, HY.out.2, ← HLT2.out] at h1
       simpa using h1.symm
      go_wp2_with fail
      refine bodyPost_ret (results_none rfl _ _ _) rfl ?_
      exact ⟨rfl, by rw [hR.out]; exact HU4.out⟩
     | true =>
      go_upto_region 6 with fail
      go_region
      have HS := hide (And.intro ((HU4.out.swp (i := pr) (j := pc) (by rw [HU.out.2.1]; omega) (by rw [HU.out.2.1]; omega)).below ((Below.refl _ _).drew)) ((swp_size d1 pr pc).trans HU.out.2.1))
      rw [HY.out.1, HY.out.2] at HS
      have hstep : siftDown ltInt hi first ch (Sort.swp d1 pr pc) = R := by
       have h1 := HU.out.2.2
       rw [HSIFT.out, HY.out.1, HY.out.2, ← HLT2.out] at h1
       simpa using h1
      have HST := hide hstep
      clear hstep f1 f2 g1 g2
      generalize ((w4.setCell ⟨g, pr, none⟩ (.int .u64 y2)).setCell ⟨g, pc, none⟩ (.int .u64 y1)).drew = w5 at HS ⊢
      go_wp2_with fail
      go_roundw
      case rel => exact ⟨ch, by simp, by omega, _, HS.out.1, HS.out.2, HST.out⟩
      case measure => simp [intOf]; have := HEQ.out; omega
   ·have hc2I : ¬ (c1 : Int) < hi := by omega
    go_upto_region 3 with fail
    refine QuietCalls.region (by kernel_rfl) (by kernel_rfl) ?_
    iterate 20 (first | go_big_quiet_step (fail) | quiet_step (fail))
    refine wpQuiet_nil ?_
    intro w3 k3
    have HU3 := hide (HU.out.1.below k3)
    clear k3
    have HSIFT : Hid (siftDown ltInt hi first root d1 = if !ltInt d1[pr]! d1[pc]! then d1 else siftDown ltInt hi first ch (Sort.swp d1 pr pc)) := by
     have hq := HEQ.out
     have h1 := sift_lo (first := first) (d := d1) hnot (fun hh => by have := hh.1; omega)
     rw [show first + root = pr by omega, show first + (2 * root + 1) = pc by omega, show 2 * root + 1 = ch by omega] at h1
     exact h1
    have e1 := HU3.out.cell (i := pr) (by rw [HU.out.2.1]; omega)
    have e2 := HU3.out.cell (i := pc) (by rw [HU.out.2.1]; omega)
    have HLl := hide (fun v => less_any d1[pr]! d1[pc]! v)
    have hsw := HU3.out
    generalize hy1 : d1[pr]! = y1 at e1 e2 HLl
    generalize hy2 : d1[pc]! = y2 at e1 e2 HLl
    have HY := hide (And.intro hy1 hy2)
    clear hsw hy1 hy2
    obtain ⟨l, hl⟩ : ∃ l, l = ltInt y1 y2 := ⟨_, rfl⟩
    rw [← hl] at HLl
    have HLT2 := hide hl
    clear hl
    have s1 := cell_regrown e1
    have s2 := cell_regrown e2
    go_upto_region 5 with fail
    refine QuietCalls.region (by kernel_rfl) (by kernel_rfl) ?_
    iterate 12 (first | go_big_quiet_step (fail) | quiet_step (fail))
    refine QuietCalls.call rfl 135 #[.int .u64 y1, .int .u64 y2] (.bool l) (fun v _ => (HLl.out v).mono fun e w' hh => ⟨hh.1, hh.2 ▸ Below.refl _ _⟩) (fun v => by go_simp) ?_; simp only [Act.put, List.setIfInBounds_toArray, List.set_cons_succ, List.set_cons_zero]
    iterate 1 (first | go_big_quiet_step (fail) | quiet_step (fail))
    refine wpQuiet_nil ?_
    intro w4 k4
    have HU4 := hide (HU3.out.below k4)
    have f1 := HU4.out.cell (i := pr) (by rw [HU.out.2.1]; omega)
    have f2 := HU4.out.cell (i := pc) (by rw [HU.out.2.1]; omega)
    have g1 := HU4.out.fz pr
    have g2 := HU4.out.fz pc
    rw [HY.out.1] at f1
    rw [HY.out.2] at f2
    clear k4 e1 e2 s1 s2 HLl
    cases l with
    | false =>
     have hR : Hid (R = d1) := by
      show R = d1
      have h1 := HU.out.2.2
      rw [HSIFT.out, HY.out.1, HY.out.2, ← HLT2.out] at h1
      simpa using h1.symm
     go_wp2_with fail
     refine bodyPost_ret (results_none rfl _ _ _) rfl ?_
     exact ⟨rfl, by rw [hR.out]; exact HU4.out⟩
    | true =>
     go_upto_region 6 with fail
     go_region
     have HS := hide (And.intro ((HU4.out.swp (i := pr) (j := pc) (by rw [HU.out.2.1]; omega) (by rw [HU.out.2.1]; omega)).below ((Below.refl _ _).drew)) ((swp_size d1 pr pc).trans HU.out.2.1))
     rw [HY.out.1, HY.out.2] at HS
     have hstep : siftDown ltInt hi first ch (Sort.swp d1 pr pc) = R := by
      have h1 := HU.out.2.2
      rw [HSIFT.out, HY.out.1, HY.out.2, ← HLT2.out] at h1
      simpa using h1
     have HST := hide hstep
     clear hstep f1 f2 g1 g2
     generalize ((w4.setCell ⟨g, pr, none⟩ (.int .u64 y2)).setCell ⟨g, pc, none⟩ (.int .u64 y1)).drew = w5 at HS ⊢
     go_wp2_with fail
     go_roundw
     case rel => exact ⟨ch, by simp, by omega, _, HS.out.1, HS.out.2, HST.out⟩
     case measure => simp [intOf]; have := HEQ.out; omega
set_option maxRecDepth 100000 in
theorem heapBuild_size (hi first : Nat) : ∀ (k : Nat) (d : Array Int), (heapBuild ltInt hi first k d).size = d.size
 | 0, d => rfl
 | k + 1, d => by unfold heapBuild; rw [heapBuild_size hi first k, sift_size hi first (hi - k) k d (Nat.le_refl _)]
set_option maxHeartbeats 4000000 in
set_option maxRecDepth 100000 in
theorem heapSort_any {W : World} {g c : Nat} (a b : Nat) (d : Array Int) (w : World) (h : Us 49 W g d w) (hab : a < b) (hb : b ≤ d.size) (hd : d.size ≤ 1000000) (hc : d.size ≤ c) :
  Calls Tryz.prog 130 #[.slice (some ⟨g, 0, none⟩) d.size c, .int .i64 a, .int .i64 b] w fun e w' => e = .returned (.tuple #[]) ∧ Us 49 W g (heapSort ltInt d a b) w' := by
 obtain ⟨N, hN⟩ : ∃ N, N = d.size := ⟨_, rfl⟩
 obtain ⟨hi, hhi⟩ : ∃ hi, hi = b - a := ⟨_, rfl⟩
 obtain ⟨X, hX⟩ : ∃ X, X = heapBuild ltInt hi a ((hi - 1) / 2 + 1) d := ⟨_, rfl⟩
 have hXs : X.size = N := by rw [hX, heapBuild_size, hN]
 obtain ⟨R, hR⟩ : ∃ R, R = heapPop ltInt a hi X := ⟨_, rfl⟩
 have hRR : heapSort ltInt d a b = R := by unfold heapSort; rw [← hhi, hR, hX]
 rw [hRR]
 obtain ⟨k0, hk0⟩ : ∃ k0, k0 = (hi - 1) / 2 + 1 := ⟨_, rfl⟩
 rw [← hk0] at hX
 have HT : Hid (Us 49 W g d w ∧ d.size = N ∧ heapBuild ltInt hi a k0 d = X) := ⟨h, hN.symm, hX.symm⟩
 have HX : Hid (X.size = N ∧ heapPop ltInt a hi X = R) := ⟨hXs, hR.symm⟩
 rw [← hN] at hb hd hc ⊢
 have rhi : (b : Int) - (a : Int) = (hi : Int) := by omega
 have rk0 : ((hi : Int) - 1).tdiv 2 = (k0 : Int) - 1 := by
  rw [Int.tdiv_eq_ediv_of_nonneg (by omega)]
  omega
 have HS := hide (fun (d' : Array Int) (v : World) (lo hh : Nat) (hv : Us 49 W g d' v) (hs : d'.size = N) (h1 : a + hh ≤ N) (h2 : lo ≤ hh) => show Calls Tryz.prog 146 #[.slice (some ⟨g, 0, none⟩) N c, .int .i64 lo, .int .i64 hh, .int .i64 a] v fun e w' => e = .returned (.tuple #[]) ∧ Us 49 W g (siftDown ltInt hh a lo d') w' from by
  have := sift_any (c := c) lo hh a d' v hv (by omega) h2 (by omega) (by omega)
  rw [hs] at this
  exact this)
 have hihi : 1 ≤ hi := by omega
 have hahi : a + hi ≤ N := by omega
 have hk0h : k0 ≤ hi := by omega
 have hk01 : 1 ≤ k0 := by omega
 have hNI : (N : Int) ≤ 1000000 := by omega
 have hcI : (N : Int) ≤ c := by omega
 have hhiI : (hi : Int) ≤ 1000000 := by omega
 have haI : (a : Int) ≤ 1000000 := by omega
 have ha0 : (0 : Int) ≤ a := by omega
 have hh0 : (1 : Int) ≤ hi := by omega
 have hbI : (b : Int) ≤ 1000000 := by omega
 have hb0 : (0 : Int) ≤ b := by omega
 clear h hN hX hXs hR hRR hk0 hhi
 go_enter Tryz.func130, Tryz.ntmps130
 go_wp2_with fail
 go_loopw [9] (fun v9 wr => ∃ (k : Nat), v9 = .int .i64 ((k : Int) - 1) ∧ k ≤ k0 ∧ Hid (∃ d', Us 49 W g d' wr ∧ d'.size = N ∧ heapBuild ltInt hi a k d' = X)) (fun v9 _ => (intOf v9 + 1).toNat)
 case atStart => exact ⟨k0, rfl, Nat.le_refl _, d, HT.out⟩
 case round =>
  obtain ⟨k, rfl, hk, HI⟩ := hrel
  clear HT
  cases k with
  | succ k =>
   obtain ⟨d1, hU, hs, hE⟩ := HI.out
   have e1 : ((k + 1 : Nat) : Int) - 1 = (k : Int) := by omega
   rw [e1]
   have hk0' : (0 : Int) ≤ k := by omega
   have hkI : (k : Int) ≤ 1000000 := by omega
   have HC := hide (HS.out d1 wr k hi hU hs hahi (by omega))
   have hE2 : heapBuild ltInt hi a k (siftDown ltInt hi a k d1) = X := hE
   have hsz := sift_size hi a (hi - k) k d1 (Nat.le_refl _)
   have HE := hide (And.intro hE2 (hsz.trans hs))
   clear HI hU hs hE hE2 hsz e1
   go_wp2_with (go_at_call 146; refine HC.out.mono ?_; rintro e w2 ⟨rfl, hU2⟩; have HU2 := hide hU2; clear hU2 HC)
   go_roundw
   case rel => exact ⟨k, by simp, by omega, _, HU2.out, HE.out.2, HE.out.1⟩
   case measure => simp [intOf]
  | zero =>
   have HI2 : Hid (Us 49 W g X wr) := by
    obtain ⟨d1, hU, hs, hE⟩ := HI.out
    have h1 : d1 = X := hE
    rw [← h1]; exact hU
   clear HI
   have e0 : ((0 : Nat) : Int) - 1 = -1 := by decide
   rw [e0]
   go_wp2_with fail
   go_loopw [10] (fun v10 wr => ∃ (k : Nat), v10 = .int .i64 ((k : Int) - 1) ∧ k ≤ hi ∧ Hid (∃ d', Us 49 W g d' wr ∧ d'.size = N ∧ heapPop ltInt a k d' = R)) (fun v10 _ => (intOf v10 + 1).toNat)
   case atStart => exact ⟨hi, rfl, Nat.le_refl _, X, HI2.out, HX.out⟩
   case round =>
    obtain ⟨k, rfl, hk, HI⟩ := hrel
    clear HI2
    cases k with
    | zero =>
     have HI3 : Hid (Us 49 W g R wr) := by
      obtain ⟨d1, hU, hs, hE⟩ := HI.out
      have h1 : d1 = R := hE
      rw [← h1]; exact hU
     clear HI
     have e0 : ((0 : Nat) : Int) - 1 = -1 := by decide
     rw [e0]
     go_wp2_with fail
     go_end0
     exact ⟨rfl, HI3.out⟩
    | succ k =>
     obtain ⟨d1, hU, hs, hE⟩ := HI.out
     have e1 : ((k + 1 : Nat) : Int) - 1 = (k : Int) := by omega
     rw [e1]
     have hk0' : (0 : Int) ≤ k := by omega
     have hkI : (k : Int) ≤ 1000000 := by omega
     obtain ⟨p, hp⟩ : ∃ p, p = a + k := ⟨_, rfl⟩
     have rp : (a : Int) + (k : Int) = (p : Int) := by omega
     have hpN : (p : Int) < N := by omega
     have hp0 : (0 : Int) ≤ p := by omega
     have haN : (a : Int) < N := by omega
     by_cases hka : p = a
     ·obtain rfl : k = 0 := by omega
      obtain rfl : p = a := hka
      have c1 := hU.cell (i := p) (by omega)
      have f1 := hU.fz p
      have HSW := hide (And.intro (hU.swp (i := p) (j := p) (by omega) (by omega)) ((swp_size d1 p p).trans hs))
      have hE2 : heapPop ltInt p 0 (siftDown ltInt 0 p 0 (Sort.swp d1 p p)) = R := hE
      have hsz := sift_size 0 p (0 - 0) 0 (Sort.swp d1 p p) (Nat.le_refl _)
      have HE := hide (And.intro hE2 (hsz.trans ((swp_size d1 p p).trans hs)))
      generalize d1[p]! = x1 at c1 HSW
      clear HI hU hs hE hE2 hsz e1 hp
      go_upto_region 10 with fail
      go_region
      have HU2 := hide (HSW.out.1.below ((Below.refl _ _).drew))
      have HSZ := hide HSW.out.2
      clear HSW c1 f1
      generalize ((wr.setCell ⟨g, p, none⟩ (.int .u64 x1)).setCell ⟨g, p, none⟩ (.int .u64 x1)).drew = w3 at HU2 ⊢
      have HC := hide (HS.out _ w3 0 0 HU2.out HSZ.out (by omega) (Nat.zero_le _))
      go_wp2_with (go_at_call 146; refine HC.out.mono ?_; rintro e w4 ⟨rfl, hU4⟩; have HU4 := hide hU4; clear hU4 HC)
      go_roundw
      case rel => exact ⟨0, by simp, by omega, _, HU4.out, HE.out.2, HE.out.1⟩
      case measure => simp [intOf]
     ·have hne1 : ¬ a = p := fun e => hka e.symm
      have hne2 : ¬ p = a := hka
      have c1 := hU.cell (i := a) (by omega)
      have c2 := hU.cell (i := p) (by omega)
      have f1 := hU.fz a
      have f2 := hU.fz p
      have HSW := hide (And.intro (hU.swp (i := a) (j := p) (by omega) (by omega)) ((swp_size d1 a p).trans hs))
      have hE2 : heapPop ltInt a k (siftDown ltInt k a 0 (Sort.swp d1 a p)) = R := by rw [hp]; exact hE
      have hsz := sift_size k a (k - 0) 0 (Sort.swp d1 a p) (Nat.le_refl _)
      have HE := hide (And.intro hE2 (hsz.trans ((swp_size d1 a p).trans hs)))
      generalize d1[a]! = x1 at c1 c2 HSW
      generalize d1[p]! = x2 at c1 c2 HSW
      clear HI hU hs hE hE2 hsz e1 hp
      go_upto_region 10 with fail
      go_region
      have HU2 := hide (HSW.out.1.below ((Below.refl _ _).drew))
      have HSZ := hide HSW.out.2
      clear HSW c1 c2 f1 f2
      generalize ((wr.setCell ⟨g, a, none⟩ (.int .u64 x2)).setCell ⟨g, p, none⟩ (.int .u64 x1)).drew = w3 at HU2 ⊢
      have HC := hide (HS.out _ w3 0 k HU2.out HSZ.out (by omega) (Nat.zero_le _))
      go_wp2_with (go_at_call 146; refine HC.out.mono ?_; rintro e w4 ⟨rfl, hU4⟩; have HU4 := hide hU4; clear hU4 HC)
      go_roundw
      case rel => exact ⟨k, by simp, by omega, _, HU4.out, HE.out.2, HE.out.1⟩
      case measure => simp [intOf]
set_option maxRecDepth 100000 in
theorem rev_step {i j : Nat} {d : Array Int} (h : i < j) : reverseLoop i j d = reverseLoop (i + 1) (j - 1) (Sort.swp d i j) := by
 conv => lhs; unfold reverseLoop
 rw [if_pos h]
set_option maxRecDepth 100000 in
theorem rev_end {i j : Nat} {d : Array Int} (h : ¬ i < j) : reverseLoop i j d = d := by unfold reverseLoop; rw [if_neg h]
set_option maxHeartbeats 4000000 in
set_option maxRecDepth 100000 in
theorem reverse_any {W : World} {g c : Nat} (a b : Nat) (d : Array Int) (w : World) (h : Us 49 W g d w) (hab : a < b) (hb : b ≤ d.size) (hd : d.size ≤ 1000000) (hc : d.size ≤ c) :
  Calls Tryz.prog 133 #[.slice (some ⟨g, 0, none⟩) d.size c, .int .i64 a, .int .i64 b] w fun e w' => e = .returned (.tuple #[]) ∧ Us 49 W g (reverseRange d a b) w' := by
 obtain ⟨N, hN⟩ : ∃ N, N = d.size := ⟨_, rfl⟩
 unfold reverseRange
 obtain ⟨R, hR⟩ : ∃ R, R = reverseLoop a (b - 1) d := ⟨_, rfl⟩
 rw [← hR]
 obtain ⟨b1, hb1⟩ : ∃ b1, b1 = b - 1 := ⟨_, rfl⟩
 rw [← hb1] at hR
 have HT : Hid (Us 49 W g d w ∧ d.size = N ∧ reverseLoop a b1 d = R) := ⟨h, hN.symm, hR.symm⟩
 rw [← hN] at hb hd hc ⊢
 have rb : (b : Int) - 1 = (b1 : Int) := by omega
 have hNI : (N : Int) ≤ 1000000 := by omega
 have hcI : (N : Int) ≤ c := by omega
 have haI : (a : Int) ≤ 1000000 := by omega
 have ha0 : (0 : Int) ≤ a := by omega
 have hbI : (b : Int) ≤ 1000000 := by omega
 have hb0 : (1 : Int) ≤ b := by omega
 have hb1N : b1 < N := by omega
 have hab1 : a ≤ b1 := by omega
 clear h hN hR hb1
 go_enter Tryz.func133, Tryz.ntmps133
 go_wp2_with fail
 go_loopw [6, 7] (fun v6 v7 wr => ∃ (i j : Nat), v6 = .int .i64 i ∧ v7 = .int .i64 j ∧ i ≤ j + 1 ∧ j < N ∧ Hid (∃ d', Us 49 W g d' wr ∧ d'.size = N ∧ reverseLoop i j d' = R)) (fun v6 v7 _ => (intOf v7 - intOf v6).toNat)
 case atStart => exact ⟨a, b1, rfl, rfl, by omega, hb1N, d, HT.out⟩
 case round =>
  obtain ⟨i, j, rfl, rfl, hij, hjN, HI⟩ := hrel
  clear HT
  obtain ⟨d1, hU, hs, hE⟩ := HI.out
  by_cases hlt : i < j
  ·rw [rev_step hlt] at hE
   obtain ⟨j1, rfl⟩ : ∃ j1, j = j1 + 1 := ⟨j - 1, by omega⟩
   have hltI : (i : Int) < (j1 : Int) + 1 := by omega
   have hi0 : (0 : Int) ≤ i := by omega
   have hj0 : (0 : Int) ≤ (j1 : Int) + 1 := by omega
   have hjNI : (j1 : Int) + 1 < N := by omega
   have hiN : (i : Int) < N := by omega
   have hcx : ((j1 + 1 : Nat) : Int) = (j1 : Int) + 1 := by omega
   rw [hcx]
   have c1 := hU.cell (i := i) (by omega)
   have c2 := hU.cell (i := j1 + 1) (by omega)
   have f1 := hU.fz i
   have f2 := hU.fz (j1 + 1)
   have HSW := hide (And.intro (hU.swp (i := i) (j := j1 + 1) (by omega) (by omega)) ((swp_size d1 i (j1 + 1)).trans hs))
   have HE := hide hE
   generalize d1[i]! = x1 at c1 c2 HSW
   generalize d1[j1 + 1]! = x2 at c1 c2 HSW
   clear HI hU hs hE hcx
   go_upto_region 3 with fail
   go_region
   have HU2 := hide (HSW.out.1.below ((Below.refl _ _).drew))
   have HSZ := hide HSW.out.2
   clear HSW c1 c2 f1 f2
   generalize ((wr.setCell ⟨g, i, none⟩ (.int .u64 x2)).setCell ⟨g, j1 + 1, none⟩ (.int .u64 x1)).drew = w3 at HU2 ⊢
   go_wp2_with fail
   go_roundw
   case rel => exact ⟨i + 1, j1, by simp, by simp, by omega, by omega, _, HU2.out, HSZ.out, HE.out⟩
   case measure => simp [intOf]; omega
  ·rw [rev_end hlt] at hE
   have hltI : ¬ (i : Int) < j := by omega
   have HU := hide (And.intro hU hE)
   clear hU hE hs HI
   go_wp2_with fail
   go_end0
   exact ⟨rfl, by rw [← HU.out.2]; exact HU.out.1⟩
end Go.Proofs.YtnbhchdaobimmaaGreatDoor
/- Contracts: where the pivot is chosen. -/
namespace Go.Srt
open Go.RowKit Go.Sort
/-- The row, and the count of swaps in a block of its own. -/
structure Bx (T : TypeId) (W : World) (g : Nat) (d : Array Int) (sb s : Nat) (w : World) : Prop where
 us : Us T W g d w
 ls : W.heap.size ≤ sb
 box : w.heap[sb]? = some (.cells #[.int .i64 (s : Nat)] 3 (0, 0))
variable {T : TypeId} {W w w' : World} {g sb s : Nat} {d : Array Int}
theorem Bx.below (h : Bx T W g d sb s w) (k : Below w.heap.size w w') : Bx T W g d sb s w' := ⟨h.us.below k, h.ls, (k.block _ (Array.getElem?_eq_some_iff.1 h.box).1).trans h.box⟩
theorem Us.setOther (h : Us T W g d w) (hs : W.heap.size ≤ sb) (v : Value) : Us T W g d (w.setCell ⟨sb, 0, none⟩ v) := by
 have hne : g ≠ sb := by have := h.lt; omega
 refine ⟨?_, h.os, h.tape, h.output, by simpa using h.size, h.lt, fun k hk hn => (heap_setCell_other _ _ _ _ (by show k ≠ sb; omega)).trans (h.other k hk hn), ?_⟩
 ·obtain ⟨cur, h1, h2⟩ := h.row
  exact ⟨cur, (heap_setCell_other _ _ _ _ hne).trans h1, h2⟩
 ·obtain ⟨c0, c1, h1, h2, h3⟩ := h.len
  exact ⟨c0, c1, h1, (heap_setCell_other _ _ _ _ hne).trans h2, h3⟩
theorem Bx.set (h : Bx T W g d sb s w) (n : Nat) : Bx T W g d sb n (w.setCell ⟨sb, 0, none⟩ (.int .i64 (n : Nat))) :=
 ⟨h.us.setOther h.ls _, h.ls, by rw [heap_setCell_same _ _ _ _ _ _ h.box]; rfl⟩
theorem Bx.c (h : Bx T W g d sb s w) : w.cell? ⟨sb, 0, none⟩ = some (.int .i64 (s : Nat)) := (cell_of_row _ _ _ _ _ _ h.box).trans rfl
theorem Bx.f (h : Bx T W g d sb s w) : w.frozen? ⟨sb, 0, none⟩ = false := frozen_of_row _ _ _ _ _ h.box
theorem order2_of (d : Array Int) (a b s : Nat) : ((order2 ltInt d a b s).1 = a ∨ (order2 ltInt d a b s).1 = b) ∧ ((order2 ltInt d a b s).2.1 = a ∨ (order2 ltInt d a b s).2.1 = b) ∧ (order2 ltInt d a b s).2.2 ≤ s + 1 := by
 unfold order2
 split
 ·exact ⟨.inr rfl, .inl rfl, Nat.le_refl _⟩
 ·exact ⟨.inl rfl, .inr rfl, Nat.le_succ _⟩
theorem median_of (d : Array Int) (a b c s : Nat) : ((median ltInt d a b c s).1 = a ∨ (median ltInt d a b c s).1 = b ∨ (median ltInt d a b c s).1 = c) ∧ (median ltInt d a b c s).2 ≤ s + 3 := by
 unfold median
 dsimp only
 have h1 := order2_of d a b s
 have h2 := order2_of d (order2 ltInt d a b s).2.1 c (order2 ltInt d a b s).2.2
 have h3 := order2_of d (order2 ltInt d a b s).1 (order2 ltInt d (order2 ltInt d a b s).2.1 c (order2 ltInt d a b s).2.2).1 (order2 ltInt d (order2 ltInt d a b s).2.1 c (order2 ltInt d a b s).2.2).2.2
 omega
end Go.Srt
namespace Go.Proofs.YtnbhchdaobimmaaGreatDoor
open Go.RowKit Go.Sort Go.Srt Go.Mov
attribute [local go_sem] Oper.semAt_some
set_option maxHeartbeats 4000000 in
set_option maxRecDepth 100000 in
theorem order2_any {W : World} {g c sb s : Nat} (a b N : Nat) (d : Array Int) (w : World) (h : Bx 49 W g d sb s w) (hN : d.size = N) (ha : a < N) (hb : b < N) (hd : N ≤ 1000000) (hc : N ≤ c) (hs : s ≤ 1000) :
  Calls Tryz.prog 154 #[.slice (some ⟨g, 0, none⟩) N c, .int .i64 a, .int .i64 b, .pointer (some ⟨sb, 0, none⟩)] w fun e w' => e = .returned (.tuple #[.int .i64 (order2 ltInt d a b s).1, .int .i64 (order2 ltInt d a b s).2.1]) ∧ Bx 49 W g d sb (order2 ltInt d a b s).2.2 w' := by
 have c1 := h.us.cell (i := a) (by omega)
 have c2 := h.us.cell (i := b) (by omega)
 have haI : (a : Int) < N := by omega
 have hbI : (b : Int) < N := by omega
 have ha0 : (0 : Int) ≤ a := by omega
 have hb0 : (0 : Int) ≤ b := by omega
 have hNI : (N : Int) ≤ 1000000 := by omega
 have hcI : (N : Int) ≤ c := by omega
 have hsI : (s : Int) ≤ 1000 := by omega
 have hs0 : (0 : Int) ≤ s := by omega
 have HLl := hide (fun v => less_any d[b]! d[a]! v)
 obtain ⟨l, hl⟩ : ∃ l, l = ltInt d[b]! d[a]! := ⟨_, rfl⟩
 have hO : order2 ltInt d a b s = if l then (b, a, s + 1) else (a, b, s) := by unfold order2; rw [hl]
 rw [hO]
 rw [← hl] at HLl
 generalize d[a]! = x1 at c1 HLl
 generalize d[b]! = x2 at c2 HLl
 have HB := hide h
 clear h hl hO
 have r1 := cell_regrown c1
 have r2 := cell_regrown c2
 go_enter Tryz.func154, Tryz.ntmps154
 go_upto_region 1 with fail
 refine QuietCalls.region (by kernel_rfl) (by kernel_rfl) ?_
 iterate 8 (first | go_big_quiet_step (fail) | quiet_step (fail))
 refine QuietCalls.call rfl 135 #[.int .u64 x2, .int .u64 x1] (.bool l) (fun v _ => (HLl.out v).mono fun e w' hh => ⟨hh.1, hh.2 ▸ Below.refl _ _⟩) (fun v => by go_simp) ?_; simp only [Act.put, List.setIfInBounds_toArray, List.set_cons_succ, List.set_cons_zero]
 refine wpQuiet_nil ?_
 intro w2 k2
 have HB2 := hide (HB.out.below k2)
 have b1 := HB2.out.c
 have f1 := HB2.out.f
 clear k2 c1 c2 r1 r2 HLl HB
 cases l with
 | true =>
  have hw : IntKind.i64.wrap ((s : Int) + 1) = s + 1 := Sha.wrap_i64 _ (by omega) (by omega)
  go_wp2_with fail
  refine bodyPost_ret (results_tmp2 Tryz.results154 _ _ _) rfl ?_
  exact ⟨rfl, HB2.out.set (s + 1)⟩
 | false =>
  go_wp2_with fail
  refine bodyPost_ret (results_tmp2 Tryz.results154 _ _ _) rfl ?_
  exact ⟨rfl, HB2.out⟩
set_option maxHeartbeats 4000000 in
set_option maxRecDepth 100000 in
theorem median_any {W : World} {g cp sb s : Nat} (a b c N : Nat) (d : Array Int) (w : World) (h : Bx 49 W g d sb s w) (hN : d.size = N) (ha : a < N) (hb : b < N) (hcc : c < N) (hd : N ≤ 1000000) (hc : N ≤ cp) (hs : s ≤ 900) :
  Calls Tryz.prog 148 #[.slice (some ⟨g, 0, none⟩) N cp, .int .i64 a, .int .i64 b, .int .i64 c, .pointer (some ⟨sb, 0, none⟩)] w fun e w' => e = .returned (.int .i64 (median ltInt d a b c s).1) ∧ Bx 49 W g d sb (median ltInt d a b c s).2 w' := by
 have HO := hide (fun (a b s : Nat) (v : World) (hv : Bx 49 W g d sb s v) (ha : a < N) (hb : b < N) (hs : s ≤ 1000) => order2_any (c := cp) a b N d v hv hN ha hb hd hc hs)
 unfold median
 dsimp only
 have h1 := order2_of d a b s
 generalize hr1 : order2 ltInt d a b s = r1 at *
 obtain ⟨r1a, r1b, r1s⟩ := r1
 dsimp only at h1 ⊢
 have h2 := order2_of d r1b c r1s
 generalize hr2 : order2 ltInt d r1b c r1s = r2 at *
 obtain ⟨r2a, r2b, r2s⟩ := r2
 dsimp only at h2 ⊢
 have h3 := order2_of d r1a r2a r2s
 generalize hr3 : order2 ltInt d r1a r2a r2s = r3 at *
 obtain ⟨r3a, r3b, r3s⟩ := r3
 dsimp only at h3 ⊢
 have H1 := hide (HO.out a b s w h ha hb (by omega))
 rw [hr1] at H1
 have H2 := hide (fun v hv => HO.out r1b c r1s v hv (by omega) hcc (by omega))
 rw [hr2] at H2
 have H3 := hide (fun v hv => HO.out r1a r2a r2s v hv (by omega) (by omega) (by omega))
 rw [hr3] at H3
 clear HO h hr1 hr2 hr3
 go_enter Tryz.func148, Tryz.ntmps148
 go_upto_region 2 with (go_at_call 154; refine H1.out.mono ?_; rintro e w1 ⟨rfl, k1⟩; have K1 := hide k1; clear k1 H1)
 go_upto_region 3 with (go_at_call 154; refine (H2.out _ K1.out).mono ?_; rintro e w2 ⟨rfl, k2⟩; have K2 := hide k2; clear k2 H2)
 go_wp2_with (go_at_call 154; refine (H3.out _ K2.out).mono ?_; rintro e w3 ⟨rfl, k3⟩; have K3 := hide k3; clear k3 H3)
 go_ret
 exact ⟨rfl, K3.out⟩
set_option maxHeartbeats 4000000 in
set_option maxRecDepth 100000 in
theorem medAdj_any {W : World} {g cp sb s : Nat} (a N : Nat) (d : Array Int) (w : World) (h : Bx 49 W g d sb s w) (hN : d.size = N) (ha1 : 1 ≤ a) (ha : a + 1 < N) (hd : N ≤ 1000000) (hc : N ≤ cp) (hs : s ≤ 900) :
  Calls Tryz.prog 147 #[.slice (some ⟨g, 0, none⟩) N cp, .int .i64 a, .pointer (some ⟨sb, 0, none⟩)] w fun e w' => e = .returned (.int .i64 (medianAdjacent ltInt d a s).1) ∧ Bx 49 W g d sb (medianAdjacent ltInt d a s).2 w' := by
 unfold medianAdjacent
 have H1 := hide (median_any (cp := cp) (a - 1) a (a + 1) N d w h hN (by omega) (by omega) (by omega) hd hc hs)
 have e1 : ((a - 1 : Nat) : Int) = (a : Int) - 1 := by omega
 have e2 : ((a + 1 : Nat) : Int) = (a : Int) + 1 := by omega
 rw [e1, e2] at H1
 generalize median ltInt d (a - 1) a (a + 1) s = M at H1 ⊢
 have hw1 : IntKind.i64.wrap ((a : Int) - 1) = a - 1 := Sha.wrap_i64 _ (by omega) (by omega)
 have hw2 : IntKind.i64.wrap ((a : Int) + 1) = a + 1 := Sha.wrap_i64 _ (by omega) (by omega)
 clear e1 e2 h
 go_enter Tryz.func147, Tryz.ntmps147
 go_wp2_with (go_at_call 148; refine H1.out.mono ?_; rintro e w1 ⟨rfl, k1⟩; have K1 := hide k1; clear k1 H1)
 go_ret
 exact ⟨rfl, K1.out⟩
/-- The hint's number. -/
def hintN : Hint → Int
 | .unknown => 0
 | .increasing => 1
 | .decreasing => 2
set_option maxHeartbeats 4000000 in
set_option maxRecDepth 100000 in
theorem choose_any {W : World} {g cp : Nat} (a b : Nat) (d : Array Int) (w : World) (h : Us 49 W g d w) (hab : a + 13 ≤ b) (hb : b ≤ d.size) (hd : d.size ≤ 1000000) (hc : d.size ≤ cp) :
  Calls Tryz.prog 132 #[.slice (some ⟨g, 0, none⟩) d.size cp, .int .i64 a, .int .i64 b] w fun e w' => e = .returned (.tuple #[.int .i64 (choosePivot ltInt d a b).1, .int .i64 (hintN (choosePivot ltInt d a b).2)]) ∧ Us 49 W g d w' := by
 obtain ⟨N, hN⟩ : ∃ N, N = d.size := ⟨_, rfl⟩
 rw [← hN] at hb hd hc ⊢
 obtain ⟨l, hl⟩ : ∃ l, l = b - a := ⟨_, rfl⟩
 obtain ⟨q, hq⟩ : ∃ q, q = l / 4 := ⟨_, rfl⟩
 obtain ⟨i, hi⟩ : ∃ i, i = a + q * 1 := ⟨_, rfl⟩
 obtain ⟨j, hj⟩ : ∃ j, j = a + q * 2 := ⟨_, rfl⟩
 obtain ⟨k, hk⟩ : ∃ k, k = a + q * 3 := ⟨_, rfl⟩
 have hs := h.size
 have HB : Hid (Bx 49 W g d w.heap.size 0 (w.alloc (.cells #[.int .i64 0] 3))) := ⟨h.below ((Below.refl _ w).alloc (Nat.le_refl _) _), hs, heap_alloc_new w _⟩
 have rl : (b : Int) - (a : Int) = (l : Int) := by omega
 have rq : (l : Int).tdiv 4 = (q : Int) := by rw [Int.tdiv_eq_ediv_of_nonneg (by omega)]; omega
 have ri : (a : Int) + (q : Int) = (i : Int) := by omega
 have rj : (a : Int) + (q : Int) * 2 = (j : Int) := by omega
 have rk : (a : Int) + (q : Int) * 3 = (k : Int) := by omega
 have hl8 : (8 : Int) ≤ l := by omega
 have hlI : (l : Int) ≤ 1000000 := by omega
 have hq0 : (0 : Int) ≤ q := by omega
 have hqI : (q : Int) ≤ 1000000 := by omega
 have haI : (a : Int) ≤ 1000000 := by omega
 have ha0 : (0 : Int) ≤ a := by omega
 have hbI : (b : Int) ≤ 1000000 := by omega
 have hi1 : 1 ≤ i := by omega
 have hkN : k + 1 < N := by omega
 have hij : i < j ∧ j < k := by omega
 have HMA := hide (fun (x s : Nat) (v : World) (hv : Bx 49 W g d w.heap.size s v) (h1 : 1 ≤ x) (h2 : x + 1 < N) (h3 : s ≤ 900) => medAdj_any (cp := cp) x N d v hv hN.symm h1 h2 hd hc h3)
 have HM := hide (fun (x y z s : Nat) (v : World) (hv : Bx 49 W g d w.heap.size s v) (h1 : x < N) (h2 : y < N) (h3 : z < N) (h4 : s ≤ 900) => median_any (cp := cp) x y z N d v hv hN.symm h1 h2 h3 hd hc h4)
 have hcp : choosePivot ltInt d a b = ((if l ≥ 50 then median ltInt d (medianAdjacent ltInt d i 0).1 (medianAdjacent ltInt d j (medianAdjacent ltInt d i 0).2).1 (medianAdjacent ltInt d k (medianAdjacent ltInt d j (medianAdjacent ltInt d i 0).2).2).1 (medianAdjacent ltInt d k (medianAdjacent ltInt d j (medianAdjacent ltInt d i 0).2).2).2 else median ltInt d i j k 0).1, if (if l ≥ 50 then median ltInt d (medianAdjacent ltInt d i 0).1 (medianAdjacent ltInt d j (medianAdjacent ltInt d i 0).2).1 (medianAdjacent ltInt d k (medianAdjacent ltInt d j (medianAdjacent ltInt d i 0).2).2).1 (medianAdjacent ltInt d k (medianAdjacent ltInt d j (medianAdjacent ltInt d i 0).2).2).2 else median ltInt d i j k 0).2 = 0 then Hint.increasing else if (if l ≥ 50 then median ltInt d (medianAdjacent ltInt d i 0).1 (medianAdjacent ltInt d j (medianAdjacent ltInt d i 0).2).1 (medianAdjacent ltInt d k (medianAdjacent ltInt d j (medianAdjacent ltInt d i 0).2).2).1 (medianAdjacent ltInt d k (medianAdjacent ltInt d j (medianAdjacent ltInt d i 0).2).2).2 else median ltInt d i j k 0).2 = 12 then Hint.decreasing else Hint.unknown) := by
  unfold choosePivot
  dsimp only
  rw [← hl, ← hq, ← hi, ← hj, ← hk, if_pos (by omega)]
 rw [hcp]
 clear h hN hl hi hj hk hcp hq hs
 go_enter Tryz.func132, Tryz.ntmps132
 by_cases h50 : l ≥ 50
 ·have h50I : (50 : Int) ≤ l := by omega
  rw [if_pos h50]
  have m1 := median_of d (i - 1) i (i + 1) 0
  have H1 := hide (HMA.out i 0 _ HB.out hi1 (by omega) (by omega))
  unfold medianAdjacent at H1 ⊢
  generalize hr1 : median ltInt d (i - 1) i (i + 1) 0 = r1 at *
  have m2 := median_of d (j - 1) j (j + 1) r1.2
  have H2 := hide (fun v hv => HMA.out j r1.2 v hv (by omega) (by omega) (by omega))
  unfold medianAdjacent at H2
  generalize hr2 : median ltInt d (j - 1) j (j + 1) r1.2 = r2 at *
  have m3 := median_of d (k - 1) k (k + 1) r2.2
  have H3 := hide (fun v hv => HMA.out k r2.2 v hv (by omega) (by omega) (by omega))
  unfold medianAdjacent at H3
  generalize hr3 : median ltInt d (k - 1) k (k + 1) r2.2 = r3 at *
  have m4 := median_of d r1.1 r2.1 r3.1 r3.2
  have H4 := hide (fun v hv => HM.out r1.1 r2.1 r3.1 r3.2 v hv (by omega) (by omega) (by omega) (by omega))
  generalize hr4 : median ltInt d r1.1 r2.1 r3.1 r3.2 = r4 at *
  obtain ⟨p1, s1⟩ := r1
  obtain ⟨p2, s2⟩ := r2
  obtain ⟨p3, s3⟩ := r3
  obtain ⟨p4, s4⟩ := r4
  dsimp only at H1 H2 H3 H4 m1 m2 m3 m4 ⊢
  clear HMA HM HB hr1 hr2 hr3 hr4
  go_upto_region 9 with (go_at_call 147; refine H1.out.mono ?_; rintro e w1 ⟨rfl, k1⟩; have K1 := hide k1; clear k1 H1)
  go_upto_region 10 with (go_at_call 147; refine (H2.out _ K1.out).mono ?_; rintro e w2 ⟨rfl, k2⟩; have K2 := hide k2; clear k2 H2)
  go_upto_region 12 with (first
   | (go_at_call 147; refine (H3.out _ K2.out).mono ?_; rintro e w3 ⟨rfl, k3⟩; have K3 := hide k3; clear k3 H3)
   | (go_at_call 148; refine (H4.out _ K3.out).mono ?_; rintro e w4 ⟨rfl, k4⟩; have K4 := hide k4; clear k4 H4))
  have b1 := K4.out.c
  have hs4 : (s4 : Int) ≤ 1000 := by omega
  by_cases h0 : s4 = 0
  ·subst h0
   go_wp2_with fail
   refine bodyPost_ret (results_tmp2 Tryz.results132 _ _ _) rfl ?_
   exact ⟨by first | rfl | (rw [if_pos rfl]; rfl), K4.out.us⟩
  ·have h0I : ¬ (s4 : Int) = 0 := by omega
   by_cases h12 : s4 = 12
   ·subst h12
    go_wp2_with fail
    refine bodyPost_ret (results_tmp2 Tryz.results132 _ _ _) rfl ?_
    exact ⟨by first | rfl | (rw [if_neg h0, if_pos rfl]; rfl), K4.out.us⟩
   ·have h12I : ¬ (s4 : Int) = 12 := by omega
    go_wp2_with fail
    refine bodyPost_ret (results_tmp2 Tryz.results132 _ _ _) rfl ?_
    exact ⟨by first | rfl | (rw [if_neg h0, if_neg h12]; rfl), K4.out.us⟩
 ·have h50I : ¬ (50 : Int) ≤ l := by omega
  rw [if_neg h50]
  have m4 := median_of d i j k 0
  have H4 := hide (HM.out i j k 0 _ HB.out (by omega) (by omega) (by omega) (by omega))
  generalize hr4 : median ltInt d i j k 0 = r4 at *
  obtain ⟨p4, s4⟩ := r4
  dsimp only at H4 m4 ⊢
  clear HMA HM HB hr4
  go_upto_region 12 with (go_at_call 148; refine H4.out.mono ?_; rintro e w4 ⟨rfl, k4⟩; have K4 := hide k4; clear k4 H4)
  have b1 := K4.out.c
  have hs4 : (s4 : Int) ≤ 1000 := by omega
  by_cases h0 : s4 = 0
  ·subst h0
   go_wp2_with fail
   refine bodyPost_ret (results_tmp2 Tryz.results132 _ _ _) rfl ?_
   exact ⟨by first | rfl | (rw [if_pos rfl]; rfl), K4.out.us⟩
  ·have h0I : ¬ (s4 : Int) = 0 := by omega
   by_cases h12 : s4 = 12
   ·subst h12
    go_wp2_with fail
    refine bodyPost_ret (results_tmp2 Tryz.results132 _ _ _) rfl ?_
    exact ⟨by first | rfl | (rw [if_neg h0, if_pos rfl]; rfl), K4.out.us⟩
   ·have h12I : ¬ (s4 : Int) = 12 := by omega
    go_wp2_with fail
    refine bodyPost_ret (results_tmp2 Tryz.results132 _ _ _) rfl ?_
    exact ⟨by first | rfl | (rw [if_neg h0, if_neg h12]; rfl), K4.out.us⟩
end Go.Proofs.YtnbhchdaobimmaaGreatDoor
/- Contracts: parting a row by its pivot. -/
namespace Go.Srt
open Go.RowKit Go.Sort
theorem partEq_end {a i j : Nat} {d : Array Int} (h : scanDown (fun x => ltInt d[a]! x) d (scanUp (fun x => !ltInt d[a]! x) d j i) j < scanUp (fun x => !ltInt d[a]! x) d j i) : partEqLoop ltInt a i j d = (scanUp (fun x => !ltInt d[a]! x) d j i, d) := by
 unfold partEqLoop
 dsimp only
 rw [if_pos h]
theorem partEq_step {a i j : Nat} {d : Array Int} (h : ¬ scanDown (fun x => ltInt d[a]! x) d (scanUp (fun x => !ltInt d[a]! x) d j i) j < scanUp (fun x => !ltInt d[a]! x) d j i) (hi : 1 ≤ i) : partEqLoop ltInt a i j d = partEqLoop ltInt a (scanUp (fun x => !ltInt d[a]! x) d j i + 1) (scanDown (fun x => ltInt d[a]! x) d (scanUp (fun x => !ltInt d[a]! x) d j i) j - 1) (Sort.swp d (scanUp (fun x => !ltInt d[a]! x) d j i) (scanDown (fun x => ltInt d[a]! x) d (scanUp (fun x => !ltInt d[a]! x) d j i) j)) := by
 have h1 := scanUp_ge (fun x => !ltInt d[a]! x) d j i
 have h2 := scanDown_le (fun x => ltInt d[a]! x) d (scanUp (fun x => !ltInt d[a]! x) d j i) j
 conv => lhs; unfold partEqLoop
 dsimp only
 rw [if_neg h, dif_pos (by omega)]
end Go.Srt
namespace Go.Proofs.YtnbhchdaobimmaaGreatDoor
open Go.RowKit Go.Sort Go.Srt Go.Mov
attribute [local go_sem] Oper.semAt_some
set_option maxHeartbeats 4000000 in
set_option maxRecDepth 100000 in
theorem partEq_any {W : World} {g c : Nat} (a b pv : Nat) (d : Array Int) (w : World) (h : Us 49 W g d w) (hab : a < b) (hb : b ≤ d.size) (hpa : a < pv) (hpb : pv < b) (hd : d.size ≤ 1000000) (hc : d.size ≤ c) :
  Calls Tryz.prog 136 #[.slice (some ⟨g, 0, none⟩) d.size c, .int .i64 a, .int .i64 b, .int .i64 pv] w fun e w' => e = .returned (.int .i64 (partitionEqual ltInt d a b pv).1) ∧ Us 49 W g (partitionEqual ltInt d a b pv).2 w' := by
 obtain ⟨N, hN⟩ : ∃ N, N = d.size := ⟨_, rfl⟩
 unfold partitionEqual
 obtain ⟨R, hR⟩ : ∃ R, R = partEqLoop ltInt a (a + 1) (b - 1) (Sort.swp d a pv) := ⟨_, rfl⟩
 rw [← hR]
 rw [← hN] at hb hd hc ⊢
 have hNI : (N : Int) ≤ 1000000 := by omega
 have hcI : (N : Int) ≤ c := by omega
 have ha0 : (0 : Int) ≤ a := by omega
 have haN : (a : Int) < N := by omega
 have hp0 : (0 : Int) ≤ pv := by omega
 have hpN : (pv : Int) < N := by omega
 have hbI : (b : Int) ≤ 1000000 := by omega
 have hb1 : (1 : Int) ≤ b := by omega
 have hne1 : ¬ a = pv := by omega
 have hne2 : ¬ pv = a := by omega
 obtain ⟨b1, hb1e⟩ : ∃ b1, b1 = b - 1 := ⟨_, rfl⟩
 have rb : (b : Int) - 1 = (b1 : Int) := by omega
 rw [← hb1e] at hR
 have c1 := h.cell (i := a) (by omega)
 have c2 := h.cell (i := pv) (by omega)
 have f1 := h.fz a
 have f2 := h.fz pv
 have HSW := hide (And.intro (h.swp (i := a) (j := pv) (by omega) (by omega)) (And.intro ((swp_size d a pv).trans hN.symm) hR.symm))
 have hb1N : b1 < N := by omega
 have hab1 : a ≤ b1 := by omega
 generalize Sort.swp d a pv = d0 at HSW
 generalize d[a]! = x1 at c1 HSW
 generalize d[pv]! = x2 at c2 HSW
 clear h hN hR hb1e
 go_enter Tryz.func136, Tryz.ntmps136
 go_upto_region 1 with fail
 go_region
 have HU0 : Hid (Us 49 W g d0 ((w.setCell ⟨g, a, none⟩ (.int .u64 x2)).setCell ⟨g, pv, none⟩ (.int .u64 x1)).drew ∧ d0.size = N ∧ partEqLoop ltInt a (a + 1) b1 d0 = R) := ⟨HSW.out.1.below ((Below.refl _ _).drew), HSW.out.2⟩
 clear HSW c1 c2 f1 f2 hne1 hne2
 generalize ((w.setCell ⟨g, a, none⟩ (.int .u64 x2)).setCell ⟨g, pv, none⟩ (.int .u64 x1)).drew = w0 at HU0 ⊢
 go_wp2_with fail
 go_loopw [9, 10] (fun v9 v10 wr => ∃ (i j : Nat), v9 = .int .i64 i ∧ v10 = .int .i64 j ∧ a + 1 ≤ i ∧ i ≤ N ∧ j < N ∧ Hid (∃ d', Us 49 W g d' wr ∧ d'.size = N ∧ partEqLoop ltInt a i j d' = R)) (fun v9 v10 _ => (intOf v10 + 1 - intOf v9).toNat)
 case atStart => exact ⟨a + 1, b1, by simp, rfl, Nat.le_refl _, by omega, hb1N, d0, HU0.out⟩
 case round =>
  obtain ⟨i, j, rfl, rfl, hi1, hiN, hjN, HI⟩ := hrel
  clear HU0
  obtain ⟨d1, hU, hs, hE⟩ := HI.out
  obtain ⟨i2, hi2⟩ : ∃ i2, i2 = scanUp (fun x => !ltInt d1[a]! x) d1 j i := ⟨_, rfl⟩
  have HU1 : Hid (Us 49 W g d1 wr ∧ d1.size = N ∧ scanUp (fun x => !ltInt d1[a]! x) d1 j i = i2) := ⟨hU, hs, hi2.symm⟩
  have HE := hide (And.intro hE (And.intro hs hi2))
  clear HI hU hs hE hi2
  go_upto_block 2 with fail
  go_cut [9] (fun v wx => v = .int .i64 i2 ∧ i ≤ i2 ∧ i2 ≤ N ∧ Hid (Us 49 W g d1 wx))
  case first =>
   have HS0 : Hid (Us 49 W g d1 wr ∧ scanUp (fun x => !ltInt d1[a]! x) d1 j i = i2) := ⟨HU1.out.1, HU1.out.2.2⟩
   go_wp2_with fail
   go_loopw [9] (fun v wr => ∃ x : Nat, v = .int .i64 x ∧ i ≤ x ∧ x ≤ N ∧ Hid (Us 49 W g d1 wr ∧ scanUp (fun x => !ltInt d1[a]! x) d1 j x = i2)) (fun v _ => N + 1 - (intOf v).toNat)
   case atStart => exact ⟨i, rfl, Nat.le_refl _, hiN, HS0.out⟩
   case round =>
    obtain ⟨x, rfl, hx1, hx2, HX⟩ := hrel
    clear HS0
    by_cases hcond : x ≤ j
    ·have hcI : (x : Int) ≤ j := by omega
     have hx0 : (0 : Int) ≤ x := by omega
     have hxN : (x : Int) < N := by omega
     have c1 := HX.out.1.cell (i := a) (by rw [HE.out.2.1]; omega)
     have c2 := HX.out.1.cell (i := x) (by rw [HE.out.2.1]; omega)
     have HLl := hide (fun v => less_any d1[a]! d1[x]! v)
     obtain ⟨l, hl⟩ : ∃ l, l = ltInt d1[a]! d1[x]! := ⟨_, rfl⟩
     rw [← hl] at HLl
     have HLT := hide hl
     generalize hy1 : d1[a]! = y1 at c1 c2 HLl
     generalize hy2 : d1[x]! = y2 at c1 c2 HLl
     have r1 := cell_regrown c1
     have r2 := cell_regrown c2
     have HY := hide hy1
     clear hl hy1 hy2
     go_upto_region 3 with fail
     refine QuietCalls.region (by kernel_rfl) (by kernel_rfl) ?_
     iterate 12 (first | go_big_quiet_step (fail) | quiet_step (fail))
     refine QuietCalls.call rfl 135 #[.int .u64 y1, .int .u64 y2] (.bool l) (fun v _ => (HLl.out v).mono fun e w' hh => ⟨hh.1, hh.2 ▸ Below.refl _ _⟩) (fun v => by go_simp) ?_; simp only [Act.put, List.setIfInBounds_toArray, List.set_cons_succ, List.set_cons_zero]
     iterate 2 (first | go_big_quiet_step (fail) | quiet_step (fail))
     refine wpQuiet_nil ?_
     intro w2 k2
     have HU2 := hide (HX.out.1.below k2)
     clear k2 c1 c2 r1 r2 HLl
     cases l with
     | true =>
      have hst : Hid (x = i2) := by
       have h1 := HX.out.2
       rw [scanUp_end _ _ _ _ (.inr (by show (!ltInt d1[a]! d1[x]!) = false; rw [← HLT.out]; rfl))] at h1
       exact h1
      go_wp2_with fail
      go_meet
      exact ⟨by rw [hst.out], by rw [← hst.out]; exact hx1, by rw [← hst.out]; exact hx2, HU2.out⟩
     | false =>
      have hgo : Hid (scanUp (fun x => !ltInt d1[a]! x) d1 j (x + 1) = i2) := by
       have h1 := HX.out.2
       rw [scanUp_go _ _ _ _ hcond (by show (!ltInt d1[a]! d1[x]!) = true; rw [← HLT.out]; rfl)] at h1
       exact h1
      go_wp2_with fail
      go_roundw
      case rel => exact ⟨x + 1, by simp, by omega, by omega, HU2.out, by rw [← HY.out]; exact hgo.out⟩
      case measure => simp [intOf]; omega
    ·have hcI : ¬ ((x : Int) ≤ j) := by omega
     have hst : Hid (x = i2) := by
      have h1 := HX.out.2
      rw [scanUp_end _ _ _ _ (.inl hcond)] at h1
      exact h1
     go_upto_region 3 with fail
     refine QuietCalls.region (by kernel_rfl) (by kernel_rfl) ?_
     iterate 15 (first | go_big_quiet_step (fail) | quiet_step (fail))
     refine wpQuiet_nil ?_
     intro w2 k2
     have HU2 := hide (HX.out.1.below k2)
     clear k2
     go_wp2_with fail
     go_meet
     exact ⟨by rw [hst.out], by rw [← hst.out]; exact hx1, by rw [← hst.out]; exact hx2, HU2.out⟩
  case rest =>
   obtain ⟨rfl, hii, hi2N, HU2⟩ := hcut
   have hi2e := hide HE.out.2.2
   obtain ⟨j2, hj2⟩ : ∃ j2, j2 = scanDown (fun x => ltInt d1[a]! x) d1 i2 j := ⟨_, rfl⟩
   have HJ2 := hide hj2.symm
   clear hj2 HU1
   go_upto_block 4 with fail
   go_cut [10] (fun v wx => v = .int .i64 j2 ∧ j2 ≤ j ∧ Hid (Us 49 W g d1 wx))
   case first =>
    have HS0 : Hid (Us 49 W g d1 wc ∧ scanDown (fun x => ltInt d1[a]! x) d1 i2 j = j2) := ⟨HU2.out, HJ2.out⟩
    clear HU2
    go_wp2_with fail
    go_loopw [10] (fun v wr => ∃ x : Nat, v = .int .i64 x ∧ x ≤ j ∧ x < N ∧ Hid (Us 49 W g d1 wr ∧ scanDown (fun x => ltInt d1[a]! x) d1 i2 x = j2)) (fun v _ => (intOf v).toNat)
    case atStart => exact ⟨j, rfl, Nat.le_refl _, hjN, HS0.out⟩
    case round =>
     obtain ⟨x, rfl, hx1, hx2, HX⟩ := hrel
     clear HS0
     by_cases hcond : i2 ≤ x
     ·have hcI : (i2 : Int) ≤ x := by omega
      have hx0 : (0 : Int) ≤ x := by omega
      have hxN : (x : Int) < N := by omega
      have c1 := HX.out.1.cell (i := a) (by rw [HE.out.2.1]; omega)
      have c2 := HX.out.1.cell (i := x) (by rw [HE.out.2.1]; omega)
      have HLl := hide (fun v => less_any d1[a]! d1[x]! v)
      obtain ⟨l, hl⟩ : ∃ l, l = ltInt d1[a]! d1[x]! := ⟨_, rfl⟩
      rw [← hl] at HLl
      have HLT := hide hl
      generalize hy1 : d1[a]! = y1 at c1 c2 HLl
      generalize hy2 : d1[x]! = y2 at c1 c2 HLl
      have r1 := cell_regrown c1
      have r2 := cell_regrown c2
      have HY := hide hy1
      clear hl hy1 hy2
      go_upto_region 5 with fail
      refine QuietCalls.region (by kernel_rfl) (by kernel_rfl) ?_
      iterate 12 (first | go_big_quiet_step (fail) | quiet_step (fail))
      refine QuietCalls.call rfl 135 #[.int .u64 y1, .int .u64 y2] (.bool l) (fun v _ => (HLl.out v).mono fun e w' hh => ⟨hh.1, hh.2 ▸ Below.refl _ _⟩) (fun v => by go_simp) ?_; simp only [Act.put, List.setIfInBounds_toArray, List.set_cons_succ, List.set_cons_zero]
      iterate 1 (first | go_big_quiet_step (fail) | quiet_step (fail))
      refine wpQuiet_nil ?_
      intro w2 k2
      have HU2 := hide (HX.out.1.below k2)
      clear k2 c1 c2 r1 r2 HLl
      cases l with
      | false =>
       have hst : Hid (x = j2) := by
        have h1 := HX.out.2
        rw [scanDown_end _ _ _ _ (.inr (by show (ltInt d1[a]! d1[x]!) = false; rw [← HLT.out]))] at h1
        exact h1
       go_wp2_with fail
       go_meet
       exact ⟨by rw [hst.out], by rw [← hst.out]; exact hx1, HU2.out⟩
      | true =>
       have hgo : Hid (scanDown (fun x => ltInt d1[a]! x) d1 i2 (x - 1) = j2) := by
        have h1 := HX.out.2
        rw [scanDown_go _ _ _ _ hcond (by omega) (by show ltInt d1[a]! d1[x]! = true; rw [← HLT.out])] at h1
        exact h1
       go_wp2_with fail
       go_roundw
       case rel => exact ⟨x - 1, (by have : 1 ≤ x := (by omega); simp; omega), by omega, by omega, HU2.out, by rw [← HY.out]; exact hgo.out⟩
       case measure => simp [intOf]; omega
     ·have hcI : ¬ ((i2 : Int) ≤ x) := by omega
      have hst : Hid (x = j2) := by
       have h1 := HX.out.2
       rw [scanDown_end _ _ _ _ (.inl hcond)] at h1
       exact h1
      go_upto_region 5 with fail
      refine QuietCalls.region (by kernel_rfl) (by kernel_rfl) ?_
      iterate 14 (first | go_big_quiet_step (fail) | quiet_step (fail))
      refine wpQuiet_nil ?_
      intro w2 k2
      have HU2 := hide (HX.out.1.below k2)
      clear k2
      go_wp2_with fail
      go_meet
      exact ⟨by rw [hst.out], by rw [← hst.out]; exact hx1, HU2.out⟩
   case rest =>
    rename_i wc0
    obtain ⟨rfl, hjj, HU3⟩ := hcut
    clear HU2
    by_cases hbr : j2 < i2
    ·have hbrI : (j2 : Int) < i2 := by omega
     have hR : Hid (R = (i2, d1)) := by
      have h1 := HE.out.1
      rw [partEq_end (by rw [← hi2e.out, HJ2.out]; exact hbr), ← hi2e.out] at h1
      exact h1.symm
     go_wp2_with fail
     go_ret
     rw [hR.out]
     exact ⟨rfl, HU3.out⟩
    ·have hbrI : ¬ (j2 : Int) < i2 := by omega
     have hR : Hid (partEqLoop ltInt a (i2 + 1) (j2 - 1) (Sort.swp d1 i2 j2) = R) := by
      have h1 := HE.out.1
      rw [partEq_step (by rw [← hi2e.out, HJ2.out]; exact hbr) (by omega), ← hi2e.out, HJ2.out] at h1
      exact h1
     have hi20 : (0 : Int) ≤ i2 := by omega
     have hj20 : (0 : Int) ≤ j2 := by omega
     have hi2I : (i2 : Int) < N := by omega
     have hj2I : (j2 : Int) < N := by omega
     have hs1 := HE.out.2.1
     have hrj : (j2 : Int) - 1 = ((j2 - 1 : Nat) : Int) := by omega
     have c1 := HU3.out.cell (i := i2) (by omega)
     have c2 := HU3.out.cell (i := j2) (by omega)
     have f1 := HU3.out.fz i2
     have f2 := HU3.out.fz j2
     have HSW := hide (And.intro (HU3.out.swp (i := i2) (j := j2) (by omega) (by omega)) ((swp_size d1 i2 j2).trans hs1))
     by_cases hsame : i2 = j2
     ·subst hsame
      generalize d1[i2]! = y1 at c1 c2 HSW
      clear hs1
      go_upto_region 8 with fail
      go_region
      have HU4 := hide (And.intro (HSW.out.1.below ((Below.refl _ _).drew)) HSW.out.2)
      clear HSW c1 c2 f1 f2
      generalize ((wc.setCell ⟨g, i2, none⟩ (.int .u64 y1)).setCell ⟨g, i2, none⟩ (.int .u64 y1)).drew = w4 at HU4 ⊢
      go_wp2_with fail
      go_roundw
      case rel => exact ⟨i2 + 1, i2 - 1, by simp, by simp, by omega, by omega, by omega, _, HU4.out.1, HU4.out.2, hR.out⟩
      case measure => simp [intOf]; omega
     ·have hne1 : ¬ i2 = j2 := hsame
      have hne2 : ¬ j2 = i2 := fun e => hsame e.symm
      generalize d1[i2]! = y1 at c1 HSW
      generalize d1[j2]! = y2 at c2 HSW
      clear hs1
      go_upto_region 8 with fail
      go_region
      have HU4 := hide (And.intro (HSW.out.1.below ((Below.refl _ _).drew)) HSW.out.2)
      clear HSW c1 c2 f1 f2
      generalize ((wc.setCell ⟨g, i2, none⟩ (.int .u64 y2)).setCell ⟨g, j2, none⟩ (.int .u64 y1)).drew = w4 at HU4 ⊢
      go_wp2_with fail
      go_roundw
      case rel => exact ⟨i2 + 1, j2 - 1, by simp, by simp, by omega, by omega, by omega, _, HU4.out.1, HU4.out.2, hR.out⟩
      case measure => simp [intOf]; omega
end Go.Proofs.YtnbhchdaobimmaaGreatDoor
