/- Contract: the numbers of a disk's segments, the greatest one first, gone over by a function. -/
import Derived.RangeFuncNested
import Derived.RangeFuncBound
import Derived.RangeFuncCalls
import Derived.RangeFuncLeaves
import Derived.Shelf.Abstract
import Derived.Shelf.RegionOpen
import Derived.OwnWalkIn
import Derived.TacticsInMore
import Derived.LoopNIn
import Derived.LoopIn
import Derived.Maps.OwnIn
import Derived.Sort.OwnSortedInts
import Derived.Test.YtoineobjmllicaaGreatDoorWalTake
namespace Go.Wal
open Go.RowKit Go.Dk
/-- Numbers that an int holds. -/
abbrev I63 := { n : Nat // n < 9223372036854775808 }
/-- The numbers of names that are segments'. -/
def numsOf (ns : List Bs) : List Nat := (ns.map numOf).filter fun n => decide (0 < n)
/-- The numbers of the segments, the least one first. -/
def ups (fs : List AF) : List Nat := (numsOf (fs.map AF.name)).mergeSort fun x y => decide (x ≤ y)
/-- .. the greatest one first. -/
def nums (fs : List AF) : List Nat := (ups fs).reverse
theorem numOf_lt (l : Bs) : numOf l < 9223372036854775808 := by
  unfold numOf
  cases h : Lib.atoiAll (Lib.trimPrefix l logB) with
  | ok v =>
    simp only
    split
    · have := atoi_le h; omega
    · decide
  | «syntax» => exact Nat.zero_lt_of_lt (by decide : 0 < 9223372036854775808)
  | range => exact Nat.zero_lt_of_lt (by decide : 0 < 9223372036854775808)
theorem numsOf_snoc (ns : List Bs) (i : Nat) (l : Bs) (h : ns[i]? = some l) : numsOf (ns.take (i + 1)) = numsOf (ns.take i) ++ if 0 < numOf l then [numOf l] else [] := by
  unfold numsOf
  rw [List.take_add_one, h, List.map_append, List.filter_append]
  congr 1
  show ([numOf l].filter fun n => decide (0 < n)) = _
  by_cases h0 : 0 < numOf l
  · simp [h0]
  · simp [h0]
theorem numsOf_length (ns : List Bs) : (numsOf ns).length ≤ ns.length := Nat.le_trans (List.length_filter_le _ _) (by simp)
theorem ups_length (fs : List AF) : (ups fs).length ≤ fs.length := by
  unfold ups
  rw [List.length_mergeSort]
  exact Nat.le_trans (numsOf_length _) (by simp)
theorem ups_lt (fs : List AF) : ∀ n ∈ ups fs, n < 9223372036854775808 := fun n hn => by
  unfold ups at hn
  rw [List.mem_mergeSort] at hn
  obtain ⟨l, _, rfl⟩ := List.mem_map.1 (List.mem_filter.1 hn).1
  exact numOf_lt l
theorem sort_ints (l : List Nat) : ((l.map fun n : Nat => (n : Int)).mergeSort fun x y => decide (x ≤ y)) = (l.mergeSort fun x y => decide (x ≤ y)).map fun n : Nat => (n : Int) :=
  (List.map_mergeSort fun a _ b _ => by simp).symm
/-- Numbers as cells. -/
def iv (l : List Nat) : List Value := l.map fun n : Nat => Value.int .i64 (n : Int)
theorem iv_ints (l : List Nat) : iv l = (l.map fun n : Nat => (n : Int)).map (Value.int .i64) := by unfold iv; rw [List.map_map]; rfl
/-- A row of these numbers, laid since. -/
def RowIs (n0 : Nat) (w : World) (va : Option Addr) (vc : Nat) (U : List Nat) : Prop := ∀ (j x : Nat), U[j]? = some x → ∃ g cs, va = some ⟨g, 0, none⟩ ∧ n0 ≤ g ∧ U.length ≤ vc ∧ w.heap[g]? = some (.cells cs 3 (0, 0)) ∧ cs[j]? = some (.int .i64 (x : Int))
theorem RowIs.of_own {n0 base : Nat} {w : World} {va : Option Addr} {vc : Nat} {U : List Nat} (h : w.ownsRow base 3 1 (.slice va U.length vc) U.length (iv U)) (hb : n0 ≤ base) : RowIs n0 w va vc U := fun j x hj => by
  have hjl := (List.getElem?_eq_some_iff.1 hj).1
  rcases h.2 with ⟨_, h2⟩ | ⟨g, cap, cur, h1, h2, h3, h4, _, h6, h7⟩
  · omega
  · cases h1
    refine ⟨g, cur, rfl, Nat.le_trans hb h2, h4, h3, ?_⟩
    rw [← Array.getElem?_toList]
    have : (cur.toList.take (U.length * 1))[j]? = cur.toList[j]? := List.getElem?_take_of_lt (by omega)
    rw [← this, h7]
    unfold iv
    rw [List.getElem?_map, hj]
    rfl
/-- What a round keeps: rows of numbers that were laid since. -/
structure KeepsInts (n0 : Nat) (W W' : World) : Prop where
  size : W.heap.size ≤ W'.heap.size
  same : ∀ k cs, n0 ≤ k → W.heap[k]? = some (.cells cs 3 (0, 0)) → W'.heap[k]? = some (.cells cs 3 (0, 0))
theorem KeepsInts.trans {n0 : Nat} {A B C : World} (h : KeepsInts n0 A B) (k : KeepsInts n0 B C) : KeepsInts n0 A C := ⟨Nat.le_trans h.size k.size, fun i cs hi h1 => k.same i cs hi (h.same i cs hi h1)⟩
theorem RowIs.keeps {n0 : Nat} {w w' : World} {va : Option Addr} {vc : Nat} {U : List Nat} (h : RowIs n0 w va vc U) (k : KeepsInts n0 w w') : RowIs n0 w' va vc U := fun j x hj => by
  obtain ⟨g, cs, h1, h2, h3, h4, h5⟩ := h j x hj
  exact ⟨g, cs, h1, h2, h3, k.same g cs h2 h4, h5⟩
end Go.Wal
namespace Go.Proofs.YtoineobjmllicaaGreatDoor
open Go.RowKit Go.Shelf Go.Dk Go.Wal
attribute [local go_sem] Oper.semAt_some
variable {M : Nat → Prop}
theorem grown_of {w w' : World} (h : Below w.heap.size w w') : w.grownBy w' none := ⟨h.os, h.tape, h.output, h.size, fun k hk _ => h.block k hk⟩
theorem sortI_any (base : Nat) (v : Value) (zs : List Int) (w : World) (hown : w.ownsRow base 3 1 v zs.length (zs.map (Value.int .i64))) (hl : zs.length ≤ 1000000) :
    Calls Tryz.prog 97 #[v] w fun e w' => e = .returned (.tuple #[]) ∧ w'.ownsRow base 3 1 v zs.length ((zs.mergeSort fun x y => decide (x ≤ y)).map (Value.int .i64)) ∧ Below base w w' := by
  rcases hown.2 with ⟨h1, h2⟩ | ⟨g, cap, cur, h1, h2, h3, h4, h5, h6, h7⟩
  · have hz : zs = [] := List.length_eq_zero_iff.1 h2
    subst hz
    rw [h1]
    refine (AnyM.slices_Sort_int_none sortIL none 0 w).mono ?_
    rintro e w' ⟨he, rfl⟩
    exact ⟨he, by rw [List.mergeSort_nil]; exact World.ownsRow_nil _ _ _ _, Below.refl _ _⟩
  · rw [h1]
    refine (AnyM.slices_Sort_int sortIL g 0 cap zs w (holds_of_blockI h3 (by rw [Nat.mul_one] at h7; exact h7)) (block_lt h3) (by omega)).mono ?_
    rintro e w' ⟨he, n, os, rfl⟩
    refine ⟨he, ownsRow_sortedI (List.length_mergeSort _) h2 h3 h4 h5 h6, ?_⟩
    exact (Below.refl base w).grown (grownBy_sortedI _) (by have := block_lt h3; omega) fun k e => by cases e; exact h2
theorem under_ints : Tryz.prog.underlying 31 = some (.slice 3) := by kernel_rfl
theorem info_int : (Tryz.prog.info? 3).map (fun i => (i.zero, i.size, i.bytes)) = some (some (.int .i64 0), 1, 8) := by kernel_rfl
set_option maxHeartbeats 2000000 in
theorem last_in (base K d bx n0 m : Nat) (S : WD) (w0 : World) (hD : DiskAt Tryz.prog M base K d w0 S) (hv : Vars w0) (hbx : w0.cell? ⟨bx, 0, none⟩ = some (.pointer (some ⟨d, 0, none⟩))) (hn0 : n0 ≤ w0.heap.size) :
    SeqStopsK Fence.wide m Tryz.prog 95 #[.pointer (some ⟨bx, 0, none⟩)] (fun x : I63 => #[.int .i64 x.1]) (KeepsInts n0) (fun xs => xs.map Subtype.val = nums S.a.files) (fun pre => pre.map Subtype.val <+: nums S.a.files) (S.a.files.length) w0 := by
  intro l J Jx W hW hJ hJx hY h0
  refine callsIn_of_wp Tryz.func95 rfl trivial ?_ rfl
  simp only [Tryz.ntmps95, List.size_toArray, List.length_cons, List.length_nil, Nat.reduceAdd, Nat.reduceSub, Array.replicate_succ, Array.replicate_zero, List.push_toArray, List.append_toArray, List.nil_append, List.cons_append]
  have hDW := hD.below hW
  have hvW : Vars W := Vars.below hv hW
  have hb1 : W.cell? ⟨bx, 0, none⟩ = some (.pointer (some ⟨d, 0, none⟩)) := (hW.cell (p := ⟨bx, 0, none⟩) (cell_lt hbx)).trans hbx
  have HN : Hid (Calls Tryz.prog 24 #[.pointer (some ⟨d, 0, none⟩)] W fun e w' => ∃ v, e = .returned v ∧ w'.ownsRow W.heap.size 9 1 v S.fs.length ((S.fs.map WF.nm).map Go.Proofs.encStr) ∧ Below W.heap.size W w') := names_any base K d S W hDW
  have HSAME : Hid (S.fs.map WF.nm = S.a.files.map AF.name) := by
    show _ = _
    rw [← hD.same, List.map_map]
    rfl
  have hcnt : S.fs.length ≤ 5000 := Nat.le_trans hD.count hD.lim
  have HNM : Hid (∀ (i : Nat) (l : Bs), (S.fs.map WF.nm)[i]? = some l → l.length ≤ 1000) := fun i l hl => by
    obtain ⟨F, hF, rfl⟩ := List.mem_map.1 (List.mem_of_getElem? hl)
    have hn := (hD.small F hF).name
    unfold nameOk at hn
    simp only [Bool.and_eq_true, decide_eq_true_eq] at hn
    have := hn.1.2
    show F.a.name.length ≤ 1000
    omega
  have hlen : (S.fs.map WF.nm).length = S.fs.length := List.length_map ..
  obtain ⟨i3, hi3, hz0, hz1, hz2⟩ := info_parts info_int
  have HV := hide hvW
  have HJ := hide (And.intro hJ (And.intro hJx (And.intro hY h0)))
  have hnW : n0 ≤ W.heap.size := Nat.le_trans hn0 hW.size
  clear hJ hJx hY h0 hv hvW hD hDW hW hbx
  gi_wp2_with (refine ⟨trivial, fun h => (by cases h), ?_⟩; gi_at_call 24; refine (callsIn_wide.2 HN.out).mono ?_; rintro e w1 ⟨v, rfl, hown, k1⟩; have H1 := hide (And.intro hown k1); obtain ⟨na, nc, hnv⟩ := own_form hown; subst hnv; clear hown k1)
  clear HN
  have HT : Hid (∀ i l, (S.fs.map WF.nm)[i]? = some l → ∃ b off, na = some ⟨b, off, none⟩ ∧ S.fs.length ≤ nc ∧ w1.cell? ⟨b, off + i, none⟩ = some (.string ⟨l.toArray⟩)) := fun i l hl => by
    have hx := H1.out.1
    rw [← hlen] at hx
    obtain ⟨a, c, h1, h2, h3⟩ := Texts.of_own hx
    cases h1
    obtain ⟨b, off, h4, h5⟩ := h3 i l hl
    exact ⟨b, off, h4, by rw [← hlen]; exact h2, h5⟩
  gi_loopw [3, 11] (fun vn vi wr => ∃ i : Nat, i ≤ S.fs.length ∧ vi = .int .i64 i ∧ Hid (wr.ownsRow w1.heap.size 3 1 vn (numsOf ((S.fs.map WF.nm).take i)).length (iv (numsOf ((S.fs.map WF.nm).take i))) ∧ Below W.heap.size W wr ∧ Below w1.heap.size w1 wr)) (fun _ vi _ => S.fs.length - (intOf vi).toNat)
  case atStart => exact ⟨0, Nat.zero_le _, rfl, World.ownsRow_nil _ _ _ _, H1.out.2, Below.refl _ _⟩
  case round =>
    obtain ⟨i, hi, rfl, HH⟩ := hrel
    obtain ⟨va, vc, hva⟩ := own_form HH.out.1
    subst hva
    by_cases hlt : i < S.fs.length
    · obtain ⟨l, hl⟩ : ∃ l, (S.fs.map WF.nm)[i]? = some l := ⟨_, List.getElem?_eq_getElem (by rw [hlen]; exact hlt)⟩
      obtain ⟨b, off, rfl, hcap, hcell⟩ := HT.out i l hl
      have q0 : wr.cell? ⟨b, off + i, none⟩ = some (.string ⟨l.toArray⟩) := (HH.out.2.2.cell (p := ⟨b, off + i, none⟩) (cell_lt hcell)).trans hcell
      have HNUM : Hid (Calls Tryz.prog 96 #[.string ⟨l.toArray⟩] wr fun e w' => e = .returned (.int .i64 (numOf l)) ∧ Below wr.heap.size wr w') := segNumber_any l wr (Vars.below HV.out HH.out.2.1) (HNM.out i l hl)
      have HSN := hide (numsOf_snoc _ i l hl)
      clear hl hcell
      have hnl : (numsOf ((S.fs.map WF.nm).take i)).length ≤ i := Nat.le_trans (numsOf_length _) (by rw [List.length_take]; omega)
      by_cases h0 : 0 < numOf l
      · rw [if_pos h0] at HSN
        generalize numOf l = x at *
        generalize numsOf ((S.fs.map WF.nm).take i) = L at *
        gi_wp2_with (first
          | (refine ⟨trivial, fun h => (by cases h), ?_⟩; gi_at_call 96; refine (callsIn_wide.2 HNUM.out).mono ?_; rintro e w2 ⟨rfl, k2⟩; have K2 := hide k2; clear k2)
          | (gi_at_builtin; refine wpListIn_append_own _ rfl _ _ 31 rfl w1.heap.size 3 i3 (.int .i64 0) 1 8 under_ints hi3 hz0 hz1 hz2 rfl (by decide) _ _ _ rfl ((own_below HH.out.1 K2.out).alloc _) ⟨w2.heap.size, 0, none⟩ 1 1 [.int .i64 x] rfl rfl (cell_one_new _ _ _) ?a2 ?a3 ?a4 ?a5 ?_))
        case a2 => intro u hu; simp at hu; subst hu; rfl
        case a3 => unfold maxLen; omega
        case a4 => omega
        case a5 => have h1 := HH.out.2.2.size; have h2 := K2.out.size; simp; omega
        intro v' w3 hown hgrow _
        obtain ⟨g, cap, rfl⟩ := ownsRow_succ hown
        have H3 : Hid (w3.ownsRow w1.heap.size 3 1 (.slice (some ⟨g, 0, none⟩) (L.length + 1) cap) (L ++ [x]).length (iv (L ++ [x])) ∧ Below W.heap.size W w3 ∧ Below w1.heap.size w1 w3) := by
          have hb2 : Below w1.heap.size w1 w2 := HH.out.2.2.trans (K2.out.mono HH.out.2.2.size)
          have hb3 := (hb2.alloc hb2.size (.cells #[.int .i64 (x : Int)] 3)).grown hgrow (hb2.alloc hb2.size _).size fun k e => ownsRow_ge HH.out.1 e
          refine ⟨?_, H1.out.2.trans (hb3.mono H1.out.2.size), hb3⟩
          rw [List.length_append]
          unfold iv at hown ⊢
          rw [List.map_append]
          exact hown
        clear hown hgrow
        gi_wp2_with fail
        refine ⟨⟨i + 1, by omega, by go_num, ?_⟩, by simp [intOf]; omega⟩
        rw [HSN.out]
        exact H3
      · rw [if_neg h0, List.append_nil] at HSN
        have h00 : numOf l = 0 := by omega
        rw [h00] at HNUM
        gi_wp2_with (refine ⟨trivial, fun h => (by cases h), ?_⟩; gi_at_call 96; refine (callsIn_wide.2 HNUM.out).mono ?_; rintro e w2 ⟨rfl, k2⟩; have K2 := hide k2; clear k2)
        refine ⟨⟨i + 1, by omega, by go_num, ?_⟩, by simp [intOf]; omega⟩
        rw [HSN.out]
        exact ⟨own_below HH.out.1 K2.out, HH.out.2.1.trans (K2.out.mono HH.out.2.1.size), HH.out.2.2.trans (K2.out.mono HH.out.2.2.size)⟩
    · have hie : i = S.fs.length := by omega
      have HU : Hid (numsOf ((S.fs.map WF.nm).take i) = numsOf (S.a.files.map AF.name)) := by
        show _ = _
        rw [hie, List.take_of_length_le (by rw [hlen]; exact Nat.le_refl _), HSAME.out]
      have hul : (ups S.a.files).length = (numsOf ((S.fs.map WF.nm).take i)).length := by rw [HU.out]; unfold ups; rw [List.length_mergeSort]
      have HSORT : Hid (Calls Tryz.prog 97 #[.slice va (numsOf ((S.fs.map WF.nm).take i)).length vc] wr fun e w' => e = .returned (.tuple #[]) ∧ w'.ownsRow w1.heap.size 3 1 (.slice va (ups S.a.files).length vc) (ups S.a.files).length (iv (ups S.a.files)) ∧ Below W.heap.size W w' ∧ Below w1.heap.size w1 w') := by
        have hx := HH.out.1
        rw [hul]
        generalize numsOf ((S.fs.map WF.nm).take i) = L at *
        have hL : (L.map fun n : Nat => (n : Int)).length = L.length := List.length_map ..
        rw [iv_ints, ← hL] at hx
        have := sortI_any w1.heap.size _ _ wr hx (by rw [hL, ← hul]; exact Nat.le_trans (ups_length _) (by have := congrArg List.length HSAME.out; simp only [List.length_map] at this; omega))
        rw [hL] at this
        refine this.mono ?_
        rintro e w' ⟨he, ho, hb⟩
        have hb1 := HH.out.2.2.trans hb
        refine ⟨he, ?_, H1.out.2.trans (hb1.mono H1.out.2.size), hb1⟩
        rw [sort_ints] at ho
        unfold ups
        rw [iv_ints, ← HU.out]
        exact ho
      rw [← hul]
      rw [← hul] at HSORT
      clear hul HU hie
      generalize hU : ups S.a.files = U at *
      have hUl : U.length ≤ S.a.files.length := by rw [← hU]; exact ups_length _
      have HLT : Hid (∀ n ∈ U, n < 9223372036854775808) := by rw [← hU]; exact ups_lt _
      have HNU : Hid (nums S.a.files = U.reverse) := by show _ = _; unfold nums; rw [hU]
      have hfl : S.a.files.length ≤ 5000 := by have := congrArg List.length HSAME.out; simp only [List.length_map] at this; omega
      have HBASE : Hid (n0 ≤ w1.heap.size) := Nat.le_trans hnW H1.out.2.size
      clear hU HH HT HNM HSAME
      gi_wp2_with (refine ⟨trivial, fun h => (by cases h), ?_⟩; gi_at_call 97; refine (callsIn_wide.2 HSORT.out).mono ?_; rintro e w4 ⟨rfl, h4, k4, k5⟩; have H4 := hide (And.intro h4 (And.intro k4 k5)); clear h4 k4 k5)
      gi_loopw [7] (fun vi wr => ∃ (k : Nat) (pre : List I63), k ≤ U.length ∧ vi = .int .i64 ((k : Int) - 1) ∧ Hid (pre.map Subtype.val = U.reverse.take (U.length - k) ∧ J pre wr ∧ RowIs n0 wr va vc U)) (fun vi _ => ((intOf vi) + 1).toNat)
      case atStart =>
        refine ⟨U.length, [], Nat.le_refl _, by first | rfl | go_num, ?_, ?_, RowIs.of_own H4.out.1 HBASE.out⟩
        · simp
        · exact HJ.out.1 [] W w4 none HJ.out.2.2.2 (grown_of H4.out.2.1) (fun r e => by cases e)
      case round =>
        obtain ⟨k, pre, hk, rfl, HP⟩ := hrel
        cases k with
        | zero =>
          gi_wp2_with fail
          go_end0
          refine ⟨⟨_, rfl⟩, .inl ⟨pre, ?_, HP.out.2.1⟩⟩
          rw [HP.out.1, HNU.out, Nat.sub_zero, List.take_of_length_le (by simp)]
        | succ k =>
          obtain ⟨x, hx⟩ : ∃ x, U[k]? = some x := ⟨_, List.getElem?_eq_getElem (by omega)⟩
          obtain ⟨g, cs, rfl, hg, hvc, hrow, hcs⟩ := HP.out.2.2 k x hx
          have q0 : wr.cell? ⟨g, k, none⟩ = some (.int .i64 (x : Int)) := by rw [cell_of_row _ _ _ _ _ _ hrow]; exact hcs
          have hx63 : x < 9223372036854775808 := HLT.out x (List.mem_of_getElem? hx)
          have hplen : pre.length = U.length - (k + 1) := by
            have := congrArg List.length HP.out.1
            rw [List.length_map, List.length_take, List.length_reverse] at this
            omega
          have HNEXT : Hid ((pre ++ [(⟨x, hx63⟩ : I63)]).map Subtype.val = U.reverse.take (U.length - k)) := by
            show _ = _
            rw [List.map_append, HP.out.1, show U.length - k = U.length - (k + 1) + 1 by omega, List.take_add_one, List.getElem?_reverse (by omega), show U.length - 1 - (U.length - (k + 1)) = k by omega, hx]
            rfl
          obtain ⟨fn, tmps, assign, body, hy, hR⟩ := HJ.out.2.2.1 pre ⟨x, hx63⟩ wr HP.out.2.1 (by omega)
          dsimp only at hy
          have e1 : ((k + 1 : Nat) : Int) - 1 = (k : Int) := by omega
          rw [e1]
          clear hcs hx
          gi_wp2_with fail
          refine ⟨fun h => (by cases h), hR.mono ?_⟩
          rintro e W3 (⟨rfl, hJ3, hk3⟩ | ⟨rfl, hJx3⟩)
          · have HG := hide (And.intro hJ3 (HP.out.2.2.keeps hk3))
            clear hJ3 hk3
            gi_wp2_with fail
            go_roundw
            case rel => exact ⟨k, pre ++ [⟨x, hx63⟩], by omega, by first | rfl | go_num, HNEXT.out, HG.out.1, HG.out.2⟩
            case measure => simp [intOf]
          · gi_wp2_with fail
            refine bodyPost_ret (results_none rfl _ _ _) rfl ?_
            refine ⟨⟨_, rfl⟩, .inr ⟨pre ++ [⟨x, hx63⟩], ?_, hJx3⟩⟩
            rw [HNEXT.out, HNU.out]
            exact List.take_prefix _ _
end Go.Proofs.YtoineobjmllicaaGreatDoor
