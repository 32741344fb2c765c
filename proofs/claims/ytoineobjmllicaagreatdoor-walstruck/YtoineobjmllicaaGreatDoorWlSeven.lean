/- Several texts in one: WalLast, WalBegin, WalLog. -/
import Derived.RangeFuncNested
import Derived.RangeFuncBound
import Derived.RangeFuncCalls
import Derived.RangeFuncLeaves
import Derived.Shelf.Abstract
import Derived.Shelf.RegionOpen
import Derived.OwnWalkIn
import Derived.TacticsInMore
import Derived.LoopNIn
import Derived.LoopIn
import Derived.Maps.OwnIn
import Derived.Sort.OwnSortedInts
import Derived.Test.YtoineobjmllicaaGreatDoorFramesOne
import Derived.Laws.AppendOwnNone
import Derived.Maps.AppendAt
/- Contract: the numbers of a disk's segments, the greatest one first, gone over by a function. -/
namespace Go.Wal
open Go.RowKit Go.Dk
/-- Numbers that an int holds. -/
abbrev I63 := { n : Nat // n < 9223372036854775808 }
/-- The numbers of names that are segments'. -/
def numsOf (ns : List Bs) : List Nat := (ns.map numOf).filter fun n => decide (0 < n)
/-- The numbers of the segments, the least one first. -/
def ups (fs : List AF) : List Nat := (numsOf (fs.map AF.name)).mergeSort fun x y => decide (x ≤ y)
/-- .. the greatest one first. -/
def nums (fs : List AF) : List Nat := (ups fs).reverse
theorem numOf_lt (l : Bs) : numOf l < 9223372036854775808 := by
  unfold numOf
  cases h : Lib.atoiAll (Lib.trimPrefix l logB) with
  | ok v =>
    simp only
    split
    · have := atoi_le h; omega
    · decide
  | «syntax» => exact Nat.zero_lt_of_lt (by decide : 0 < 9223372036854775808)
  | range => exact Nat.zero_lt_of_lt (by decide : 0 < 9223372036854775808)
theorem numsOf_snoc (ns : List Bs) (i : Nat) (l : Bs) (h : ns[i]? = some l) : numsOf (ns.take (i + 1)) = numsOf (ns.take i) ++ if 0 < numOf l then [numOf l] else [] := by
  unfold numsOf
  rw [List.take_add_one, h, List.map_append, List.filter_append]
  congr 1
  show ([numOf l].filter fun n => decide (0 < n)) = _
  by_cases h0 : 0 < numOf l
  · simp [h0]
  · simp [h0]
theorem numsOf_length (ns : List Bs) : (numsOf ns).length ≤ ns.length := Nat.le_trans (List.length_filter_le _ _) (by simp)
theorem ups_length (fs : List AF) : (ups fs).length ≤ fs.length := by
  unfold ups
  rw [List.length_mergeSort]
  exact Nat.le_trans (numsOf_length _) (by simp)
theorem ups_lt (fs : List AF) : ∀ n ∈ ups fs, n < 9223372036854775808 := fun n hn => by
  unfold ups at hn
  rw [List.mem_mergeSort] at hn
  obtain ⟨l, _, rfl⟩ := List.mem_map.1 (List.mem_filter.1 hn).1
  exact numOf_lt l
theorem sort_ints (l : List Nat) : ((l.map fun n : Nat => (n : Int)).mergeSort fun x y => decide (x ≤ y)) = (l.mergeSort fun x y => decide (x ≤ y)).map fun n : Nat => (n : Int) :=
  (List.map_mergeSort fun a _ b _ => by simp).symm
/-- Numbers as cells. -/
def iv (l : List Nat) : List Value := l.map fun n : Nat => Value.int .i64 (n : Int)
theorem iv_ints (l : List Nat) : iv l = (l.map fun n : Nat => (n : Int)).map (Value.int .i64) := by unfold iv; rw [List.map_map]; rfl
/-- A row of these numbers, laid since. -/
def RowIs (n0 : Nat) (w : World) (va : Option Addr) (vc : Nat) (U : List Nat) : Prop := ∀ (j x : Nat), U[j]? = some x → ∃ g cs, va = some ⟨g, 0, none⟩ ∧ n0 ≤ g ∧ U.length ≤ vc ∧ w.heap[g]? = some (.cells cs 3 (0, 0)) ∧ cs[j]? = some (.int .i64 (x : Int))
theorem RowIs.of_own {n0 base : Nat} {w : World} {va : Option Addr} {vc : Nat} {U : List Nat} (h : w.ownsRow base 3 1 (.slice va U.length vc) U.length (iv U)) (hb : n0 ≤ base) : RowIs n0 w va vc U := fun j x hj => by
  have hjl := (List.getElem?_eq_some_iff.1 hj).1
  rcases h.2 with ⟨_, h2⟩ | ⟨g, cap, cur, h1, h2, h3, h4, _, h6, h7⟩
  · omega
  · cases h1
    refine ⟨g, cur, rfl, Nat.le_trans hb h2, h4, h3, ?_⟩
    rw [← Array.getElem?_toList]
    have : (cur.toList.take (U.length * 1))[j]? = cur.toList[j]? := List.getElem?_take_of_lt (by omega)
    rw [← this, h7]
    unfold iv
    rw [List.getElem?_map, hj]
    rfl
/-- What a round keeps: rows of numbers that were laid since. -/
structure KeepsInts (n0 : Nat) (W W' : World) : Prop where
  size : W.heap.size ≤ W'.heap.size
  same : ∀ k cs, n0 ≤ k → W.heap[k]? = some (.cells cs 3 (0, 0)) → W'.heap[k]? = some (.cells cs 3 (0, 0))
theorem KeepsInts.trans {n0 : Nat} {A B C : World} (h : KeepsInts n0 A B) (k : KeepsInts n0 B C) : KeepsInts n0 A C := ⟨Nat.le_trans h.size k.size, fun i cs hi h1 => k.same i cs hi (h.same i cs hi h1)⟩
theorem RowIs.keeps {n0 : Nat} {w w' : World} {va : Option Addr} {vc : Nat} {U : List Nat} (h : RowIs n0 w va vc U) (k : KeepsInts n0 w w') : RowIs n0 w' va vc U := fun j x hj => by
  obtain ⟨g, cs, h1, h2, h3, h4, h5⟩ := h j x hj
  exact ⟨g, cs, h1, h2, h3, k.same g cs h2 h4, h5⟩
end Go.Wal
namespace Go.Proofs.YtoineobjmllicaaGreatDoor
open Go.RowKit Go.Shelf Go.Dk Go.Wal
attribute [local go_sem] Oper.semAt_some
variable {M : Nat → Prop}
theorem grown_of {w w' : World} (h : Below w.heap.size w w') : w.grownBy w' none := ⟨h.os, h.tape, h.output, h.size, fun k hk _ => h.block k hk⟩
theorem sortI_any (base : Nat) (v : Value) (zs : List Int) (w : World) (hown : w.ownsRow base 3 1 v zs.length (zs.map (Value.int .i64))) (hl : zs.length ≤ 1000000) :
    Calls Tryz.prog 97 #[v] w fun e w' => e = .returned (.tuple #[]) ∧ w'.ownsRow base 3 1 v zs.length ((zs.mergeSort fun x y => decide (x ≤ y)).map (Value.int .i64)) ∧ Below base w w' := by
  rcases hown.2 with ⟨h1, h2⟩ | ⟨g, cap, cur, h1, h2, h3, h4, h5, h6, h7⟩
  · have hz : zs = [] := List.length_eq_zero_iff.1 h2
    subst hz
    rw [h1]
    refine (AnyM.slices_Sort_int_none sortIL none 0 w).mono ?_
    rintro e w' ⟨he, rfl⟩
    exact ⟨he, by rw [List.mergeSort_nil]; exact World.ownsRow_nil _ _ _ _, Below.refl _ _⟩
  · rw [h1]
    refine (AnyM.slices_Sort_int sortIL g 0 cap zs w (holds_of_blockI h3 (by rw [Nat.mul_one] at h7; exact h7)) (block_lt h3) (by omega)).mono ?_
    rintro e w' ⟨he, n, os, rfl⟩
    refine ⟨he, ownsRow_sortedI (List.length_mergeSort _) h2 h3 h4 h5 h6, ?_⟩
    exact (Below.refl base w).grown (grownBy_sortedI _) (by have := block_lt h3; omega) fun k e => by cases e; exact h2
theorem under_ints : Tryz.prog.underlying 31 = some (.slice 3) := by kernel_rfl
theorem info_int : (Tryz.prog.info? 3).map (fun i => (i.zero, i.size, i.bytes)) = some (some (.int .i64 0), 1, 8) := by kernel_rfl
set_option maxHeartbeats 2000000 in
theorem last_in (base K d bx n0 m : Nat) (S : WD) (w0 : World) (hD : DiskAt Tryz.prog M base K d w0 S) (hv : Vars w0) (hbx : w0.cell? ⟨bx, 0, none⟩ = some (.pointer (some ⟨d, 0, none⟩))) (hn0 : n0 ≤ w0.heap.size) :
    SeqStopsK Fence.wide m Tryz.prog 95 #[.pointer (some ⟨bx, 0, none⟩)] (fun x : I63 => #[.int .i64 x.1]) (KeepsInts n0) (fun xs => xs.map Subtype.val = nums S.a.files) (fun pre => pre.map Subtype.val <+: nums S.a.files) (S.a.files.length) w0 := by
  intro l J Jx W hW hJ hJx hY h0
  refine callsIn_of_wp Tryz.func95 rfl trivial ?_ rfl
  simp only [Tryz.ntmps95, List.size_toArray, List.length_cons, List.length_nil, Nat.reduceAdd, Nat.reduceSub, Array.replicate_succ, Array.replicate_zero, List.push_toArray, List.append_toArray, List.nil_append, List.cons_append]
  have hDW := hD.below hW
  have hvW : Vars W := Vars.below hv hW
  have hb1 : W.cell? ⟨bx, 0, none⟩ = some (.pointer (some ⟨d, 0, none⟩)) := (hW.cell (p := ⟨bx, 0, none⟩) (cell_lt hbx)).trans hbx
  have HN : Hid (Calls Tryz.prog 24 #[.pointer (some ⟨d, 0, none⟩)] W fun e w' => ∃ v, e = .returned v ∧ w'.ownsRow W.heap.size 9 1 v S.fs.length ((S.fs.map WF.nm).map Go.Proofs.encStr) ∧ Below W.heap.size W w') := names_any base K d S W hDW
  have HSAME : Hid (S.fs.map WF.nm = S.a.files.map AF.name) := by
    show _ = _
    rw [← hD.same, List.map_map]
    rfl
  have hcnt : S.fs.length ≤ 5000 := Nat.le_trans hD.count hD.lim
  have HNM : Hid (∀ (i : Nat) (l : Bs), (S.fs.map WF.nm)[i]? = some l → l.length ≤ 1000) := fun i l hl => by
    obtain ⟨F, hF, rfl⟩ := List.mem_map.1 (List.mem_of_getElem? hl)
    have hn := (hD.small F hF).name
    unfold nameOk at hn
    simp only [Bool.and_eq_true, decide_eq_true_eq] at hn
    have := hn.1.2
    show F.a.name.length ≤ 1000
    omega
  have hlen : (S.fs.map WF.nm).length = S.fs.length := List.length_map ..
  obtain ⟨i3, hi3, hz0, hz1, hz2⟩ := info_parts info_int
  have HV := hide hvW
  have HJ := hide (And.intro hJ (And.intro hJx (And.intro hY h0)))
  have hnW : n0 ≤ W.heap.size := Nat.le_trans hn0 hW.size
  clear hJ hJx hY h0 hv hvW hD hDW hW hbx
  gi_wp2_with (refine ⟨trivial, fun h => (by cases h), ?_⟩; gi_at_call 24; refine (callsIn_wide.2 HN.out).mono ?_; rintro e w1 ⟨v, rfl, hown, k1⟩; have H1 := hide (And.intro hown k1); obtain ⟨na, nc, hnv⟩ := own_form hown; subst hnv; clear hown k1)
  clear HN
  have HT : Hid (∀ i l, (S.fs.map WF.nm)[i]? = some l → ∃ b off, na = some ⟨b, off, none⟩ ∧ S.fs.length ≤ nc ∧ w1.cell? ⟨b, off + i, none⟩ = some (.string ⟨l.toArray⟩)) := fun i l hl => by
    have hx := H1.out.1
    rw [← hlen] at hx
    obtain ⟨a, c, h1, h2, h3⟩ := Texts.of_own hx
    cases h1
    obtain ⟨b, off, h4, h5⟩ := h3 i l hl
    exact ⟨b, off, h4, by rw [← hlen]; exact h2, h5⟩
  gi_loopw [3, 11] (fun vn vi wr => ∃ i : Nat, i ≤ S.fs.length ∧ vi = .int .i64 i ∧ Hid (wr.ownsRow w1.heap.size 3 1 vn (numsOf ((S.fs.map WF.nm).take i)).length (iv (numsOf ((S.fs.map WF.nm).take i))) ∧ Below W.heap.size W wr ∧ Below w1.heap.size w1 wr)) (fun _ vi _ => S.fs.length - (intOf vi).toNat)
  case atStart => exact ⟨0, Nat.zero_le _, rfl, World.ownsRow_nil _ _ _ _, H1.out.2, Below.refl _ _⟩
  case round =>
    obtain ⟨i, hi, rfl, HH⟩ := hrel
    obtain ⟨va, vc, hva⟩ := own_form HH.out.1
    subst hva
    by_cases hlt : i < S.fs.length
    · obtain ⟨l, hl⟩ : ∃ l, (S.fs.map WF.nm)[i]? = some l := ⟨_, List.getElem?_eq_getElem (by rw [hlen]; exact hlt)⟩
      obtain ⟨b, off, rfl, hcap, hcell⟩ := HT.out i l hl
      have q0 : wr.cell? ⟨b, off + i, none⟩ = some (.string ⟨l.toArray⟩) := (HH.out.2.2.cell (p := ⟨b, off + i, none⟩) (cell_lt hcell)).trans hcell
      have HNUM : Hid (Calls Tryz.prog 96 #[.string ⟨l.toArray⟩] wr fun e w' => e = .returned (.int .i64 (numOf l)) ∧ Below wr.heap.size wr w') := segNumber_any l wr (Vars.below HV.out HH.out.2.1) (HNM.out i l hl)
      have HSN := hide (numsOf_snoc _ i l hl)
      clear hl hcell
      have hnl : (numsOf ((S.fs.map WF.nm).take i)).length ≤ i := Nat.le_trans (numsOf_length _) (by rw [List.length_take]; omega)
      by_cases h0 : 0 < numOf l
      · rw [if_pos h0] at HSN
        generalize numOf l = x at *
        generalize numsOf ((S.fs.map WF.nm).take i) = L at *
        gi_wp2_with (first
          | (refine ⟨trivial, fun h => (by cases h), ?_⟩; gi_at_call 96; refine (callsIn_wide.2 HNUM.out).mono ?_; rintro e w2 ⟨rfl, k2⟩; have K2 := hide k2; clear k2)
          | (gi_at_builtin; refine wpListIn_append_own _ rfl _ _ 31 rfl w1.heap.size 3 i3 (.int .i64 0) 1 8 under_ints hi3 hz0 hz1 hz2 rfl (by decide) _ _ _ rfl ((own_below HH.out.1 K2.out).alloc _) ⟨w2.heap.size, 0, none⟩ 1 1 [.int .i64 x] rfl rfl (cell_one_new _ _ _) ?a2 ?a3 ?a4 ?a5 ?_))
        case a2 => intro u hu; simp at hu; subst hu; rfl
        case a3 => unfold maxLen; omega
        case a4 => omega
        case a5 => have h1 := HH.out.2.2.size; have h2 := K2.out.size; simp; omega
        intro v' w3 hown hgrow _
        obtain ⟨g, cap, rfl⟩ := ownsRow_succ hown
        have H3 : Hid (w3.ownsRow w1.heap.size 3 1 (.slice (some ⟨g, 0, none⟩) (L.length + 1) cap) (L ++ [x]).length (iv (L ++ [x])) ∧ Below W.heap.size W w3 ∧ Below w1.heap.size w1 w3) := by
          have hb2 : Below w1.heap.size w1 w2 := HH.out.2.2.trans (K2.out.mono HH.out.2.2.size)
          have hb3 := (hb2.alloc hb2.size (.cells #[.int .i64 (x : Int)] 3)).grown hgrow (hb2.alloc hb2.size _).size fun k e => ownsRow_ge HH.out.1 e
          refine ⟨?_, H1.out.2.trans (hb3.mono H1.out.2.size), hb3⟩
          rw [List.length_append]
          unfold iv at hown ⊢
          rw [List.map_append]
          exact hown
        clear hown hgrow
        gi_wp2_with fail
        refine ⟨⟨i + 1, by omega, by go_num, ?_⟩, by simp [intOf]; omega⟩
        rw [HSN.out]
        exact H3
      · rw [if_neg h0, List.append_nil] at HSN
        have h00 : numOf l = 0 := by omega
        rw [h00] at HNUM
        gi_wp2_with (refine ⟨trivial, fun h => (by cases h), ?_⟩; gi_at_call 96; refine (callsIn_wide.2 HNUM.out).mono ?_; rintro e w2 ⟨rfl, k2⟩; have K2 := hide k2; clear k2)
        refine ⟨⟨i + 1, by omega, by go_num, ?_⟩, by simp [intOf]; omega⟩
        rw [HSN.out]
        exact ⟨own_below HH.out.1 K2.out, HH.out.2.1.trans (K2.out.mono HH.out.2.1.size), HH.out.2.2.trans (K2.out.mono HH.out.2.2.size)⟩
    · have hie : i = S.fs.length := by omega
      have HU : Hid (numsOf ((S.fs.map WF.nm).take i) = numsOf (S.a.files.map AF.name)) := by
        show _ = _
        rw [hie, List.take_of_length_le (by rw [hlen]; exact Nat.le_refl _), HSAME.out]
      have hul : (ups S.a.files).length = (numsOf ((S.fs.map WF.nm).take i)).length := by rw [HU.out]; unfold ups; rw [List.length_mergeSort]
      have HSORT : Hid (Calls Tryz.prog 97 #[.slice va (numsOf ((S.fs.map WF.nm).take i)).length vc] wr fun e w' => e = .returned (.tuple #[]) ∧ w'.ownsRow w1.heap.size 3 1 (.slice va (ups S.a.files).length vc) (ups S.a.files).length (iv (ups S.a.files)) ∧ Below W.heap.size W w' ∧ Below w1.heap.size w1 w') := by
        have hx := HH.out.1
        rw [hul]
        generalize numsOf ((S.fs.map WF.nm).take i) = L at *
        have hL : (L.map fun n : Nat => (n : Int)).length = L.length := List.length_map ..
        rw [iv_ints, ← hL] at hx
        have := sortI_any w1.heap.size _ _ wr hx (by rw [hL, ← hul]; exact Nat.le_trans (ups_length _) (by have := congrArg List.length HSAME.out; simp only [List.length_map] at this; omega))
        rw [hL] at this
        refine this.mono ?_
        rintro e w' ⟨he, ho, hb⟩
        have hb1 := HH.out.2.2.trans hb
        refine ⟨he, ?_, H1.out.2.trans (hb1.mono H1.out.2.size), hb1⟩
        rw [sort_ints] at ho
        unfold ups
        rw [iv_ints, ← HU.out]
        exact ho
      rw [← hul]
      rw [← hul] at HSORT
      clear hul HU hie
      generalize hU : ups S.a.files = U at *
      have hUl : U.length ≤ S.a.files.length := by rw [← hU]; exact ups_length _
      have HLT : Hid (∀ n ∈ U, n < 9223372036854775808) := by rw [← hU]; exact ups_lt _
      have HNU : Hid (nums S.a.files = U.reverse) := by show _ = _; unfold nums; rw [hU]
      have hfl : S.a.files.length ≤ 5000 := by have := congrArg List.length HSAME.out; simp only [List.length_map] at this; omega
      have HBASE : Hid (n0 ≤ w1.heap.size) := Nat.le_trans hnW H1.out.2.size
      clear hU HH HT HNM HSAME
      gi_wp2_with (refine ⟨trivial, fun h => (by cases h), ?_⟩; gi_at_call 97; refine (callsIn_wide.2 HSORT.out).mono ?_; rintro e w4 ⟨rfl, h4, k4, k5⟩; have H4 := hide (And.intro h4 (And.intro k4 k5)); clear h4 k4 k5)
      gi_loopw [7] (fun vi wr => ∃ (k : Nat) (pre : List I63), k ≤ U.length ∧ vi = .int .i64 ((k : Int) - 1) ∧ Hid (pre.map Subtype.val = U.reverse.take (U.length - k) ∧ J pre wr ∧ RowIs n0 wr va vc U)) (fun vi _ => ((intOf vi) + 1).toNat)
      case atStart =>
        refine ⟨U.length, [], Nat.le_refl _, by first | rfl | go_num, ?_, ?_, RowIs.of_own H4.out.1 HBASE.out⟩
        · simp
        · exact HJ.out.1 [] W w4 none HJ.out.2.2.2 (grown_of H4.out.2.1) (fun r e => by cases e)
      case round =>
        obtain ⟨k, pre, hk, rfl, HP⟩ := hrel
        cases k with
        | zero =>
          gi_wp2_with fail
          go_end0
          refine ⟨⟨_, rfl⟩, .inl ⟨pre, ?_, HP.out.2.1⟩⟩
          rw [HP.out.1, HNU.out, Nat.sub_zero, List.take_of_length_le (by simp)]
        | succ k =>
          obtain ⟨x, hx⟩ : ∃ x, U[k]? = some x := ⟨_, List.getElem?_eq_getElem (by omega)⟩
          obtain ⟨g, cs, rfl, hg, hvc, hrow, hcs⟩ := HP.out.2.2 k x hx
          have q0 : wr.cell? ⟨g, k, none⟩ = some (.int .i64 (x : Int)) := by rw [cell_of_row _ _ _ _ _ _ hrow]; exact hcs
          have hx63 : x < 9223372036854775808 := HLT.out x (List.mem_of_getElem? hx)
          have hplen : pre.length = U.length - (k + 1) := by
            have := congrArg List.length HP.out.1
            rw [List.length_map, List.length_take, List.length_reverse] at this
            omega
          have HNEXT : Hid ((pre ++ [(⟨x, hx63⟩ : I63)]).map Subtype.val = U.reverse.take (U.length - k)) := by
            show _ = _
            rw [List.map_append, HP.out.1, show U.length - k = U.length - (k + 1) + 1 by omega, List.take_add_one, List.getElem?_reverse (by omega), show U.length - 1 - (U.length - (k + 1)) = k by omega, hx]
            rfl
          obtain ⟨fn, tmps, assign, body, hy, hR⟩ := HJ.out.2.2.1 pre ⟨x, hx63⟩ wr HP.out.2.1 (by omega)
          dsimp only at hy
          have e1 : ((k + 1 : Nat) : Int) - 1 = (k : Int) := by omega
          rw [e1]
          clear hcs hx
          gi_wp2_with fail
          refine ⟨fun h => (by cases h), hR.mono ?_⟩
          rintro e W3 (⟨rfl, hJ3, hk3⟩ | ⟨rfl, hJx3⟩)
          · have HG := hide (And.intro hJ3 (HP.out.2.2.keeps hk3))
            clear hJ3 hk3
            gi_wp2_with fail
            go_roundw
            case rel => exact ⟨k, pre ++ [⟨x, hx63⟩], by omega, by first | rfl | go_num, HNEXT.out, HG.out.1, HG.out.2⟩
            case measure => simp [intOf]
          · gi_wp2_with fail
            refine bodyPost_ret (results_none rfl _ _ _) rfl ?_
            refine ⟨⟨_, rfl⟩, .inr ⟨pre ++ [⟨x, hx63⟩], ?_, hJx3⟩⟩
            rw [HNEXT.out, HNU.out]
            exact List.take_prefix _ _
end Go.Proofs.YtoineobjmllicaaGreatDoor
/- Contract: the segment that begins. -/
namespace Go.Wal
open Go.RowKit Go.Dk
/-- A segment's bytes. -/
def readN (fs : List AF) (n : Nat) : Option Bs := (seek AF.name (seg n) fs).map AF.bytes
/-- Does it begin anew? -/
def isB (fs : List AF) (n : Nat) : Bool := match readN fs n with | some s => decide (head s = some true) | none => false
theorem isB_is {fs : List AF} {n : Nat} {s : Bs} (h : readN fs n = some s) : isB fs n = decide (head s = some true) := by unfold isB; rw [h]
def firstOf (fs : List AF) : Nat := ((nums fs).find? (isB fs)).getD 0
theorem nums_mem {fs : List AF} {n : Nat} (h : n ∈ nums fs) : 0 < n ∧ ∃ f ∈ fs, f.name = seg n := by
  unfold nums ups numsOf at h
  rw [List.mem_reverse, List.mem_mergeSort, List.mem_filter] at h
  obtain ⟨h1, h2⟩ := h
  obtain ⟨l, hl, rfl⟩ := List.mem_map.1 h1
  obtain ⟨f, hf, rfl⟩ := List.mem_map.1 hl
  have h0 : 0 < numOf f.name := by simpa using h2
  exact ⟨h0, f, hf, numOf_pos h0⟩
theorem nums_read {fs : List AF} {n : Nat} (h : n ∈ nums fs) : ∃ s, readN fs n = some s := by
  obtain ⟨_, f, hf, hn⟩ := nums_mem h
  unfold readN
  cases hk : seek AF.name (seg n) fs with
  | none => exact absurd hn (seek_none hk f hf)
  | some g => exact ⟨_, rfl⟩
theorem firstOf_none {fs : List AF} (h : ∀ n ∈ nums fs, isB fs n = false) : firstOf fs = 0 := by
  unfold firstOf
  rw [List.find?_eq_none.2 fun n hn => by rw [h n hn]; decide]
  rfl
theorem firstOf_some {fs : List AF} {pre rest : List Nat} {n : Nat} (he : nums fs = pre ++ n :: rest) (h : ∀ m ∈ pre, isB fs m = false) (hn : isB fs n = true) : firstOf fs = n := by
  unfold firstOf
  rw [he, List.find?_append, List.find?_eq_none.2 fun m hm => by rw [h m hm]; decide, List.find?_cons, hn]
  rfl
theorem keeps_ints {n0 : Nat} {w w' : World} (h : Below w.heap.size w w') : KeepsInts n0 w w' := ⟨h.size, fun k _ _ hk => (h.block k (block_lt hk)).trans hk⟩
theorem keeps_others {w w' : World} (h : Below w.heap.size w w') : KeepsOthers w w' := ⟨h.size, fun k _ hk _ => (h.block k (block_lt hk)).trans hk⟩
theorem ints_b {w : World} {n0 : Nat} (W : World) (l : Nat) (o o' : Obj) (_ : w.heap.size ≤ l) (ho : W.heap[l]? = some o) (hc : o.isCells = false) (_ : o.isWalk = false) : KeepsInts n0 W (W.putObj l o') := by
  refine ⟨by simp, fun k cs _ hk => ?_⟩
  rw [World.putObj_heap_other]
  · exact hk
  · intro e
    rw [e, ho] at hk
    cases hk
    cases hc
theorem Boxed.under {W W' : World} {B : Nat} {t : TypeId} {v : Value} (h : Boxed W B t v) (hb : Below W.heap.size W W') : Boxed W' B t v := (hb.block B h.lt).trans h
theorem boxed_row {W : World} {B : Nat} {t : TypeId} {v : Value} {row : Option Nat} (h : Boxed W B t v) (hr : ∀ r, row = some r → ∃ o : Obj, W.heap[r]? = some o ∧ o.isCells = false) : some B ≠ row := fun e => by
  obtain ⟨o, h1, h2⟩ := hr B e.symm
  unfold Boxed at h
  rw [h] at h1
  cases h1
  cases h2
/-- What a function has of its own while it goes over segments. -/
structure Bg (W0 : World) (t0 t1 t2 : TypeId) (u : Value) (r e : Int) (W : World) : Prop where
  b0 : Boxed W W0.heap.size t0 u
  b1 : Boxed W (W0.heap.size + 1) t1 (.int .i64 r)
  b2 : Boxed W (W0.heap.size + 1 + 1) t2 (.int .i64 e)
  below : Below W0.heap.size W0 W
theorem Bg.under {W0 W W' : World} {t0 t1 t2 : TypeId} {u : Value} {r e : Int} (h : Bg W0 t0 t1 t2 u r e W) (hb : Below W.heap.size W W') : Bg W0 t0 t1 t2 u r e W' :=
  ⟨Boxed.under h.b0 hb, Boxed.under h.b1 hb, Boxed.under h.b2 hb, h.below.trans (hb.mono h.below.size)⟩
theorem Bg.turned {W0 W W' : World} {t0 t1 t2 : TypeId} {u : Value} {r e : Int} {row : Option Nat} (h : Bg W0 t0 t1 t2 u r e W) (hg : W.grownBy W' row) {B : Nat} (hr : ∀ r, row = some r → B ≤ r ∧ ∃ o : Obj, W.heap[r]? = some o ∧ o.isCells = false) (hB : W0.heap.size ≤ B) : Bg W0 t0 t1 t2 u r e W' :=
  have hr' := fun r e => (hr r e).2
  ⟨h.b0.kept hg (boxed_row h.b0 hr'), h.b1.kept hg (boxed_row h.b1 hr'), h.b2.kept hg (boxed_row h.b2 hr'), h.below.grown hg h.below.size fun k e => Nat.le_trans hB (hr k e).1⟩
theorem Bg.told {W0 W : World} {t0 t1 t2 : TypeId} {u : Value} {r e : Int} (h : Bg W0 t0 t1 t2 u r e W) (r' e' : Int) : Bg W0 t0 t1 t2 u r' e' ((W.setCell ⟨W0.heap.size + 1, 0, none⟩ (.int .i64 r')).setCell ⟨W0.heap.size + 1 + 1, 0, none⟩ (.int .i64 e')) :=
  ⟨(h.b0.other (by omega) _).other (by omega) _, (h.b1.set _).other (by omega) _, (h.b2.other (by omega) _).set _, (h.below.setCell (p := ⟨W0.heap.size + 1, 0, none⟩) (by simp) _).setCell (p := ⟨W0.heap.size + 1 + 1, 0, none⟩) (by simp; omega) _⟩
end Go.Wal
namespace Go.Proofs.YtoineobjmllicaaGreatDoor
open Go.RowKit Go.Shelf Go.Dk Go.Wal
attribute [local go_sem] Oper.semAt_some
variable {M : Nat → Prop}
theorem fromLast_any (d : Nat) (w : World) : Calls Tryz.prog 68 #[.pointer (some ⟨d, 0, none⟩)] w fun e w' => e = .returned (.func (.func 95) #[] #[.pointer (some ⟨w.heap.size, 0, none⟩)]) ∧ w' = w.alloc (.cells #[.pointer (some ⟨d, 0, none⟩)] 23) := by
  go_enter Tryz.func68, Tryz.ntmps68
  go_wp2
  go_ret
  exact ⟨rfl, rfl⟩
theorem readSeg_any (base K d n : Nat) (S : WD) (w : World) (h : DiskAt Tryz.prog M base K d w S) (hd : S.a.down = false) (hn : n < 9223372036854775808) :
    Calls Tryz.prog 66 #[.pointer (some ⟨d, 0, none⟩), .string ⟨(seg n).toArray⟩] w fun e w' => e = .returned (match readN S.a.files n with | some s => .tuple #[.string ⟨s.toArray⟩, .int .i64 0] | none => .tuple #[.string ⟨#[]⟩, .int .i64 2]) ∧ w' = w := by
  have hsz : (⟨(seg n).toArray⟩ : ByteArray).size ≤ maxLen := by rw [ba_size]; have := seg_length n hn; unfold maxLen; omega
  have ha : ableOf S.a (seg n) = 0 := by unfold ableOf; rw [hd, seg_ok n hn]; rfl
  unfold readN
  rcases seek_two h (seg n) with ⟨h1, h2⟩ | ⟨F, h1, h2⟩
  · rw [h1]
    have HA := hide (find_none base K d S ⟨(seg n).toArray⟩ w h hsz ha h2)
    clear h h1 h2 ha hsz
    go_enter Tryz.func66, Tryz.ntmps66
    go_wp2_with (go_at_call 93; refine HA.out.mono ?_; rintro e w' ⟨rfl, rfl⟩)
    go_ret2
    exact ⟨rfl, rfl⟩
  · rw [h1]
    exact read_some base K d S ⟨(seg n).toArray⟩ F w h hsz ha h2
set_option maxHeartbeats 2000000 in
set_option maxRecDepth 100000 in
theorem begin_any (base K d : Nat) (S : WD) (w : World) (h : DiskAt Tryz.prog M base K d w S) (hv : Vars w) (hd : S.a.down = false) (hs : ∀ f ∈ S.a.files, f.bytes.length ≤ 1000000) :
    Calls Tryz.prog 65 #[.pointer (some ⟨d, 0, none⟩)] w fun e w' => e = .returned (.tuple #[.int .i64 (firstOf S.a.files), .int .i64 0]) ∧ Below w.heap.size w w' := by
  refine (callsIn_wide (n := 9)).1 ?_
  refine callsIn_of_wp_marks Tryz.func65 rfl trivial ?_ rfl
  simp only [Tryz.ntmps65, List.size_toArray, List.length_cons, List.length_nil, Nat.reduceAdd, Nat.reduceSub, Array.replicate_succ, Array.replicate_zero, List.push_toArray, List.append_toArray, List.nil_append, List.cons_append]
  have HD := hide h
  have HV := hide hv
  clear h hv
  gi_wp2_with (refine ⟨trivial, ?_⟩; gi_at_call 68; refine (callsIn_wide.2 (fromLast_any d _)).mono ?_; rintro e w1 ⟨rfl, rfl⟩)
  have hB0 : Below w.heap.size w ((((w.alloc (.cells #[.pointer (some ⟨d, 0, none⟩)] 23)).alloc (.cells #[.int .i64 0] 3)).alloc (.cells #[.int .i64 0] 26)).alloc (.cells #[.pointer (some ⟨d, 0, none⟩)] 23)) := ((((Below.refl _ w).alloc (Nat.le_refl _) _).alloc (by simp) _).alloc (by simp; omega) _).alloc (by simp; omega) _
  have G0 : Bg w 23 3 26 (.pointer (some ⟨d, 0, none⟩)) 0 0 ((((w.alloc (.cells #[.pointer (some ⟨d, 0, none⟩)] 23)).alloc (.cells #[.int .i64 0] 3)).alloc (.cells #[.int .i64 0] 26)).alloc (.cells #[.pointer (some ⟨d, 0, none⟩)] 23)) :=
    ⟨(((Boxed.new w _ _).alloc _).alloc _).alloc _, by have := ((Boxed.new (w.alloc (.cells #[.pointer (some ⟨d, 0, none⟩)] 23)) 3 (.int .i64 0)).alloc (.cells #[.int .i64 0] 26)).alloc (.cells #[.pointer (some ⟨d, 0, none⟩)] 23); rw [World.size_alloc] at this; exact this,
     by have := (Boxed.new ((w.alloc (.cells #[.pointer (some ⟨d, 0, none⟩)] 23)).alloc (.cells #[.int .i64 0] 3)) 26 (.int .i64 0)).alloc (.cells #[.pointer (some ⟨d, 0, none⟩)] 23); rw [World.size_alloc, World.size_alloc] at this; exact this, hB0⟩
  have c3 := (Boxed.new (((w.alloc (.cells #[.pointer (some ⟨d, 0, none⟩)] 23)).alloc (.cells #[.int .i64 0] 3)).alloc (.cells #[.int .i64 0] 26)) 23 (.pointer (some ⟨d, 0, none⟩))).cell
  simp only [World.size_alloc] at c3
  refine wpIn_rangeFunc_ownF rfl (by decide) (gf := 95) (lb := #[.pointer (some ⟨w.heap.size + 1 + 1 + 1, 0, none⟩)]) rfl trivial (enters_of Tryz.func95 (by kernel_rfl) rfl)
    (last_in base K d (w.heap.size + 1 + 1 + 1) w.heap.size 8 S _ (HD.out.below hB0) (Vars.below HV.out hB0) c3 (by simp; omega)) (fun a b => a.trans b) ints_b (Below.refl _ _) (fun _ => rfl)
    (fun pre W => (∀ y ∈ pre, isB S.a.files y.1 = false) ∧ Bg w 23 3 26 (.pointer (some ⟨d, 0, none⟩)) 0 0 W)
    (fun c pre W => c = .ret ∧ ∃ (pre0 : List I63) (x : I63) (r e : Int), pre = pre0 ++ [x] ∧ (∀ y ∈ pre0, isB S.a.files y.1 = false) ∧ ((∃ s, readN S.a.files x.1 = some s) → isB S.a.files x.1 = true ∧ r = x.1 ∧ e = 0) ∧ Bg w 23 3 26 (.pointer (some ⟨d, 0, none⟩)) r e W)
    (fun s A B row hs hg hr => ⟨hs.1, hs.2.turned hg hr (by simp; omega)⟩)
    (fun c s A B row hs hg hr => by
      obtain ⟨h1, pre0, x, r, e, h2, h3, h4, h5⟩ := hs
      exact ⟨h1, pre0, x, r, e, h2, h3, h4, h5.turned hg hr (by simp; omega)⟩)
    ⟨by simp, G0⟩
    (fun x => { tmps := #[.pointer (some ⟨d, 0, none⟩), .pointer (some ⟨w.heap.size, 0, none⟩), .pointer (some ⟨w.heap.size + 1, 0, none⟩), .pointer (some ⟨w.heap.size + 1 + 1, 0, none⟩), .int .i64 x.1, undef, undef, undef, undef, .pointer (some ⟨d, 0, none⟩), .func (.func 95) #[] #[.pointer (some ⟨w.heap.size + 1 + 1 + 1, 0, none⟩)], .int .i64 x.1, undef, undef, undef, undef, undef, undef, undef, undef, undef, undef, undef, undef, undef, undef, undef, undef, undef, undef], defers := [] }) ?assign ?body ?done ?stop
  case assign =>
    intro l x W K hK
    gi_wp2
    exact hK
  case body =>
    rintro l pre x W ⟨hp, hG⟩ _
    have HF : Hid (∀ U, Below W.heap.size W U → Calls Tryz.prog 51 #[.int .i64 x.1] U fun e w' => e = .returned (.string ⟨(seg x.1).toArray⟩) ∧ Below W.heap.size W w') := fun U hU =>
      (fileName_any x.1 U (Vars.below (Vars.below HV.out hG.below) hU) x.2).mono fun e w' ⟨he, hb⟩ => ⟨he, hU.trans (hb.mono hU.size)⟩
    have HR : Hid (∀ U, Below W.heap.size W U → Calls Tryz.prog 66 #[.pointer (some ⟨d, 0, none⟩), .string ⟨(seg x.1).toArray⟩] U fun e w' => e = .returned (match readN S.a.files x.1 with | some s => .tuple #[.string ⟨s.toArray⟩, .int .i64 0] | none => .tuple #[.string ⟨#[]⟩, .int .i64 2]) ∧ w' = U) := fun U hU => readSeg_any base K d x.1 S U ((HD.out.below hG.below).below hU) hd x.2
    have q0 := hG.b0.cell
    have q1 := hG.b1.cell
    have q2 := hG.b2.cell
    have hmix : Tryz.prog.follows .mixedOrders = true := by kernel_rfl
    cases hr : readN S.a.files x.1 with
    | none =>
      rw [hr] at HR
      gi_wp2_with fail
      gi_region_with_o (first
        | (refine ⟨trivial, ?_⟩; gi_at_call 51; refine (CallsIn.inRound l (callsIn_wide.2 (HF.out _ (by first | exact Below.refl _ _ | exact ⟨rfl, rfl, rfl, Nat.le_refl _, fun _ _ => rfl⟩)))).mono ?_; rintro e w2 ⟨rfl, k2⟩; have K2 := hide k2; have e0 := (k2.cell (p := ⟨w.heap.size, 0, none⟩) hG.b0.lt).trans q0; clear k2)
        | (refine ⟨trivial, ?_⟩; gi_at_call 66; refine (CallsIn.inRound l (callsIn_wide.2 (HR.out _ K2.out))).mono ?_; rintro e w3 ⟨rfl, rfl⟩))
      all_goals
        have HG := hide (hG.under K2.out)
        have t1 := HG.out.b1.cell
        have t2 := HG.out.b2.cell
        have g1 := HG.out.b1.frozen
        have g2 := HG.out.b2.frozen
        clear e0 q0 q1 q2
        gi_wp2_with fail
      all_goals exact ⟨(keeps_others K2.out).trans ((KeepsOthers.setCell _ _ _).trans (KeepsOthers.setCell _ _ _)), rfl, pre, x, 0, 2, rfl, hp, fun ⟨s, h⟩ => (by rw [hr] at h; cases h), HG.out.told 0 2⟩
    | some s =>
      rw [hr] at HR
      have hsl : s.length ≤ 1000000 := by
        unfold readN at hr
        cases hk : seek AF.name (seg x.1) S.a.files with
        | none => rw [hk] at hr; cases hr
        | some f => rw [hk] at hr; cases hr; exact hs f (seek_some hk).1
      cases hh : head s with
      | none =>
        gi_wp2_with fail
        gi_region_with_o (first
          | (refine ⟨trivial, ?_⟩; gi_at_call 51; refine (CallsIn.inRound l (callsIn_wide.2 (HF.out _ (by first | exact Below.refl _ _ | exact ⟨rfl, rfl, rfl, Nat.le_refl _, fun _ _ => rfl⟩)))).mono ?_; rintro e w2 ⟨rfl, k2⟩; have K2 := hide k2; have e0 := (k2.cell (p := ⟨w.heap.size, 0, none⟩) hG.b0.lt).trans q0; clear k2)
          | (refine ⟨trivial, ?_⟩; gi_at_call 66; refine (CallsIn.inRound l (callsIn_wide.2 (HR.out _ K2.out))).mono ?_; rintro e w3 ⟨rfl, rfl⟩))
        all_goals
          have HT : Hid (Calls Tryz.prog 92 #[.string ⟨s.toArray⟩] w3 fun e w' => e = .returned (.tuple #[.string ⟨#[]⟩, .int .i64 0]) ∧ Bg w 23 3 26 (.pointer (some ⟨d, 0, none⟩)) 0 0 w' ∧ Below W.heap.size W w') := by
            have := takeHead_any s w3 hsl
            rw [hh] at this
            exact this.mono fun e w' ⟨he, hb⟩ => ⟨he, (hG.under K2.out).under hb, K2.out.trans (hb.mono K2.out.size)⟩
          clear e0 q0 q1 q2
          gi_wp2_with (refine ⟨trivial, ?_⟩; gi_at_call 92; refine (CallsIn.inRound l (callsIn_wide.2 HT.out)).mono ?_; rintro e w4 ⟨rfl, hG4, k4⟩; have HG := hide (And.intro hG4 k4); have t1 := hG4.b1.cell; have t2 := hG4.b2.cell; have g1 := hG4.b1.frozen; have g2 := hG4.b2.frozen; clear hG4 k4)
        all_goals exact ⟨keeps_others HG.out.2, keeps_ints HG.out.2, fun y hy => (List.mem_append.1 hy).elim (hp y) (fun e => by rw [List.mem_singleton.1 e]; rw [isB_is hr, hh]; rfl), HG.out.1⟩
      | some b =>
        cases b with
        | false =>
          gi_wp2_with fail
          gi_region_with_o (first
            | (refine ⟨trivial, ?_⟩; gi_at_call 51; refine (CallsIn.inRound l (callsIn_wide.2 (HF.out _ (by first | exact Below.refl _ _ | exact ⟨rfl, rfl, rfl, Nat.le_refl _, fun _ _ => rfl⟩)))).mono ?_; rintro e w2 ⟨rfl, k2⟩; have K2 := hide k2; have e0 := (k2.cell (p := ⟨w.heap.size, 0, none⟩) hG.b0.lt).trans q0; clear k2)
            | (refine ⟨trivial, ?_⟩; gi_at_call 66; refine (CallsIn.inRound l (callsIn_wide.2 (HR.out _ K2.out))).mono ?_; rintro e w3 ⟨rfl, rfl⟩))
          all_goals
            have HT : Hid (Calls Tryz.prog 92 #[.string ⟨s.toArray⟩] w3 fun e w' => e = .returned (.tuple #[.string ⟨#[71]⟩, .int .i64 17]) ∧ Bg w 23 3 26 (.pointer (some ⟨d, 0, none⟩)) 0 0 w' ∧ Below W.heap.size W w') := by
              have := takeHead_any s w3 hsl
              rw [hh] at this
              exact this.mono fun e w' ⟨he, hb⟩ => ⟨he, (hG.under K2.out).under hb, K2.out.trans (hb.mono K2.out.size)⟩
            clear e0 q0 q1 q2
            gi_wp2_with (refine ⟨trivial, ?_⟩; gi_at_call 92; refine (CallsIn.inRound l (callsIn_wide.2 HT.out)).mono ?_; rintro e w4 ⟨rfl, hG4, k4⟩; have HG := hide (And.intro hG4 k4); have t1 := hG4.b1.cell; have t2 := hG4.b2.cell; have g1 := hG4.b1.frozen; have g2 := hG4.b2.frozen; clear hG4 k4)
          all_goals exact ⟨keeps_others HG.out.2, keeps_ints HG.out.2, fun y hy => (List.mem_append.1 hy).elim (hp y) (fun e => by rw [List.mem_singleton.1 e]; rw [isB_is hr, hh]; rfl), HG.out.1⟩
        | true =>
          gi_wp2_with fail
          gi_region_with_o (first
            | (refine ⟨trivial, ?_⟩; gi_at_call 51; refine (CallsIn.inRound l (callsIn_wide.2 (HF.out _ (by first | exact Below.refl _ _ | exact ⟨rfl, rfl, rfl, Nat.le_refl _, fun _ _ => rfl⟩)))).mono ?_; rintro e w2 ⟨rfl, k2⟩; have K2 := hide k2; have e0 := (k2.cell (p := ⟨w.heap.size, 0, none⟩) hG.b0.lt).trans q0; clear k2)
            | (refine ⟨trivial, ?_⟩; gi_at_call 66; refine (CallsIn.inRound l (callsIn_wide.2 (HR.out _ K2.out))).mono ?_; rintro e w3 ⟨rfl, rfl⟩))
          all_goals
            have HT : Hid (Calls Tryz.prog 92 #[.string ⟨s.toArray⟩] w3 fun e w' => e = .returned (.tuple #[.string ⟨#[66]⟩, .int .i64 17]) ∧ Bg w 23 3 26 (.pointer (some ⟨d, 0, none⟩)) 0 0 w' ∧ Below W.heap.size W w') := by
              have := takeHead_any s w3 hsl
              rw [hh] at this
              exact this.mono fun e w' ⟨he, hb⟩ => ⟨he, (hG.under K2.out).under hb, K2.out.trans (hb.mono K2.out.size)⟩
            clear e0 q0 q1 q2
            gi_wp2_with (refine ⟨trivial, ?_⟩; gi_at_call 92; refine (CallsIn.inRound l (callsIn_wide.2 HT.out)).mono ?_; rintro e w4 ⟨rfl, hG4, k4⟩; have HG := hide (And.intro hG4 k4); have t1 := hG4.b1.cell; have t2 := hG4.b2.cell; have g1 := hG4.b1.frozen; have g2 := hG4.b2.frozen; clear hG4 k4)
          all_goals exact ⟨(keeps_others HG.out.2).trans ((KeepsOthers.setCell _ _ _).trans (KeepsOthers.setCell _ _ _)), rfl, pre, x, x.1, 0, rfl, hp, fun _ => ⟨by rw [isB_is hr, hh]; rfl, rfl, rfl⟩, HG.out.1.told _ 0⟩
  case done =>
    rintro D ys W hD hys ⟨hne, hG⟩ hK
    have b1 := hG.b1.cell
    have b2 := hG.b2.cell
    have f1 := hG.b1.frozen
    have f2 := hG.b2.frozen
    gi_wp2
    have hK' := (KeepsOthers.setCell _ ⟨w.heap.size + 1 + 1, 0, none⟩ (.int .i64 0)).same D _ ((KeepsOthers.setCell W ⟨w.heap.size + 1, 0, none⟩ (.int .i64 0)).same D _ hK rfl) rfl
    refine ⟨by simp, .inl ⟨_, _, rfl, run_takeDeferred hK', ?_⟩⟩
    have hG' := (hG.told 0 0).turned (grownBy_putObj' _ D (.deferred none)) (fun r e => by cases e; exact ⟨by simp at hD; exact Nat.le_of_lt_succ (by omega), _, hK', rfl⟩) (Nat.le_refl _)
    have h1 := hG'.b1.cell
    have h2 := hG'.b2.cell
    refine ⟨.tuple #[.int .i64 0, .int .i64 0], ?_, ?_, hG'.below⟩
    · simp [results, Tryz.f65, go_sem, h1, h2]
    · rw [firstOf_none]
      · rfl
      · intro m hm
        rw [← hys] at hm
        obtain ⟨y, hy, rfl⟩ := List.mem_map.1 hm
        exact hne y hy
  case stop =>
    rintro D c pre W hD hpre ⟨rfl, pre0, x, r, e, rfl, h2, h3, hG⟩ hK
    gi_wp2
    refine ⟨by simp, .inl ⟨_, _, rfl, run_takeDeferred hK, ?_⟩⟩
    have hG' := hG.turned (grownBy_putObj' _ D (.deferred none)) (fun r e => by cases e; exact ⟨by simp at hD; exact Nat.le_of_lt_succ (by omega), _, hK, rfl⟩) (Nat.le_refl _)
    have g1 := hG'.b1.cell
    have g2 := hG'.b2.cell
    obtain ⟨rest, hrest⟩ := hpre
    rw [List.map_append] at hrest
    have hmem : x.1 ∈ nums S.a.files := by rw [← hrest]; simp
    obtain ⟨hb, rfl, rfl⟩ := h3 (nums_read hmem)
    refine ⟨.tuple #[.int .i64 x.1, .int .i64 0], ?_, ?_, hG'.below⟩
    · simp [results, Tryz.f65, go_sem, g1, g2]
    · rw [firstOf_some (pre := pre0.map Subtype.val) (rest := rest) (n := x.1) (by rw [← hrest, List.append_assoc]; rfl) (fun m hm => by obtain ⟨y, hy, rfl⟩ := List.mem_map.1 hm; exact h2 y hy) hb]
end Go.Proofs.YtoineobjmllicaaGreatDoor
/- A log as it lies in memory; contracts: the next segment is taken, where records come, whether they may. -/
namespace Go.Wal
open Go.RowKit Go.Dk
structure Lg where
  most : Nat
  first : Nat
  last : Nat
  size : Nat
  recs : List Bs
/-- The cells of a log. -/
def lcells (d : Nat) (l : Lg) (rv : Value) : Array Value := #[.pointer (some ⟨d, 0, none⟩), .int .i64 (l.most : Int), rv, .int .i64 (l.first : Int), .int .i64 (l.last : Int), .int .i64 (l.size : Int)]
/-- Texts as cells. -/
def tv (ls : List Bs) : List Value := ls.map fun l => Value.string ⟨l.toArray⟩
/-- Block b is a log of the disk d, its records in the row rv. -/
structure LogAt (T base b d : Nat) (l : Lg) (rv : Value) (w : World) : Prop where
  row : w.heap[b]? = some (.cells (lcells d l rv) T (0, 0))
  recs : w.ownsRow base 9 1 rv l.recs.length (tv l.recs)
  apart : rv.ownBlock ≠ some b
  ge : base ≤ b
theorem LogAt.cells {T base b d : Nat} {l : Lg} {rv : Value} {w : World} (h : LogAt T base b d l rv w) :
    w.cell? ⟨b, 0, none⟩ = some (.pointer (some ⟨d, 0, none⟩)) ∧ w.cell? ⟨b, 1, none⟩ = some (.int .i64 (l.most : Int)) ∧ w.cell? ⟨b, 2, none⟩ = some rv ∧ w.cell? ⟨b, 3, none⟩ = some (.int .i64 (l.first : Int)) ∧ w.cell? ⟨b, 4, none⟩ = some (.int .i64 (l.last : Int)) ∧ w.cell? ⟨b, 5, none⟩ = some (.int .i64 (l.size : Int)) :=
  ⟨cell_of_row _ _ _ _ _ _ h.row, cell_of_row _ _ _ _ _ _ h.row, cell_of_row _ _ _ _ _ _ h.row, cell_of_row _ _ _ _ _ _ h.row, cell_of_row _ _ _ _ _ _ h.row, cell_of_row _ _ _ _ _ _ h.row⟩
theorem LogAt.frozen {T base b d : Nat} {l : Lg} {rv : Value} {w : World} (h : LogAt T base b d l rv w) (j : Nat) : w.frozen? ⟨b, j, none⟩ = false := frozen_of_row _ _ _ _ _ h.row
theorem LogAt.below {T base b d : Nat} {l : Lg} {rv : Value} {w w' : World} (h : LogAt T base b d l rv w) (hb : Below w.heap.size w w') : LogAt T base b d l rv w' :=
  ⟨(hb.block b (block_lt h.row)).trans h.row, own_below h.recs hb, h.apart, h.ge⟩
/-- What a log's functions turn of its own. -/
abbrev Lgs (b : Nat) (rv : Value) (w w' : World) : Prop := Tch (fun k => k = b ∨ rv.ownBlock = some k) w w'
/-- Behind an append to its records, and the store of them. -/
theorem LogAt.grown {T base b d : Nat} {l : Lg} {rv rv' : Value} {w w3 : World} {more : List Bs} (h : LogAt T base b d l rv w) (hg : w.grownBy w3 rv.ownBlock) (hown : w3.ownsRow base 9 1 rv' (l.recs.length + more.length) (tv l.recs ++ tv more)) (hat : rv'.ownBlock = rv.ownBlock ∨ rv'.ownBlock = some w.heap.size) :
    LogAt T base b d ⟨l.most, l.first, l.last, l.size, l.recs ++ more⟩ rv' (w3.setCell ⟨b, 2, none⟩ rv') ∧ Lgs b rv w (w3.setCell ⟨b, 2, none⟩ rv') := by
  have hbl : b < w.heap.size := block_lt h.row
  have hap : rv'.ownBlock ≠ some b := by
    rcases hat with e | e
    · rw [e]; exact h.apart
    · rw [e]; intro x; cases x; exact Nat.lt_irrefl _ hbl
  have r3 : w3.heap[b]? = some (.cells (lcells d l rv) T (0, 0)) := (hg.block b hbl (fun e => h.apart e.symm)).trans h.row
  refine ⟨⟨by rw [heap_setCell_same _ _ _ _ _ _ r3]; rfl, ?_, hap, h.ge⟩, ?_⟩
  · have : (l.recs ++ more).length = l.recs.length + more.length := List.length_append
    show (w3.setCell ⟨b, 2, none⟩ rv').ownsRow base 9 1 rv' (l.recs ++ more).length (tv (l.recs ++ more))
    rw [this, show tv (l.recs ++ more) = tv l.recs ++ tv more from List.map_append]
    exact ownsRow_kept hown fun g hg' => heap_setCell_other _ _ _ _ fun e => hap (by rw [← show g = b from e]; exact hg')
  · refine ⟨hg.os, hg.tape, hg.output, ?_, fun k hk hx => ?_⟩
    · rw [World.size_setCell]
      exact hg.size
    · rw [heap_setCell_other _ _ _ _ fun e => hx (.inl e)]
      exact hg.block k hk fun e => hx (.inr e.symm)
/-- Behind a store into another field. -/
theorem LogAt.set {T base b d : Nat} {l l' : Lg} {rv : Value} {w : World} (h : LogAt T base b d l rv w) (j : Nat) (v : Value) (hc : (lcells d l rv).setIfInBounds j v = lcells d l' rv) (hr : l'.recs = l.recs) : LogAt T base b d l' rv (w.setCell ⟨b, j, none⟩ v) :=
  ⟨by rw [heap_setCell_same _ _ _ _ _ _ h.row, hc], by rw [hr]; exact ownsRow_kept h.recs fun g hg => heap_setCell_other _ _ _ _ fun e => h.apart (by rw [← show g = b from e]; exact hg), h.apart, h.ge⟩
theorem lgs_set {b : Nat} {rv : Value} {w w' : World} (h : Lgs b rv w w') (j : Nat) (v : Value) : Lgs b rv w (w'.setCell ⟨b, j, none⟩ v) :=
  ⟨h.os, h.tape, h.output, by rw [World.size_setCell]; exact h.size, fun k hk hx => by rw [heap_setCell_other _ _ _ _ fun e => hx (.inl e)]; exact h.block k hk hx⟩
end Go.Wal
namespace Go.Proofs.YtoineobjmllicaaGreatDoor
open Go.RowKit Go.Dk Go.Wal
variable {M : Nat → Prop}
abbrev TLog : Nat := 69
set_option maxHeartbeats 1000000 in
theorem takeSegment_no (b n : Nat) (s : Bs) (w : World) (hs : s.length ≤ 1000000) (hh : head s = none) :
    Calls Tryz.prog 67 #[.pointer (some ⟨b, 0, none⟩), .int .i64 n, .string ⟨s.toArray⟩] w fun e w' => e = .returned (.bool false) ∧ Below w.heap.size w w' := by
  have HT : Hid (Calls Tryz.prog 92 #[.string ⟨s.toArray⟩] w fun e w' => e = .returned (.tuple #[.string ⟨#[]⟩, .int .i64 0]) ∧ Below w.heap.size w w') := by
    have := takeHead_any s w hs
    rw [hh] at this
    exact this
  go_enter Tryz.func67, Tryz.ntmps67
  go_wp2_with (go_at_call 92; refine HT.out.mono ?_; rintro e w1 ⟨rfl, k1⟩)
  go_ret
  exact ⟨rfl, k1⟩
set_option maxRecDepth 100000 in
set_option maxHeartbeats 2000000 in
theorem takeSegment_some (base b d n : Nat) (l : Lg) (rv : Value) (s : Bs) (bh : Bool) (w : World) (h : LogAt TLog base b d l rv w) (hbase : base ≤ w.heap.size) (hs : s.length ≤ 1000000) (hr : l.recs.length ≤ 1000000) (hh : head s = some bh) :
    Calls Tryz.prog 67 #[.pointer (some ⟨b, 0, none⟩), .int .i64 n, .string ⟨s.toArray⟩] w fun e w' => e = .returned (.bool true) ∧ ∃ rv', LogAt TLog base b d ⟨l.most, l.first, n, whole s, l.recs ++ body s⟩ rv' w' ∧ Lgs b rv w w' := by
  have HT : Hid (∃ t, (t == ([] : Bs)) = false ∧ Calls Tryz.prog 92 #[.string ⟨s.toArray⟩] w fun e w' => e = .returned (.tuple #[.string ⟨t.toArray⟩, .int .i64 17]) ∧ Below w.heap.size w w') := by
    have := takeHead_any s w hs
    rw [hh] at this
    cases bh
    · exact ⟨[71], rfl, this⟩
    · exact ⟨[66], rfl, this⟩
  obtain ⟨t, ht, HT⟩ := HT
  have HT := hide HT
  have hwl := whole_le hh
  have hw17 : 17 ≤ s.length := by unfold whole at hwl; omega
  have HR : Hid (∀ w1, Below w.heap.size w w1 → Calls Tryz.prog 94 #[.string ⟨s.toArray⟩, .int .i64 17] w1 fun e w' => ∃ v, e = .returned (.tuple #[v, .int .i64 (whole s : Int)]) ∧ w'.ownsRow w1.heap.size 9 1 v (body s).length (tv (body s)) ∧ Below w.heap.size w w') := fun w1 h1 =>
    (takeRecords_any s 17 w1 hs hw17).mono fun e w' ⟨v, he, ho, hb⟩ => ⟨v, he, ho, h1.trans (hb.mono h1.size)⟩
  have hbl : (body s).length ≤ 1000000 := by
    have h17 : ∀ l : List Bs, l.length ≤ (frs l).length := fun l => by
      induction l with
      | nil => exact Nat.le_refl _
      | cons r l ih => show _ ≤ (fr (114 :: r) ++ frs l).length; rw [List.length_append, fr_length, List.length_cons]; omega
    have := h17 (body s)
    unfold whole at hwl
    omega
  obtain ⟨i9, hi9, hz0, hz1, hz2⟩ := info_parts info_str
  have HL := hide h
  clear h hwl
  generalize hB : body s = B at *
  generalize hW : whole s = W at *
  clear hB hW
  obtain ⟨ra, rc, hrv⟩ := own_form HL.out.recs
  subst hrv
  go_enter Tryz.func67, Tryz.ntmps67
  go_upto_region 5 with (first
    | (go_at_call 92; refine HT.out.mono ?_; rintro e w1 ⟨rfl, k1⟩; have K1 := hide k1; clear k1)
    | (go_at_call 94; refine (HR.out w1 K1.out).mono ?_; rintro e w2 ⟨v, rfl, ho, k2⟩; have H2 := hide (And.intro ho k2); clear ho k2))
  have L2 := hide (HL.out.below H2.out.2)
  obtain ⟨q0, q1, q2, q3, q4, q5⟩ := L2.out.cells
  rcases H2.out.1.2 with ⟨hv, hn0⟩ | ⟨g, cap, cur, hv, _⟩
  · subst hv
    have hBn : B = [] := List.length_eq_zero_iff.1 hn0
    subst hBn
    have f2 := L2.out.frozen 2
    go_upto_region 6 with (at_builtin; refine wpList_append_own_none rfl _ _ 30 rfl base 9 i9 1 under_strs hi9 _ _ _ rfl L2.out.recs rfl ?_)
    have L3 := hide (L2.out.set (l' := l) 2 (.slice ra l.recs.length rc) rfl rfl)
    have f4 := L3.out.frozen 4
    obtain ⟨-, -, -, -, p4, -⟩ := L3.out.cells
    have L4 := hide (L3.out.set (l' := ⟨l.most, l.first, n, l.size, l.recs⟩) 4 (.int .i64 (n : Int)) rfl rfl)
    have f5 := L4.out.frozen 5
    obtain ⟨-, -, -, -, -, p5⟩ := L4.out.cells
    go_wp2
    go_ret
    refine ⟨rfl, ⟨.slice ra l.recs.length rc, ?_⟩, lgs_set (lgs_set (lgs_set (Tch.of_below H2.out.2) 2 _) 4 _) 5 _⟩
    exact L4.out.set (l' := ⟨l.most, l.first, n, W, l.recs⟩) 5 (.int .i64 (W : Int)) rfl rfl
  · subst hv
    go_upto_region 6 with (at_builtin; refine wpList_append_own_at _ rfl _ _ 30 rfl base 9 i9 (.string ⟨#[]⟩) 1 16 under_strs hi9 hz0 hz1 hz2 rfl (by decide) _ _ _ rfl L2.out.recs ⟨g, 0, none⟩ B.length cap (tv B) rfl ?a1 ?a2 ?a3 ?a4 ?a5 ?a6 ?_)
    case a1 => unfold tv; rw [List.length_map, Nat.mul_one]
    case a2 => exact fun j u hj => H2.out.1.cells rfl j u hj
    case a3 => intro u hu; unfold tv at hu; obtain ⟨x, _, rfl⟩ := List.mem_map.1 hu; rfl
    case a4 => unfold maxLen; omega
    case a5 => omega
    case a6 => exact Nat.le_trans hbase H2.out.2.size
    intro rv' w3 hown hgrow _ hat
    obtain ⟨ra', rc', hrv'⟩ := own_form hown
    subst hrv'
    have G3 := L2.out.grown hgrow hown hat
    have f2 : w3.frozen? ⟨b, 2, none⟩ = false := frozen_of_row _ _ _ _ _ ((hgrow.block b (block_lt L2.out.row) (fun e => L2.out.apart e.symm)).trans L2.out.row)
    have p2 : w3.cell? ⟨b, 2, none⟩ = some (.slice ra l.recs.length rc) := cell_of_row _ _ _ _ _ _ ((hgrow.block b (block_lt L2.out.row) (fun e => L2.out.apart e.symm)).trans L2.out.row)
    have GT : Hid (Lgs b (.slice ra l.recs.length rc) w (w3.setCell ⟨b, 2, none⟩ (.slice ra' (l.recs.length + B.length) rc'))) := Tch.and (Tch.of_below H2.out.2) G3.2
    have L3 := hide G3.1
    have f4 := L3.out.frozen 4
    obtain ⟨-, -, -, -, p4, -⟩ := L3.out.cells
    have L4 := hide (L3.out.set (l' := ⟨l.most, l.first, n, l.size, l.recs ++ B⟩) 4 (.int .i64 (n : Int)) rfl rfl)
    have f5 := L4.out.frozen 5
    obtain ⟨-, -, -, -, -, p5⟩ := L4.out.cells
    clear hown hgrow hat G3
    go_wp2
    go_ret
    exact ⟨rfl, ⟨_, L4.out.set (l' := ⟨l.most, l.first, n, W, l.recs ++ B⟩) 5 (.int .i64 (W : Int)) rfl rfl⟩, lgs_set (lgs_set GT.out 4 _) 5 _⟩
end Go.Proofs.YtoineobjmllicaaGreatDoor
