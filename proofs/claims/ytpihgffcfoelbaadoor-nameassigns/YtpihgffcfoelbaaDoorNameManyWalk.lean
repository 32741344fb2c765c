/- The walk of the statement on very many things of one name. -/
import Derived.Test.YtpihgffcfoelbaaDoorNameGiven
import Derived.Test.YtpihgffcfoelbaaDoorQuietCalls
namespace Go.QuietCalls
open Go.RowKit Go.Sort
/-- An operation that hands a value on where all that was there stands. -/
theorem handIn {P : Program} {ops : Array Oper} {W : World} {Q : Act → Prop} {rest : List Oper} {o : Oper} {a : Act} (hgd : Region.wanted o (yielded ops a.tmps) = true) (v : Value)
    (ho : ∀ w, Below W.heap.size W w → (execOp a.eval o).run P w = .ok (.value v) w)
    (h : wpQuiet P ops (fun w' => ∃ p : Regrown, w' = grow (redrawn W p.d) p.os) Q rest (a.put o.dst v)) : wpQuiet P ops (fun w' => ∃ p : Regrown, w' = grow (redrawn W p.d) p.os) Q (o :: rest) a := by
  refine wpQuiet_step fun K hK => ?_
  rw [if_pos hgd]
  refine ⟨v, fun w hw => ?_, hK _ h⟩
  have hw' : Below W.heap.size W w := by obtain ⟨p, rfl⟩ := hw; exact below_regrown _ _ _
  unfold Oper.quietAt
  rw [ho w hw']
  exact ⟨rfl, rfl⟩
/-- A look-up whose answer is known where all that was there stands. -/
theorem lookIn {P : Program} {ops : Array Oper} {W : World} {Q : Act → Prop} {rest : List Oper} {o : Oper} {a : Act} {t : TypeId} {x y : Operand} {c : Bool} {u k : Value} (hgd : Region.wanted o (yielded ops a.tmps) = true) (v : Value) (hop : o.op = .lookup t x y c) (hx : a.eval x = u) (hy : a.eval y = k)
    (ho : ∀ w, Below W.heap.size W w → (Instr.lookup t u k c).run P w = .ok v w)
    (h : wpQuiet P ops (fun w' => ∃ p : Regrown, w' = grow (redrawn W p.d) p.os) Q rest (a.put o.dst v)) : wpQuiet P ops (fun w' => ∃ p : Regrown, w' = grow (redrawn W p.d) p.os) Q (o :: rest) a :=
  handIn hgd v (fun w hw => by unfold execOp; simp only [hop, hx, hy, Sem.run_bind, ho w hw, Result.andThen_ok]; rfl) h
end Go.QuietCalls
namespace Go.Names
open Go.RowKit
theorem and_small (n : Int) (c : Nat) (hc : c < 1000) : ∃ m : Nat, m ≤ c ∧ bits .and .i64 n (c : Int) = (m : Int) := by
  have h1 : (BitVec.ofInt 64 n &&& BitVec.ofInt 64 (c : Int)).toNat ≤ c := by
    rw [BitVec.toNat_and]
    refine Nat.le_trans Nat.and_le_right ?_
    simp
    omega
  refine ⟨(BitVec.ofInt 64 n &&& BitVec.ofInt 64 (c : Int)).toNat, h1, ?_⟩
  have e : bits .and .i64 n (c : Int) = IntKind.i64.wrap ((BitVec.ofInt 64 n &&& BitVec.ofInt 64 (c : Int)).toNat : Int) := rfl
  rw [e]
  generalize (BitVec.ofInt 64 n &&& BitVec.ofInt 64 (c : Int)).toNat = m at h1
  simp [IntKind.wrap, IntKind.bits, IntKind.signed]
  omega
/-- So many things of one name. -/
def same (t : ByteArray) (k : Nat) : List (Int × ByteArray) := (List.range k).map fun i => (((16 + i : Nat) : Int), t)
theorem same_length (t : ByteArray) (k : Nat) : (same t k).length = k := by simp [same]
theorem same_succ (t : ByteArray) (k : Nat) : same t (k + 1) = same t k ++ [(((16 + k : Nat) : Int), t)] := by
  unfold same
  rw [List.range_succ, List.map_append]
  rfl
theorem same_names (t : ByteArray) (k : Nat) : namesOf (same t k) = List.replicate k t.data.toList := by
  unfold namesOf same
  rw [List.map_map]
  refine List.ext_getElem (by simp) fun i h1 h2 => by simp
end Go.Names
namespace Go.Names
/-- Which texts were seen. -/
def seenF (T : List Bs) (s : ByteArray) : Option Bool := if s.data.toList ∈ T then some true else none
theorem seenF_add (T : List Bs) (s : ByteArray) : (fun t => if t = s then some true else seenF T t) = seenF (T ++ [s.data.toList]) := by
  funext t
  unfold seenF
  by_cases e : t = s
  · subst e; simp
  · have : t.data.toList ≠ s.data.toList := fun h => e (ByteArray.ext (Array.toList_inj.1 h))
    simp [e, this]
theorem fold_take_succ {l : List Bs} {i : Nat} {x : Bs} (h : l[i]? = some x) : (l.take (i + 1)).map fold = (l.take i).map fold ++ [fold x] := by
  rw [List.take_add_one, h]
  simp
theorem fold_new {l : List Bs} {i : Nat} {x : Bs} (hn : (l.map fold).Nodup) (h : l[i]? = some x) : fold x ∉ (l.take i).map fold := by
  intro hm
  have hi := (List.getElem?_eq_some_iff.1 h).1
  rw [List.map_take] at hm
  obtain ⟨j, hj⟩ := List.getElem?_of_mem hm
  have hjl := (List.getElem?_eq_some_iff.1 hj).1
  rw [List.length_take, List.length_map] at hjl
  rw [List.getElem?_take_of_lt (by omega)] at hj
  have hi2 : (l.map fold)[i]? = some (fold x) := by rw [List.getElem?_map, h]; rfl
  have := (List.getElem?_inj (i := j) (j := i) (by rw [List.length_map]; omega) hn).1 (hj.trans hi2.symm)
  omega
end Go.Names
namespace Go.Proofs.YtpihgffcfoelbaaDoor
open Go.RowKit Go.Names Go.MapFun Go.Maps
theorem seenUnder : Tryd.prog.underlying 36 = some (.map 9 4) := by kernel_rfl
theorem zeroBool (w : World) : (zeroValue 4).run Tryd.prog w = .ok (.bool false) w := by kernel_rfl
set_option maxRecDepth 100000 in
set_option maxHeartbeats 2000000 in
theorem nameMany_any (s : ByteArray) (n : Int) (w : World) (hv : Vt w) :
    Calls Tryd.prog 6 #[.string s, .int .i64 n] w fun e w' => e = .returned (.bool true) ∧ Below w.heap.size w w' := by
  obtain ⟨k, hk, hand⟩ := and_small n 127 (by omega)
  have hand2 : bits .and .i64 n 127 = (k : Int) := hand
  clear hand
  have hts := few_size s
  have HFew := hide (few_any s)
  generalize few s = t at hts HFew
  have HV := hide hv
  clear hv
  go_enter Tryd.func6, Tryd.ntmps6
  go_wp2_with (go_at_call 7; refine (HFew.out _).mono ?_; rintro e w1 ⟨rfl, rfl⟩)
  go_loopw [7, 8] (fun vg vi wr => ∃ (i : Nat) (ga : Option Addr) (gc : Nat), i ≤ k ∧ vg = .slice ga i gc ∧ vi = .int .i64 i ∧ Hid (Gr w1 (.slice ga i gc) (same t i) wr)) (fun _ vi _ => 1000 - (intOf vi).toNat)
  case atStart => exact ⟨0, _, _, Nat.zero_le _, rfl, rfl, Gr.made w1⟩
  case round =>
    obtain ⟨i, ga, gc, hi, rfl, rfl, HH⟩ := hrel
    by_cases hlt : i < k
    · have hlt' : (i : Int) < k := by omega
      have hsl := hide (same_length t i)
      have hcv : (.int .u64 (16 + (i : Int)) : Value) = .int .u64 (((16 + i : Nat) : Int), t).1 := by congr 1
      go_wp2_with (at_builtin; refine HH.out.append (((16 + i : Nat) : Int), t) (by rw [hsl.out]; omega) rfl _ _ rfl rfl rfl ?_
                   intro a1 c1 w3 h3
                   rw [← same_succ, hsl.out] at h3
                   rw [hsl.out]
                   have H3 := hide h3
                   clear h3)
      go_roundw
      case rel => exact ⟨i + 1, a1, c1, by omega, rfl, by go_num, H3.out⟩
      case measure => simp [intOf]; omega
    · have hlt' : ¬ (i : Int) < k := by omega
      have hik : i = k := by omega
      subst hik
      have hsl := hide (same_length t i)
      have hvr := HV.out.below HV.out.size HH.out.below
      have HA := hide (assignAll_any _ _ _ hvr HH.out.gvs (by rw [hsl.out]; omega) (fun g hg => by
        unfold same at hg
        obtain ⟨j, _, rfl⟩ := List.mem_map.1 hg
        show t.size ≤ _
        omega))
      rw [hsl.out, same_names] at HA
      have hNl : Hid ((asg (List.replicate i t.data.toList)).length = i) := by show _ = _; rw [asg_length]; simp
      have hNd := hide (asg_nodup (List.replicate i t.data.toList))
      have hNg := hide (asg_legal (List.replicate i t.data.toList) (by simp; omega))
      have hN0 : Hid (0 < i → (asg (List.replicate i t.data.toList))[0]? = some (fix t.data.toList)) := by
        intro h0
        have e := asg_take_succ (List.replicate i t.data.toList) (j := 0) (o := t.data.toList) (by rw [List.getElem?_replicate, if_pos h0])
        rw [List.take_zero, asg_nil, asg_take] at e
        have e2 := congrArg (fun l => l[0]?) e
        simp only [List.getElem?_take_of_lt (show 0 < 0 + 1 by decide)] at e2
        rw [e2, show ([] : List Bs) ++ [pick (List.map fold []) (fix t.data.toList)] = [pick [] (fix t.data.toList)] from rfl, pick_own (by simp)]
        rfl
      generalize asg (List.replicate i t.data.toList) = names at HA hNl hNd hNg hN0
      have HG := hide HH.out.below
      replace hvr := hide hvr
      clear HH HFew
      have hmk := @run_makeMap Tryd.prog
      have hbk : Hid (∀ a c w2 w3, w2.ownsRow wr.heap.size 9 1 (.slice a i c) i (strV names) → Below wr.heap.size wr w2 → Below w2.heap.size w2 w3 → StrRow.Reads w3 (.slice a i c) (names.map fun x => (⟨x.toArray⟩ : ByteArray))) := fun a c w2 w3 h1 h2 h3 => by
        refine (StrRow.Reads.of_own (base := wr.heap.size) (e := 9) (n := i) ?_).below h3 (Nat.le_refl _)
        rw [List.map_map]
        exact h1
      go_wp2_with (first
        | (go_at_call 19; refine HA.out.mono ?_; rintro e w2 ⟨la, lc, rfl, hown, k2⟩
           have H2 := hide (And.intro hown k2)
           clear hown k2 HA)
        | (go_at_call 10; refine (awake_any w2 (hvr.out.below hvr.out.size H2.out.2)).mono ?_; rintro e w3 ⟨rfl, k3⟩
           have H3 := hide (And.intro (hbk.out _ _ _ _ H2.out.1 H2.out.2 k3) (HG.out.trans ((H2.out.2.trans (k3.mono H2.out.2.size)).mono HG.out.size)))
           clear k3 H2))
      clear hmk hbk
      go_loopw [11] (fun vi wr => ∃ j : Nat, j ≤ i ∧ vi = .int .i64 j ∧ Hid (Below w3.heap.size w3 wr ∧ MapG Tryd.prog 9 Value.string boolE j wr w3.heap.size (seenF ((names.take j).map fold)))) (fun vi _ => 1000 - (intOf vi).toNat)
      case atStart =>
        refine ⟨0, Nat.zero_le _, rfl, (Below.refl _ w3).alloc (Nat.le_refl _) _, ?_⟩
        have := MapG.made Tryd.prog 9 Value.string boolE w3
        have e : (fun _ => none : ByteArray → Option Bool) = seenF ((names.take 0).map fold) := by funext s; simp [seenF]
        rw [e] at this
        exact this
      case round =>
        obtain ⟨j, hj, rfl, HQ⟩ := hrel
        by_cases hlj : j < i
        · have hlj' : (j : Int) < i := by omega
          obtain ⟨x, hx⟩ : ∃ x, names[j]? = some x := ⟨_, List.getElem?_eq_getElem (by rw [hNl.out]; exact hlj)⟩
          have hxL := hNg.out x (List.mem_of_getElem? hx)
          obtain ⟨X, hX⟩ : ∃ X : ByteArray, X = ⟨x.toArray⟩ := ⟨_, rfl⟩
          have hXs : X.size ≤ 32 := by
            rw [hX, ba_size]
            simp only [legal, Bool.and_eq_true, decide_eq_true_eq] at hxL
            omega
          have hXd : X.data.toList = x := by rw [hX]
          have hxi : (names.map fun x => (⟨x.toArray⟩ : ByteArray))[j]? = some X := by rw [List.getElem?_map, hx, hX]; rfl
          have hR2 := H3.out.1.below HQ.out.1 (Nat.le_refl _)
          obtain ⟨b, off, cp, hvv, hcp, hb⟩ := hR2.at (fun e => by rw [e] at hxi; cases hxi)
          rw [List.length_map, hNl.out] at hvv hcp
          cases hvv
          have hcell := hR2.cell hxi
          have hcp' : (i : Int) ≤ lc := by omega
          have hbq := hb
          have HFo := hide (fun w1 => rfold_any X w1 (by omega))
          obtain ⟨Y, hY⟩ : ∃ Y : ByteArray, Y = ⟨(fold X.data.toList).toArray⟩ := ⟨_, rfl⟩
          rw [← hY] at HFo
          have hYd : Y.data.toList = fold x := by rw [hY, hXd]
          have hYs : Y.size ≤ 32 := by rw [hY, ba_size, fold_length]; simpa using hXs
          have hnot := hide (show seenF ((names.take j).map fold) Y = none by unfold seenF; rw [hYd, if_neg (fold_new hNd.out hx)])
          have hadd := hide (fold_take_succ hx)
          have HL : Hid (∀ w1 : World, Calls Tryd.prog 12 #[.string X] w1 fun e w' => e = .returned (.bool true) ∧ Below w1.heap.size w1 w') := fun w1 =>
            (rlegal_any X w1 (by omega)).mono (fun e w' ⟨h1, h2⟩ => ⟨by rw [h1, hXd, hxL], by rw [h2]; exact Below.refl _ _⟩)
          obtain ⟨Z, hZ⟩ : ∃ Z : ByteArray, Z = ⟨(fix t.data.toList).toArray⟩ := ⟨_, rfl⟩
          have HF := hide (fun w1 => rfix_any t w1 (by omega))
          rw [← hZ] at HF
          have hXZ : Hid (j = 0 → X = Z) := fun e => by
            have h0 := hN0.out (by omega)
            rw [e, h0] at hx
            cases hx
            rw [hX, hZ]
          have hYd' := hide hYd
          clear hY hYd hX hXd hxi hR2 hb hZ hxL hx
          have hlk : Hid (∀ w5, Below wr.heap.size wr w5 → ∀ w6, Below w5.heap.size w5 w6 → (Instr.lookup 36 (.map (some w3.heap.size)) (.string Y) false).run Tryd.prog w6 = .ok (.bool false) w6) := fun w5 k5 w6 k6 => by
            have hm := (HQ.out.2.below HQ.out.2.lt k5).below (by have := HQ.out.2.lt; have := k5.size; omega) k6
            have := hm.look strKeyed seenUnder (zeroBool w6) false Y (WideMaps.keyOf_string_mk (by kernel_rfl) (by unfold maxLen; omega))
            rw [hnot.out] at this
            exact this
          go_upto_region 16 with (go_at_call 14; refine (HFo.out _).mono ?_; rintro e w5 ⟨rfl, k5⟩)
          have hcell5 : w5.cell? ⟨b, off + j, none⟩ = some (.string X) := (k5.cell (p := ⟨b, off + j, none⟩) (by show b < _; exact hbq)).trans hcell
          have hcr := cell_regrown hcell5
          have HLk := hide (hlk.out w5 k5)
          have HQ5 := hide (And.intro (HQ.out.1.trans (k5.mono HQ.out.1.size)) (HQ.out.2.below HQ.out.2.lt k5))
          clear hcell k5 hlk HQ HFo
          by_cases hj0 : j = 0
          · have hj0' : ((j : Int) == 0) = true := by rw [hj0]; rfl
            have hXX := hXZ.out hj0
            subst hXX
            replace hj0 := hide hj0
            refine QuietCalls.region (by kernel_rfl) (by kernel_rfl) ?_
            first | go_big_quiet_step (fail) | quiet_step (fail)
            first | go_big_quiet_step (fail) | quiet_step (fail)
            refine QuietCalls.lookIn rfl (.bool false) rfl rfl rfl HLk.out ?_; simp only [Act.put, List.setIfInBounds_toArray, List.set_cons_succ, List.set_cons_zero]
            first | go_big_quiet_step (fail) | quiet_step (fail)
            first | go_big_quiet_step (fail) | quiet_step (fail)
            first | go_big_quiet_step (fail) | quiet_step (fail)
            first | go_big_quiet_step (fail) | quiet_step (fail)
            first | go_big_quiet_step (fail) | quiet_step (fail)
            refine QuietCalls.call1 rfl rfl Tryd.call12 (fun w _ => HL.out w) rfl ?_; simp only [Act.put, List.setIfInBounds_toArray, List.set_cons_succ, List.set_cons_zero]
            first | go_big_quiet_step (fail) | quiet_step (fail)
            first | go_big_quiet_step (fail) | quiet_step (fail)
            first | go_big_quiet_step (fail) | quiet_step (fail)
            first | go_big_quiet_step (fail) | quiet_step (fail)
            first | go_big_quiet_step (fail) | quiet_step (fail)
            first | go_big_quiet_step (fail) | quiet_step (fail)
            first | go_big_quiet_step (fail) | quiet_step (fail)
            first | go_big_quiet_step (fail) | quiet_step (fail)
            first | go_big_quiet_step (fail) | quiet_step (fail)
            first | go_big_quiet_step (fail) | quiet_step (fail)
            first | go_big_quiet_step (fail) | quiet_step (fail)
            refine QuietCalls.call1 rfl rfl Tryd.call16 (fun w _ => HF.out w) rfl ?_; simp only [Act.put, List.setIfInBounds_toArray, List.set_cons_succ, List.set_cons_zero]
            first | go_big_quiet_step (fail) | quiet_step (fail)
            first | go_big_quiet_step (fail) | quiet_step (fail)
            first | go_big_quiet_step (fail) | quiet_step (fail)
            refine wpQuiet_nil ?_
            intro w6 k6
            clear hcr HLk hcell5
            obtain ⟨w7, hup, hm7, hg7⟩ := (HQ5.out.2.below HQ5.out.2.lt k6).update strKeyed seenUnder (fun x y e => by cases e; rfl) (by unfold maxLen; omega) Y (WideMaps.keyOf_string_mk (by kernel_rfl) (by unfold maxLen; omega)) true
            replace hup : (Instr.mapUpdate 36 (.map (some w3.heap.size)) (.string Y) (.bool true)).run Tryd.prog w6 = .ok () w7 := hup
            have H7 : Hid (Below w3.heap.size w3 w7 ∧ MapG Tryd.prog 9 Value.string boolE (j + 1) w7 w3.heap.size (seenF ((names.take (j + 1)).map fold))) := by
              refine ⟨(HQ5.out.1.trans (k6.mono HQ5.out.1.size)).trans ⟨hg7.os, hg7.tape, hg7.output, hg7.size, fun z hz => hg7.block z (by have := HQ5.out.1.size; have := k6.size; omega) (fun e => by cases e; omega)⟩, ?_⟩
              rw [seenF_add, hYd'.out, ← hadd.out] at hm7
              exact hm7
            clear hm7 hg7
            go_wp2
            go_roundw
            case rel => exact ⟨j + 1, by omega, by go_num, H7.out⟩
            case measure => simp [intOf]; omega
          · have hj0' : ((j : Int) == 0) = false := beq_eq_false_iff_ne.2 (by omega)
            clear hj0
            refine QuietCalls.region (by kernel_rfl) (by kernel_rfl) ?_
            first | go_big_quiet_step (fail) | quiet_step (fail)
            first | go_big_quiet_step (fail) | quiet_step (fail)
            refine QuietCalls.lookIn rfl (.bool false) rfl rfl rfl HLk.out ?_; simp only [Act.put, List.setIfInBounds_toArray, List.set_cons_succ, List.set_cons_zero]
            first | go_big_quiet_step (fail) | quiet_step (fail)
            first | go_big_quiet_step (fail) | quiet_step (fail)
            first | go_big_quiet_step (fail) | quiet_step (fail)
            first | go_big_quiet_step (fail) | quiet_step (fail)
            first | go_big_quiet_step (fail) | quiet_step (fail)
            refine QuietCalls.call1 rfl rfl Tryd.call12 (fun w _ => HL.out w) rfl ?_; simp only [Act.put, List.setIfInBounds_toArray, List.set_cons_succ, List.set_cons_zero]
            first | go_big_quiet_step (fail) | quiet_step (fail)
            first | go_big_quiet_step (fail) | quiet_step (fail)
            first | go_big_quiet_step (fail) | quiet_step (fail)
            first | go_big_quiet_step (fail) | quiet_step (fail)
            first | go_big_quiet_step (fail) | quiet_step (fail)
            first | go_big_quiet_step (fail) | quiet_step (fail)
            first | go_big_quiet_step (fail) | quiet_step (fail)
            first | go_big_quiet_step (fail) | quiet_step (fail)
            first | go_big_quiet_step (fail) | quiet_step (fail)
            first | go_big_quiet_step (fail) | quiet_step (fail)
            first | go_big_quiet_step (fail) | quiet_step (fail)
            first | go_big_quiet_step (fail) | quiet_step (fail)
            first | go_big_quiet_step (fail) | quiet_step (fail)
            first | go_big_quiet_step (fail) | quiet_step (fail)
            first | go_big_quiet_step (fail) | quiet_step (fail)
            refine wpQuiet_nil ?_
            intro w6 k6
            clear hcr HLk hcell5
            obtain ⟨w7, hup, hm7, hg7⟩ := (HQ5.out.2.below HQ5.out.2.lt k6).update strKeyed seenUnder (fun x y e => by cases e; rfl) (by unfold maxLen; omega) Y (WideMaps.keyOf_string_mk (by kernel_rfl) (by unfold maxLen; omega)) true
            replace hup : (Instr.mapUpdate 36 (.map (some w3.heap.size)) (.string Y) (.bool true)).run Tryd.prog w6 = .ok () w7 := hup
            have H7 : Hid (Below w3.heap.size w3 w7 ∧ MapG Tryd.prog 9 Value.string boolE (j + 1) w7 w3.heap.size (seenF ((names.take (j + 1)).map fold))) := by
              refine ⟨(HQ5.out.1.trans (k6.mono HQ5.out.1.size)).trans ⟨hg7.os, hg7.tape, hg7.output, hg7.size, fun z hz => hg7.block z (by have := HQ5.out.1.size; have := k6.size; omega) (fun e => by cases e; omega)⟩, ?_⟩
              rw [seenF_add, hYd'.out, ← hadd.out] at hm7
              exact hm7
            clear hm7 hg7
            go_wp2
            go_roundw
            case rel => exact ⟨j + 1, by omega, by go_num, H7.out⟩
            case measure => simp [intOf]; omega
        · have hlj' : ¬ (j : Int) < i := by omega
          go_wp2
          go_ret
          exact ⟨rfl, H3.out.2.trans (HQ.out.1.mono H3.out.2.size)⟩
end Go.Proofs.YtpihgffcfoelbaaDoor
