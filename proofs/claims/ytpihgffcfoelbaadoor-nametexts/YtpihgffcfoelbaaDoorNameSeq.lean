/- Contracts: the parts of a path, one behind the other, as the library's iterator gives them. -/
import Derived.RangeFuncNested
import Derived.RangeFuncBound
import Derived.RangeFuncCalls
import Derived.RangeFuncLeaves
import Derived.RangeFuncBox
import Derived.Shelf.Abstract
import Derived.Shelf.RegionOpen
import Derived.OwnWalkIn
import Derived.TacticsInMore
import Derived.LoopNIn
import Derived.LoopIn
import Derived.Test.YtpihgffcfoelbaaDoorNameParts
import Derived.Test.YtpihgffcfoelbaaDoorNameLeaves
namespace Go.Proofs.YtpihgffcfoelbaaDoor
open Go.RowKit Go.Names Go.Shelf
attribute [local go_sem] Oper.semAt_some
set_option maxHeartbeats 800000 in
theorem sliteIndex_any (s : ByteArray) (w : World) :
    Calls Tryd.prog 41 #[.string s, .string ⟨#[47]⟩] w fun e w' => e = .returned (.int .i64 (Lib.indexByte s.data.toList 47)) ∧ w' = w := by
  have HC := hide (Any.stringslite_IndexByte { indexByteL with } s 47 w)
  have h1 : (⟨#[47]⟩ : ByteArray).size = 1 := rfl
  by_cases hs : s.toList = [47]
  · have hb : ([47] == s.toList) = true := by rw [hs]; rfl
    have hd : s.data.toList = [47] := by rw [← ByteArray.toList_eq]; exact hs
    rw [hd, show Lib.indexByte [47] 47 = 0 from rfl]
    clear hd hs HC
    go_enter Tryd.func41, Tryd.ntmps41
    go_wp2
    go_ret
    exact ⟨rfl, rfl⟩
  · have hb : ([47] == s.toList) = false := beq_eq_false_iff_ne.2 (Ne.symm hs)
    clear hs
    go_enter Tryd.func41, Tryd.ntmps41
    go_wp2_with (go_at_call 34; refine HC.out.mono ?_; rintro e w1 ⟨rfl, rfl⟩)
    go_ret
    exact ⟨rfl, rfl⟩
theorem index_any (s : ByteArray) (w : World) :
    Calls Tryd.prog 37 #[.string s, .string ⟨#[47]⟩] w fun e w' => e = .returned (.int .i64 (Lib.indexByte s.data.toList 47)) ∧ w' = w := by
  have HC := hide (sliteIndex_any s w)
  go_enter Tryd.func37, Tryd.ntmps37
  go_wp2_with (go_at_call 41; refine HC.out.mono ?_; rintro e w1 ⟨rfl, rfl⟩)
  go_ret
  exact ⟨rfl, rfl⟩
theorem splitSeq_any (s : ByteArray) (w : World) :
    Calls Tryd.prog 24 #[.string s, .string ⟨#[47]⟩] w fun e w' => e = .returned (.func (.func 35) #[] #[.pointer (some ⟨w.heap.size + 1, 0, none⟩), .pointer (some ⟨w.heap.size, 0, none⟩), .pointer (some ⟨w.heap.size + 1 + 1, 0, none⟩)]) ∧ w' = ((w.alloc (.cells #[.string s] 9)).alloc (.cells #[.string ⟨#[47]⟩] 9)).alloc (.cells #[.int .i64 0] 3) := by
  have HC : Hid (Calls Tryd.prog 31 #[.string s, .string ⟨#[47]⟩, .int .i64 0] w fun e w' => e = .returned (.func (.func 35) #[] #[.pointer (some ⟨w.heap.size + 1, 0, none⟩), .pointer (some ⟨w.heap.size, 0, none⟩), .pointer (some ⟨w.heap.size + 1 + 1, 0, none⟩)]) ∧ w' = ((w.alloc (.cells #[.string s] 9)).alloc (.cells #[.string ⟨#[47]⟩] 9)).alloc (.cells #[.int .i64 0] 3)) := by
    show Calls _ _ _ _ _
    go_enter Tryd.func31, Tryd.ntmps31
    go_wp2
    go_ret
    exact ⟨rfl, rfl⟩
  go_enter Tryd.func24, Tryd.ntmps24
  go_wp2_with (go_at_call 31; refine HC.out.mono ?_; rintro e w1 ⟨rfl, rfl⟩)
  go_ret
  exact ⟨rfl, rfl⟩
theorem index_lt : ∀ (l : Bs) (c : UInt8), Lib.indexByte l c < l.length
  | [], c => by simp [Lib.indexByte]
  | b :: l, c => by
    have ih := index_lt l c
    unfold Lib.indexByte
    split
    · simp
    · split
      · simp; omega
      · simp; omega
theorem take_is (R : ByteArray) (i : Nat) : (R.extract 0 i).data.toList = R.data.toList.take i := by simp [ByteArray.data_extract]
theorem drop_is (R : ByteArray) (i : Nat) : (R.extract i R.size).data.toList = R.data.toList.drop i := by
  simp only [ByteArray.data_extract, Array.toList_extract, List.extract_eq_take_drop]
  rw [List.take_of_length_le]
  rw [List.length_drop]
  exact Nat.le_refl _
set_option maxHeartbeats 4000000 in
set_option maxRecDepth 100000 in
/-- The iterator, over a body that goes on at parts that may be names, and leaves at others. -/
theorem seq_in (s : ByteArray) (hs : s.size ≤ 238) (l m b1 b2 b3 : Nat) (J Jx : World → Prop) (W : World)
    (hY : ∀ (p : ByteArray) (W1 : World), J W1 → p.size ≤ 238 → legal p.data.toList = true → YieldAt Fence.wide (m - 1) Tryd.prog l #[.string p] W1 fun e W' => e = .returned (.bool true) ∧ W' = W1)
    (hN : ∀ (p : ByteArray) (W1 : World), J W1 → p.size ≤ 238 → legal p.data.toList = false → YieldAt Fence.wide (m - 1) Tryd.prog l #[.string p] W1 fun e W' => e = .returned (.bool false) ∧ Jx W')
    (hJ : ∀ (W1 : World) (v : Value), J W1 → J (W1.setCell ⟨b2, 0, none⟩ v)) (h0 : J W)
    (c1 : W.cell? ⟨b1, 0, none⟩ = some (.string ⟨#[47]⟩)) (x2 : Boxed W b2 9 (.string s)) (c3 : W.cell? ⟨b3, 0, none⟩ = some (.int .i64 0)) (h12 : b1 ≠ b2) (h32 : b3 ≠ b2) :
    CallsIn Fence.wide m Tryd.prog 35 #[.func (.yield l) #[] #[], .pointer (some ⟨b1, 0, none⟩), .pointer (some ⟨b2, 0, none⟩), .pointer (some ⟨b3, 0, none⟩)] W fun e W' => (∃ v, e = .returned v) ∧ (((parts s.data.toList).all legal = true ∧ J W') ∨ ((parts s.data.toList).all legal = false ∧ Jx W')) := by
  refine callsIn_of_wp Tryd.func35 rfl trivial ?_ rfl
  simp only [Tryd.ntmps35, List.size_toArray, List.length_cons, List.length_nil, Nat.reduceAdd, Nat.reduceSub, Array.replicate_succ, Array.replicate_zero, List.push_toArray, List.append_toArray, List.nil_append, List.cons_append]
  have h1 : (⟨#[47]⟩ : ByteArray).size = 1 := rfl
  have HY := hide hY
  have HN := hide hN
  have HJ := hide hJ
  have H0 := hide h0
  have X2 := hide x2
  have C1 := hide c1
  have C3 := hide c3
  clear hY hN hJ h0 x2 c3
  gi_wp2_with fail
  clear c1
  gi_loopw [7] (fun _ wr => ∃ R : ByteArray, Hid (R.size ≤ 238 ∧ Boxed wr b2 9 (.string R) ∧ J wr ∧ wr.cell? ⟨b1, 0, none⟩ = some (.string ⟨#[47]⟩) ∧ wr.cell? ⟨b3, 0, none⟩ = some (.int .i64 0) ∧ (parts s.data.toList).all legal = (parts R.data.toList).all legal)) (fun _ wr => match wr.cell? ⟨b2, 0, none⟩ with | some (.string r) => r.size | _ => 0)
  case atStart => exact ⟨s, hs, X2.out, H0.out, C1.out, C3.out, rfl⟩
  case round =>
    obtain ⟨R, HP⟩ := hrel
    clear X2 H0 C1 C3
    obtain ⟨hR, hx, hj, hc1, hc3, hall⟩ := HP.out
    have hc2 := hx.cell
    have hf2 := hx.frozen
    have HX := hide hx
    have Hj := hide hj
    have HA := hide hall
    clear hx hj hall HP
    have HI := hide (fun w1 => index_any R w1)
    by_cases hneg : Lib.indexByte R.data.toList 47 < 0
    · have hnot : 47 ∉ R.data.toList := fun hm => by have := (index_has R.data.toList 47).2 hm; omega
      have HAll : Hid ((parts s.data.toList).all legal = legal R.data.toList) := by
        show _ = _
        rw [HA.out, parts_none hnot]
        simp
      clear hnot
      generalize Lib.indexByte R.data.toList 47 = ix at hneg HI
      cases hl : legal R.data.toList with
      | true =>
        rw [hl] at HAll
        obtain ⟨fn, tmps, assign, body, hy, hRn⟩ := HY.out R wr Hj.out hR hl
        gi_wp2_with (refine ⟨trivial, fun h => (by cases h), (callsIn_wide.2 (HI.out _)).mono ?_⟩; rintro e w1 ⟨rfl, h9⟩; replace h9 := h9.symm; subst h9)
        refine ⟨fun h => (by cases h), hRn.mono ?_⟩
        rintro e W3 ⟨rfl, rfl⟩
        gi_wp2_with fail
        go_end0
        exact ⟨⟨_, rfl⟩, .inl ⟨HAll.out, Hj.out⟩⟩
      | false =>
        rw [hl] at HAll
        obtain ⟨fn, tmps, assign, body, hy, hRn⟩ := HN.out R wr Hj.out hR hl
        gi_wp2_with (refine ⟨trivial, fun h => (by cases h), (callsIn_wide.2 (HI.out _)).mono ?_⟩; rintro e w1 ⟨rfl, h9⟩; replace h9 := h9.symm; subst h9)
        refine ⟨fun h => (by cases h), hRn.mono ?_⟩
        rintro e W3 ⟨rfl, hx3⟩
        gi_wp2_with fail
        go_end0
        exact ⟨⟨_, rfl⟩, .inr ⟨HAll.out, hx3⟩⟩
    · obtain ⟨i, hi⟩ : ∃ i : Nat, Lib.indexByte R.data.toList 47 = i := ⟨(Lib.indexByte R.data.toList 47).toNat, by omega⟩
      have hlt : i < R.size := by
        have := index_lt R.data.toList 47
        simp at this
        omega
      have HAll : Hid ((parts s.data.toList).all legal = (legal (R.extract 0 i).data.toList && (parts (R.extract (i + 1) R.size).data.toList).all legal)) := by
        show _ = _
        rw [HA.out, parts_cut hi, take_is, drop_is]
        rfl
      rw [hi] at HI
      have hi0 : ¬ (i : Int) < 0 := by omega
      have hi1 : (i : Int) ≤ R.size := by omega
      have hi2 : (i : Int) + 1 ≤ R.size := by omega
      have hps : (R.extract 0 i).size ≤ 238 := by rw [ByteArray.size_extract]; omega
      have hqs : Hid ((R.extract (i + 1) R.size).size < R.size ∧ (R.extract (i + 1) R.size).size ≤ 238) := by
        show _ ∧ _
        rw [ByteArray.size_extract]; omega
      clear hneg hi
      cases hl : legal (R.extract 0 i).data.toList with
      | true =>
        rw [hl] at HAll
        obtain ⟨fn, tmps, assign, body, hy, hRn⟩ := HY.out (R.extract 0 i) wr Hj.out hps hl
        gi_wp2_with (refine ⟨trivial, fun h => (by cases h), (callsIn_wide.2 (HI.out _)).mono ?_⟩; rintro e w1 ⟨rfl, h9⟩; replace h9 := h9.symm; subst h9)
        refine ⟨fun h => (by cases h), hRn.mono ?_⟩
        rintro e W3 ⟨rfl, rfl⟩
        have HX2 := hide (HX.out.set (.string (R.extract (i + 1) R.size)))
        have hk1 := hide ((grownBy_setCell' W3 b2 (.string (R.extract (i + 1) R.size))).cell hc1 (fun e => h12 (Option.some.inj e)))
        have hk3 := hide ((grownBy_setCell' W3 b2 (.string (R.extract (i + 1) R.size))).cell hc3 (fun e => h32 (Option.some.inj e)))
        have HE := hide HX.out.cell
        clear hRn hy
        gi_wp2_with fail
        go_roundw
        case rel => exact ⟨R.extract (i + 1) R.size, hqs.out.2, HX2.out, HJ.out _ _ Hj.out, hk1.out, hk3.out, by rw [HAll.out]; rfl⟩
        case measure =>
          have e1 := HX2.out.cell
          have e2 := HE.out
          simp only [e1, e2]
          exact hqs.out.1
      | false =>
        rw [hl] at HAll
        obtain ⟨fn, tmps, assign, body, hy, hRn⟩ := HN.out (R.extract 0 i) wr Hj.out hps hl
        gi_wp2_with (refine ⟨trivial, fun h => (by cases h), (callsIn_wide.2 (HI.out _)).mono ?_⟩; rintro e w1 ⟨rfl, h9⟩; replace h9 := h9.symm; subst h9)
        refine ⟨fun h => (by cases h), hRn.mono ?_⟩
        rintro e W3 ⟨rfl, hx3⟩
        gi_wp2_with fail
        refine bodyPost_ret (results_none rfl _ _ _) rfl ?_
        exact ⟨⟨_, rfl⟩, .inr ⟨HAll.out, hx3⟩⟩
end Go.Proofs.YtpihgffcfoelbaaDoor
