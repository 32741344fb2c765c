/- The walk of the statement on tags that are right. -/
import Derived.Test.YtcfjlnceofdcdaaDoorMacAwake
import Derived.Test.YtcfjlnceofdcdaaDoorMacRefTag
namespace Go.Mac
/-- A number whose low bits are taken is small. -/
theorem and_small (n : Int) (c : Nat) (hc : c < 1000) : ∃ m : Nat, m ≤ c ∧ bits .and .i64 n (c : Int) = (m : Int) := by
  have h1 : (BitVec.ofInt 64 n &&& BitVec.ofInt 64 (c : Int)).toNat ≤ c := by
    rw [BitVec.toNat_and]
    refine Nat.le_trans Nat.and_le_right ?_
    simp
    omega
  refine ⟨(BitVec.ofInt 64 n &&& BitVec.ofInt 64 (c : Int)).toNat, h1, ?_⟩
  have e : bits .and .i64 n (c : Int) = IntKind.i64.wrap ((BitVec.ofInt 64 n &&& BitVec.ofInt 64 (c : Int)).toNat : Int) := rfl
  rw [e]
  generalize (BitVec.ofInt 64 n &&& BitVec.ofInt 64 (c : Int)).toNat = m at h1
  simp [IntKind.wrap, IntKind.bits, IntKind.signed]
  omega
end Go.Mac
namespace Go.Proofs.YtcfjlnceofdcdaaDoor
open Go.RowKit
open Go.Sort
set_option maxRecDepth 100000 in
set_option maxHeartbeats 1000000 in
theorem macChecks_any (n i : Int) (a b : ByteArray) (w : World) (ha : a.size ≤ maxLen) (hb : b.size ≤ maxLen) (hst : Steps w) :
    Calls Tryd.prog 5 #[.int .i64 n, .int .i64 i, .agg #[.string a, .string b]] w fun e w' => e = .returned (.bool true) ∧ Below w.heap.size w w' := by
  have hpos := hst.pos
  have HS : Hid (Steps w) := hst
  clear hst
  obtain ⟨m, hm, hand⟩ := Mac.and_small n 15 (by omega)
  have hand2 : bits .and .i64 n 15 = (m : Int) := hand
  clear hand
  have hcs := Sha.cut400_size a
  have hct := Sha.cut400_size b
  generalize hS : Sha.cut400 a = S at hcs
  generalize hT : Sha.cut400 b = T at hct
  have HC : Hid (Sha.cut400 a = S ∧ Sha.cut400 b = T) := ⟨hS, hT⟩
  clear hS hT
  go_enter Tryd.func5, Tryd.ntmps5
  go_wp2_with fail
  go_quiet ((go_at_call 9; exact Calls.quiet_of_same (cut400_any _ _ (by assumption))))
  rw [HC.out.1, HC.out.2]
  clear HC
  have HB0 : Hid (Below w.heap.size w ((w.alloc (.cells #[.string a, .string b] 38)).drewN nq)) := below_drewN ((Below.refl _ _).alloc (Nat.le_refl _) _) nq
  generalize hw0 : (w.alloc (.cells #[.string a, .string b] 38)).drewN nq = w0 at HB0
  clear hw0
  have H0 : Hid (Below w.heap.size w w0 ∧ Steps w0) := ⟨HB0.out, Steps.by HB0.out hpos HS.out⟩
  clear HB0
  have hm2 : (m : Int) ≤ 15 := by omega
  go_wp2_with fail
  refine (newRing_any Mac.seedS m _ (by omega) (by decide) H0.out.2).mono ?_
  rintro e w1 ⟨v, rfl, hr1, hb1⟩
  have H1 : Hid (Mac.RingAt w1 v (Mac.keysOf Mac.seedS m) ∧ Below w.heap.size w w1 ∧ Steps w1) := ⟨hr1, H0.out.1.trans (hb1.mono H0.out.1.size), Steps.by hb1 H0.out.2.pos H0.out.2⟩
  clear hr1 hb1 H0
  have hlen := Mac.keysOf_length Mac.seedS m
  by_cases hi : i < 0 ∨ (m : Int) ≤ i
  · have hi2 : i < 0 ∨ ((Mac.keysOf Mac.seedS m).length : Int) ≤ i := by rw [hlen]; exact hi
    have HI : Hid (i < 0 ∨ ((Mac.keysOf Mac.seedS m).length : Int) ≤ i) := hi2
    clear hi2
    by_cases h0 : i < 0
    · go_wp2_with fail
      refine (awake_any _ H1.out.2.2).mono ?_
      rintro e w2 ⟨rfl, hb2⟩
      have H2 : Hid (Mac.RingAt w2 v (Mac.keysOf Mac.seedS m) ∧ Below w.heap.size w w2) := ⟨H1.out.1.below hb2 (Nat.le_refl _), H1.out.2.1.trans (hb2.mono H1.out.2.1.size)⟩
      clear hb2 H1
      go_wp2_with (go_at_call 15; refine (check_out v _ i _ _ _ H2.out.1 HI.out).mono ?_; rintro e w2 ⟨rfl, rfl⟩)
      go_ret
      exact ⟨rfl, H2.out.2⟩
    · have h1 : (m : Int) ≤ i := by omega
      go_wp2_with fail
      refine (awake_any _ H1.out.2.2).mono ?_
      rintro e w2 ⟨rfl, hb2⟩
      have H2 : Hid (Mac.RingAt w2 v (Mac.keysOf Mac.seedS m) ∧ Below w.heap.size w w2) := ⟨H1.out.1.below hb2 (Nat.le_refl _), H1.out.2.1.trans (hb2.mono H1.out.2.1.size)⟩
      clear hb2 H1
      go_wp2_with (go_at_call 15; refine (check_out v _ i _ _ _ H2.out.1 HI.out).mono ?_; rintro e w2 ⟨rfl, rfl⟩)
      go_ret
      exact ⟨rfl, H2.out.2⟩
  · obtain ⟨j, rfl⟩ := Int.eq_ofNat_of_zero_le (show 0 ≤ i by omega)
    have hj : j < m := by omega
    have hj2 : (j : Int) < m := by omega
    have HK : Hid ((Mac.keysOf Mac.seedS m)[j]? = some (Mac.keyOf Mac.seedS j)) := Mac.keysOf_at Mac.seedS m j hj
    have hks := Mac.keyOf_size Mac.seedS j
    generalize hK : Mac.keyOf Mac.seedS j = K at HK hks
    have HKe : Hid (Mac.keyOf Mac.seedS j = K) := hK
    clear hK hi
    go_wp2_with fail
    refine (lkey_any Mac.seedS j _ (by decide)).mono ?_
    rintro e w2 ⟨rfl, hb2⟩
    rw [HKe.out]
    have H2 : Hid (Mac.RingAt w2 v (Mac.keysOf Mac.seedS m) ∧ Below w.heap.size w w2 ∧ Steps w2) := ⟨H1.out.1.below hb2 (Nat.le_refl _), H1.out.2.1.trans (hb2.mono H1.out.2.1.size), Steps.by hb2 H1.out.2.2.pos H1.out.2.2⟩
    clear hb2 H1 HKe
    go_wp2_with fail
    refine (rtag_any K S _ (by omega) (by omega)).mono ?_
    rintro e w3 ⟨rfl, hb3⟩
    have H3 : Hid (Mac.RingAt w3 v (Mac.keysOf Mac.seedS m) ∧ Below w.heap.size w w3 ∧ Steps w3) := ⟨H2.out.1.below hb3 (Nat.le_refl _), H2.out.2.1.trans (hb3.mono H2.out.2.1.size), Steps.by hb3 H2.out.2.2.pos H2.out.2.2⟩
    clear hb3 H2
    obtain ⟨G, hG⟩ : ∃ G : ByteArray, G = ⟨(Sha.tag K.data.toList S.data.toList).toArray⟩ := ⟨_, rfl⟩
    rw [← hG]
    have HG : Hid (G = ⟨(Sha.tag K.data.toList S.data.toList).toArray⟩ ∧ G.data.toList = Sha.tag K.data.toList S.data.toList) := ⟨hG, by rw [hG]⟩
    clear hG
    go_wp2_with fail
    refine (awake_any _ H3.out.2.2).mono ?_
    rintro e w4 ⟨rfl, hb4⟩
    have H4 : Hid (Mac.RingAt w4 v (Mac.keysOf Mac.seedS m) ∧ Below w.heap.size w w4 ∧ Steps w4) := ⟨H3.out.1.below hb4 (Nat.le_refl _), H3.out.2.1.trans (hb4.mono H3.out.2.1.size), Steps.by hb4 H3.out.2.2.pos H3.out.2.2⟩
    clear hb4 H3
    go_wp2_with fail
    refine (check_in v _ j K S T _ H4.out.1 HK.out (by omega) (by omega) H4.out.2.2).mono ?_
    rintro e w5 ⟨rfl, hb5⟩
    rw [← HG.out.2]
    have H5 : Hid (Mac.RingAt w5 v (Mac.keysOf Mac.seedS m) ∧ Below w.heap.size w w5 ∧ Steps w5) := ⟨H4.out.1.below hb5 (Nat.le_refl _), H4.out.2.1.trans (hb5.mono H4.out.2.1.size), Steps.by hb5 H4.out.2.2.pos H4.out.2.2⟩
    clear hb5 H4
    rw [show decide (T.data.toList = G.data.toList) = (T.toList == G.toList) by rw [ByteArray.toList_eq, ByteArray.toList_eq, Bool.eq_iff_iff]; simp]
    generalize (T.toList == G.toList) = q
    go_wp2_with fail
    refine (tag_in v _ j K S _ H5.out.1 HK.out (by omega) (by omega) H5.out.2.2).mono ?_
    rintro e w6 ⟨rfl, hb6⟩
    rw [← HG.out.1]
    have H6 : Hid (Mac.RingAt w6 v (Mac.keysOf Mac.seedS m) ∧ Below w.heap.size w w6 ∧ Steps w6) := ⟨H5.out.1.below hb6 (Nat.le_refl _), H5.out.2.1.trans (hb6.mono H5.out.2.1.size), Steps.by hb6 H5.out.2.2.pos H5.out.2.2⟩
    clear hb6 H5
    go_wp2_with fail
    refine (check_in v _ j K S G _ H6.out.1 HK.out (by omega) (by omega) H6.out.2.2).mono ?_
    rintro e w7 ⟨rfl, hb7⟩
    rw [HG.out.2, decide_eq_true rfl]
    go_wp2
    go_ret
    exact ⟨rfl, H6.out.2.1.trans (hb7.mono H6.out.2.1.size)⟩
end Go.Proofs.YtcfjlnceofdcdaaDoor
