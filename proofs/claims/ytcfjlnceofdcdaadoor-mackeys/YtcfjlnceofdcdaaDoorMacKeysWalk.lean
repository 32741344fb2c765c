/- The walk of the statement on the keys of a ring. -/
import Derived.Test.YtcfjlnceofdcdaaDoorMacAwake
import Derived.Test.YtcfjlnceofdcdaaDoorMacRefTag
namespace Go.Proofs.YtcfjlnceofdcdaaDoor
open Go.RowKit
open Go.Sort
set_option maxRecDepth 100000 in
set_option maxHeartbeats 1000000 in
theorem macKeys_any (seed : ByteArray) (n i : Int) (w : World) (hs : seed.size ≤ maxLen) (hst : Steps w) :
    Calls Tryd.prog 4 #[.string seed, .int .i64 n, .int .i64 i] w fun e w' => e = .returned (.bool true) ∧ Below w.heap.size w w' := by
  have hpos := hst.pos
  have HS : Hid (Steps w) := hst
  clear hst
  by_cases hn : n < 0 ∨ 16 < n
  · go_enter Tryd.func4, Tryd.ntmps4
    go_wp2_with (go_at_call 9; refine (cut400_any _ _ (by assumption)).mono ?_; rintro e w ⟨rfl, rfl⟩)
    refine (newRing_bad _ n _ hn).mono ?_
    rintro e w ⟨rfl, rfl⟩
    go_wp2_with fail
    refine (awake_any _ HS.out).mono ?_
    rintro e w1 ⟨rfl, hb1⟩
    by_cases h0 : n < 0
    · go_wp2_with (go_at_call 12; refine (len_nil _).mono ?_; rintro e w1 ⟨rfl, rfl⟩)
      go_ret
      exact ⟨rfl, hb1⟩
    · have h1 : 16 < n := by omega
      go_wp2_with (go_at_call 12; refine (len_nil _).mono ?_; rintro e w1 ⟨rfl, rfl⟩)
      go_ret
      exact ⟨rfl, hb1⟩
  · obtain ⟨m, rfl⟩ := Int.eq_ofNat_of_zero_le (show 0 ≤ n by omega)
    have hm : m ≤ 16 := by omega
    have hm2 : (m : Int) ≤ 16 := by omega
    have hcs := Sha.cut400_size seed
    generalize hS : Sha.cut400 seed = S at hcs
    have HSe : Hid (Sha.cut400 seed = S) := hS
    clear hS hn
    go_enter Tryd.func4, Tryd.ntmps4
    go_wp2_with (go_at_call 9; refine (cut400_any _ _ (by assumption)).mono ?_; rintro e w ⟨rfl, rfl⟩; rw [HSe.out])
    refine (newRing_any S m _ hm (by omega) HS.out).mono ?_
    rintro e w1 ⟨v, rfl, hr1, hb1⟩
    have H1 : Hid (Mac.RingAt w1 v (Mac.keysOf S m) ∧ Below w.heap.size w w1 ∧ Steps w1) := ⟨hr1, hb1, Steps.by hb1 hpos HS.out⟩
    clear hr1 hb1
    go_wp2_with fail
    refine (awake_any _ H1.out.2.2).mono ?_
    rintro e w2 ⟨rfl, hb2⟩
    have H2 : Hid (Mac.RingAt w2 v (Mac.keysOf S m) ∧ Below w.heap.size w w2 ∧ Steps w2) := ⟨H1.out.1.below hb2 (Nat.le_refl _), H1.out.2.1.trans (hb2.mono H1.out.2.1.size), Steps.by hb2 H1.out.2.2.pos H1.out.2.2⟩
    clear hb2 H1
    have hlen := Mac.keysOf_length S m
    by_cases hi : i < 0 ∨ (m : Int) ≤ i
    · have hi2 : i < 0 ∨ ((Mac.keysOf S m).length : Int) ≤ i := by rw [hlen]; exact hi
      have HI : Hid (i < 0 ∨ ((Mac.keysOf S m).length : Int) ≤ i) := hi2
      clear hi2
      go_wp2_with fail
      refine (key_out v _ i _ H2.out.1 HI.out).mono ?_
      rintro e w2 ⟨rfl, rfl⟩
      go_wp2_with fail
      refine (tag_out v _ i _ _ H2.out.1 HI.out).mono ?_
      rintro e w2 ⟨rfl, rfl⟩
      by_cases h0 : i < 0
      · go_wp2_with (first | (go_at_call 12; refine (len_any v _ _ H2.out.1).mono ?_; rw [hlen]; rintro e w2 ⟨rfl, rfl⟩) | (go_at_call 15; refine (check_out v _ i _ _ _ H2.out.1 HI.out).mono ?_; rintro e w2 ⟨rfl, rfl⟩))
        go_ret
        exact ⟨rfl, H2.out.2.1⟩
      · have h1 : (m : Int) ≤ i := by omega
        go_wp2_with (first | (go_at_call 12; refine (len_any v _ _ H2.out.1).mono ?_; rw [hlen]; rintro e w2 ⟨rfl, rfl⟩) | (go_at_call 15; refine (check_out v _ i _ _ _ H2.out.1 HI.out).mono ?_; rintro e w2 ⟨rfl, rfl⟩))
        go_ret
        exact ⟨rfl, H2.out.2.1⟩
    · obtain ⟨j, rfl⟩ := Int.eq_ofNat_of_zero_le (show 0 ≤ i by omega)
      have hj : j < m := by omega
      have hj2 : (j : Int) < m := by omega
      have HK : Hid ((Mac.keysOf S m)[j]? = some (Mac.keyOf S j)) := Mac.keysOf_at S m j hj
      have hks := Mac.keyOf_size S j
      generalize hK : Mac.keyOf S j = K at HK hks
      have HKe : Hid (Mac.keyOf S j = K) := hK
      clear hK hi
      go_wp2_with fail
      refine (key_in v _ j K _ H2.out.1 HK.out).mono ?_
      rintro e w2 ⟨rfl, rfl⟩
      go_wp2_with fail
      refine (tag_in v _ j K Mac.textS _ H2.out.1 HK.out (by omega) (by decide) H2.out.2.2).mono ?_
      rintro e w3 ⟨rfl, hb3⟩
      have H3 : Hid (Mac.RingAt w3 v (Mac.keysOf S m) ∧ Below w.heap.size w w3) := ⟨H2.out.1.below hb3 (Nat.le_refl _), H2.out.2.1.trans (hb3.mono H2.out.2.1.size)⟩
      clear hb3 H2
      generalize hT : Sha.tag K.data.toList Mac.textS.data.toList = T
      have HT : Hid (Sha.tag K.data.toList Mac.textS.data.toList = T) := hT
      clear hT
      go_wp2_with (go_at_call 12; refine (len_any v _ _ H3.out.1).mono ?_; rw [hlen]; rintro e w3 ⟨rfl, rfl⟩)
      refine (lkey_any S j _ (by omega)).mono ?_
      rintro e w4 ⟨rfl, hb4⟩
      rw [HKe.out]
      have H4 : Hid (Below w.heap.size w w4) := H3.out.2.trans (hb4.mono H3.out.2.size)
      clear hb4 H3
      go_wp2_with fail
      refine (rtag_any K Mac.textS _ (by omega) (by decide)).mono ?_
      rintro e w5 ⟨rfl, hb5⟩
      rw [HT.out]
      go_wp2
      go_ret
      exact ⟨rfl, H4.out.trans (hb5.mono H4.out.size)⟩
end Go.Proofs.YtcfjlnceofdcdaaDoor
