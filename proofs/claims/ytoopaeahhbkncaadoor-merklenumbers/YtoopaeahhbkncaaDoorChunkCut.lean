/- Contracts: a byte's number, and how many bytes the first chunk has: the program's and the document's. -/
import Derived.Test.YtoopaeahhbkncaaDoorRows
import Derived.Test.YtoopaeahhbkncaaDoorChunkMath
import Derived.WalkKit
import Derived.WalkSpells
import Derived.WalkLawsBesides
import Derived.Deep.QuietTactic
import Derived.Deep.RegionWith
import Derived.BigQuiet
namespace Go.Chunk
open Go.RowKit
/-- A fact that is no rule. -/
theorem hide {p : Prop} (h : p) : Hid p := h
theorem byte_u64 (c : UInt8) : IntKind.u64.wrap ((c.toNat : Nat) : Int) = ((c.toNat : Nat) : Int) := by
  rw [IntKind.wrap_u64]; have := c.toNat_lt; omega
/-- The bits 32 to 38 of a number are nought. -/
theorem ending_bits (h : Int) (h0 : 0 ≤ h ∧ h < 18446744073709551616) : (bits .and .u64 h 545460846592 == 0) = decide (h / 4294967296 % 128 = 0) := by
  obtain ⟨n, rfl⟩ := Int.eq_ofNat_of_zero_le h0.1
  have hn : n < 2 ^ 64 := by omega
  have e1 : bits .and .u64 (n : Int) 545460846592 = ((n &&& 545460846592 : Nat) : Int) := by
    have h1 : (BitVec.ofInt 64 (n : Int)).toNat = n := by rw [BitVec.ofInt_natCast, BitVec.toNat_ofNat]; exact Nat.mod_eq_of_lt hn
    have h2 : (BitVec.ofInt 64 (545460846592 : Int)).toNat = 545460846592 := by decide
    show IntKind.u64.wrap ((BitVec.ofInt 64 (n : Int) &&& BitVec.ofInt 64 545460846592).toNat : Int) = _
    rw [BitVec.toNat_and, h1, h2, IntKind.wrap_u64]
    have : n &&& 545460846592 ≤ n := Nat.and_le_left
    omega
  have e2 : n &&& 545460846592 = n / 4294967296 % 128 * 4294967296 := by
    have a1 : (545460846592 : Nat) = (2 ^ 7 - 1) <<< 32 := by decide
    apply Nat.eq_of_testBit_eq
    intro i
    rw [Nat.testBit_and, a1, Nat.testBit_shiftLeft, Nat.testBit_two_pow_sub_one, show n / 4294967296 % 128 * 4294967296 = (n / 4294967296 % 2 ^ 7) <<< 32 by rw [Nat.shiftLeft_eq], Nat.testBit_shiftLeft, Nat.testBit_mod_two_pow, show n / 4294967296 = n >>> 32 by rw [Nat.shiftRight_eq_div_pow], Nat.testBit_shiftRight]
    by_cases h : 32 ≤ i
    · simp only [h, decide_true, Bool.true_and]
      rw [show 32 + (i - 32) = i by omega, Bool.and_comm]
    · simp [h]
  rw [e1, e2]
  by_cases h : n / 4294967296 % 128 = 0
  · rw [h]
    have : ((n : Int) / 4294967296 % 128 = 0) := by omega
    simp [this]
  · have : ¬ ((n : Int) / 4294967296 % 128 = 0) := by omega
    rw [decide_eq_false this]
    rw [beq_eq_false_iff_ne]
    omega
end Go.Chunk
namespace Go.Proofs.YtoopaeahhbkncaaDoor
open Go.RowKit Go.Chunk
theorem gear_any (c : UInt8) (w : World) :
    Calls Tryd.prog 89 #[.int .u8 c.toNat] w fun e w' => e = .returned (.int .u64 (gear c)) ∧ w' = w := by
  have hb := byte_u64 c
  have hc : ((c.toNat : Nat) : Int) < 256 := by have := c.toNat_lt; omega
  have HG : Hid (gear c = mixD (mixC (mixB (mixA ((c.toNat : Int) + 1))))) := hide rfl
  generalize gear c = g at *
  go_enter Tryd.func89, Tryd.ntmps89
  go_wp2
  go_ret
  rw [HG.out]
  exact ⟨rfl, rfl⟩
theorem rtimes_any (a b : Int) (w : World) (ha : 0 ≤ a ∧ a < 18446744073709551616) (hb : 0 ≤ b ∧ b < 18446744073709551616) :
    Calls Tryd.prog 90 #[.int .u64 a, .int .u64 b] w fun e w' => e = .returned (.int .u64 (IntKind.u64.wrap (a * b))) ∧ w' = w := by
  have H := hide (times_parts a b ha hb)
  clear ha hb
  go_enter Tryd.func90, Tryd.ntmps90
  go_wp2
  go_ret
  exact ⟨congrArg (fun x => Ending.returned (.int .u64 x)) H.out, rfl⟩
theorem tdiv_u64 (x k : Int) (h : 0 ≤ x ∧ x < 18446744073709551616) (hk : 1 ≤ k) : IntKind.u64.wrap (x.tdiv k) = x / k := by
  rw [Int.tdiv_eq_ediv_of_nonneg h.1, IntKind.wrap_u64]
  have h1 : 0 ≤ x / k := Int.ediv_nonneg h.1 (by omega)
  have h2 : x / k ≤ x := Int.ediv_le_self k h.1
  omega
theorem tdiv_wrap (y k : Int) (hk : 1 ≤ k) : IntKind.u64.wrap ((IntKind.u64.wrap y).tdiv k) = IntKind.u64.wrap y / k := tdiv_u64 _ k (wrap_lt y) hk
theorem rgear_any (c : UInt8) (w : World) :
    Calls Tryd.prog 91 #[.int .u8 c.toNat] w fun e w' => e = .returned (.int .u64 (gear c)) ∧ w' = w := by
  have hb := byte_u64 c
  have hc : ((c.toNat : Nat) : Int) < 256 := by have := c.toNat_lt; omega
  have HG : Hid (gear c = mixD (mixC (mixB (mixA ((c.toNat : Int) + 1))))) := hide rfl
  generalize gear c = g at *
  go_enter Tryd.func91, Tryd.ntmps91
  go_wp2_with (go_at_call 90; refine (rtimes_any _ _ _ (by first | exact xor_lt _ _ | (constructor <;> omega)) (by decide)).mono ?_; rintro e w' ⟨rfl, rfl⟩)
  go_ret
  rw [HG.out]
  refine ⟨?_, rfl⟩
  simp only [mixD, mixC, mixB, mixA, tdiv_wrap _ 1073741824 (by decide), tdiv_wrap _ 134217728 (by decide), tdiv_wrap _ 2147483648 (by decide)]
  rfl
theorem take_bytes (s : ByteArray) (k : Nat) (h : k < s.size) : s.data.toList.take (k + 1) = s.data.toList.take k ++ [s[k]] := Sha.take_snoc s k h
set_option maxRecDepth 10000 in
set_option maxHeartbeats 1000000 in
theorem cut_any (s : ByteArray) (w : World) (hs : s.size ≤ maxLen) :
    Calls Tryd.prog 66 #[.string s] w fun e w' => e = .returned (.int .i64 (cut s.data.toList)) ∧ w' = w := by
  unfold maxLen at hs
  have hl : s.data.toList.length = s.size := by simp
  have HL := hide hl
  clear hl
  by_cases hm : s.size ≤ 512
  · have hm' : ((s.size : Int) ≤ 512) := by omega
    go_enter Tryd.func66, Tryd.ntmps66
    go_wp2
    go_loop [4, 10] (fun vh vi => ∃ k : Nat, k ≤ s.size ∧ vi = .int .i64 k ∧ vh = .int .u64 (roll (s.data.toList.take k)) ∧ Hid (∀ n, 32 ≤ n → n ≤ k → stop s.data.toList n = false)) (fun _ vi => s.size - (intOf vi).toNat)
    case atStart => exact ⟨0, Nat.zero_le _, rfl, rfl, fun n h1 h2 => by omega⟩
    case round =>
      obtain ⟨k, hk, rfl, rfl, HN⟩ := hrel
      by_cases hlt : k < s.size
      · have hlt2 : (k : Int) < s.size := by omega
        have hks : k < s.size := by omega
        have HS := hide (take_bytes s k hks)
        have HH := hide (roll_snoc (s.data.toList.take k) s[k])
        have HB := hide (ending_bits (roll (s.data.toList.take (k + 1))) (roll_lt _))
        rw [HS.out, HH.out] at HB
        have HG : Hid (Calls Tryd.prog 89 #[.int .u8 s[k].toNat] w fun e w' => e = .returned (.int .u64 (gear s[k])) ∧ w' = w) := gear_any s[k] w
        have HX : Hid (roll (s.data.toList.take (k + 1)) = IntKind.u64.wrap (IntKind.u64.wrap (2 * roll (s.data.toList.take k)) + gear s[k])) := by show _ = _; rw [HS.out, HH.out]
        have HT : Hid (stop s.data.toList (k + 1) = decide (IntKind.u64.wrap (IntKind.u64.wrap (2 * roll (s.data.toList.take k)) + gear s[k]) / 4294967296 % 128 = 0)) := by show _ = _; unfold stop; rw [HX.out]
        clear HS HH
        generalize roll (s.data.toList.take k) = x at *
        generalize gear s[k] = g at *
        by_cases h32 : 32 ≤ k + 1
        · have h32' : ((k : Int) + 1 ≥ 32) := by omega
          cases hz : decide (IntKind.u64.wrap (IntKind.u64.wrap (2 * x) + g) / 4294967296 % 128 = 0) with
          | true =>
            rw [hz] at HB HT
            have hB := HB.out
            go_wp2_with (go_at_call 89; refine HG.out.mono ?_; rintro e w' ⟨rfl, hw⟩; subst hw)
            go_ret
            refine ⟨?_, rfl⟩
            have e : cut s.data.toList = k + 1 := cut_eq ⟨by rw [HL.out]; omega, by omega, fun n a b => HN.out n a (by omega), .inr (.inr ⟨h32, HT.out⟩)⟩
            rw [e]
            rfl
          | false =>
            rw [hz] at HB HT
            have hB := HB.out
            go_wp2_with (go_at_call 89; refine HG.out.mono ?_; rintro e w' ⟨rfl, hw⟩; subst hw)
            go_round
            case rel => exact ⟨k + 1, by omega, by go_num, by rw [HX.out], fun n a b => by
              by_cases hn : n = k + 1
              · rw [hn]; exact HT.out
              · exact HN.out n a (by omega)⟩
            case measure => simp [intOf]; omega
        · have h32' : ¬ ((k : Int) + 1 ≥ 32) := by omega
          go_wp2_with (go_at_call 89; refine HG.out.mono ?_; rintro e w' ⟨rfl, hw⟩; subst hw)
          go_round
          case rel => exact ⟨k + 1, by omega, by go_num, by rw [HX.out], fun n a b => absurd a (by omega)⟩
          case measure => simp [intOf]; omega
      · have hke : k = s.size := by omega
        have hlt2 : ¬ ((k : Int) < s.size) := by omega
        go_wp2
        go_ret
        refine ⟨?_, rfl⟩
        have e : cut s.data.toList = k := cut_eq ⟨by rw [HL.out]; omega, by omega, fun n a b => HN.out n a (by omega), by rw [HL.out]; omega⟩
        rw [e, hke]
        first | rfl | (rw [hM]; rfl)
  · have hm' : ((512 : Int) < s.size) := by omega
    obtain ⟨M, HM⟩ : ∃ M : Nat, Hid (M = 512) := ⟨512, hide rfl⟩
    have hM : (M : Int) = 512 := by have := HM.out; omega
    have hM2 : M < s.size := by omega
    go_enter Tryd.func66, Tryd.ntmps66
    go_wp2
    go_loop [4, 10] (fun vh vi => ∃ k : Nat, k ≤ M ∧ vi = .int .i64 k ∧ vh = .int .u64 (roll (s.data.toList.take k)) ∧ Hid (∀ n, 32 ≤ n → n ≤ k → stop s.data.toList n = false)) (fun _ vi => s.size - (intOf vi).toNat)
    case atStart => exact ⟨0, Nat.zero_le _, rfl, rfl, fun n h1 h2 => by omega⟩
    case round =>
      obtain ⟨k, hk, rfl, rfl, HN⟩ := hrel
      by_cases hlt : k < M
      · have hlt2 : (k : Int) < 512 := by omega
        have hks : k < s.size := by omega
        have HS := hide (take_bytes s k hks)
        have HH := hide (roll_snoc (s.data.toList.take k) s[k])
        have HB := hide (ending_bits (roll (s.data.toList.take (k + 1))) (roll_lt _))
        rw [HS.out, HH.out] at HB
        have HG : Hid (Calls Tryd.prog 89 #[.int .u8 s[k].toNat] w fun e w' => e = .returned (.int .u64 (gear s[k])) ∧ w' = w) := gear_any s[k] w
        have HX : Hid (roll (s.data.toList.take (k + 1)) = IntKind.u64.wrap (IntKind.u64.wrap (2 * roll (s.data.toList.take k)) + gear s[k])) := by show _ = _; rw [HS.out, HH.out]
        have HT : Hid (stop s.data.toList (k + 1) = decide (IntKind.u64.wrap (IntKind.u64.wrap (2 * roll (s.data.toList.take k)) + gear s[k]) / 4294967296 % 128 = 0)) := by show _ = _; unfold stop; rw [HX.out]
        clear HS HH
        generalize roll (s.data.toList.take k) = x at *
        generalize gear s[k] = g at *
        by_cases h32 : 32 ≤ k + 1
        · have h32' : ((k : Int) + 1 ≥ 32) := by omega
          cases hz : decide (IntKind.u64.wrap (IntKind.u64.wrap (2 * x) + g) / 4294967296 % 128 = 0) with
          | true =>
            rw [hz] at HB HT
            have hB := HB.out
            go_wp2_with (go_at_call 89; refine HG.out.mono ?_; rintro e w' ⟨rfl, hw⟩; subst hw)
            go_ret
            refine ⟨?_, rfl⟩
            have e : cut s.data.toList = k + 1 := cut_eq ⟨by rw [HL.out]; omega, by omega, fun n a b => HN.out n a (by omega), .inr (.inr ⟨h32, HT.out⟩)⟩
            rw [e]
            rfl
          | false =>
            rw [hz] at HB HT
            have hB := HB.out
            go_wp2_with (go_at_call 89; refine HG.out.mono ?_; rintro e w' ⟨rfl, hw⟩; subst hw)
            go_round
            case rel => exact ⟨k + 1, by omega, by go_num, by rw [HX.out], fun n a b => by
              by_cases hn : n = k + 1
              · rw [hn]; exact HT.out
              · exact HN.out n a (by omega)⟩
            case measure => simp [intOf]; omega
        · have h32' : ¬ ((k : Int) + 1 ≥ 32) := by omega
          go_wp2_with (go_at_call 89; refine HG.out.mono ?_; rintro e w' ⟨rfl, hw⟩; subst hw)
          go_round
          case rel => exact ⟨k + 1, by omega, by go_num, by rw [HX.out], fun n a b => absurd a (by omega)⟩
          case measure => simp [intOf]; omega
      · have hke : k = M := by omega
        have hlt2 : ¬ ((k : Int) < 512) := by omega
        go_wp2
        go_ret
        refine ⟨?_, rfl⟩
        have e : cut s.data.toList = k := cut_eq ⟨by rw [HL.out]; omega, by omega, fun n a b => HN.out n a (by omega), by rw [HL.out]; omega⟩
        rw [e, hke]
        first | rfl | (rw [hM]; rfl)
set_option maxRecDepth 10000 in
set_option maxHeartbeats 2000000 in
theorem rcut_any (s : ByteArray) (w : World) (hs : s.size ≤ maxLen) :
    Calls Tryd.prog 69 #[.string s] w fun e w' => e = .returned (.int .i64 (cut s.data.toList)) ∧ w' = w := by
  unfold maxLen at hs
  have hl : s.data.toList.length = s.size := by simp
  have HL := hide hl
  clear hl
  by_cases h32 : s.size ≤ 32
  · have e := cut_short s.data.toList (by rw [HL.out]; exact h32)
    rw [e, HL.out]
    have h32' : (s.size : Int) ≤ 32 := by omega
    clear e
    go_enter Tryd.func69, Tryd.ntmps69
    go_wp2
    go_ret
    exact ⟨rfl, rfl⟩
  · have h32' : ¬ ((s.size : Int) ≤ 32) := by omega
    go_enter Tryd.func69, Tryd.ntmps69
    go_wp2
    go_loop [3] (fun vn => ∃ n : Nat, 32 ≤ n ∧ n ≤ s.size ∧ (n : Int) ≤ 512 ∧ vn = .int .i64 n ∧ Hid (∀ j, 32 ≤ j → j < n → stop s.data.toList j = false)) (fun vn => s.size - (intOf vn).toNat)
    case atStart => exact ⟨32, Nat.le_refl _, by omega, by omega, rfl, fun j a b => by omega⟩
    case round =>
      obtain ⟨n, hn32, hns, hn512, rfl, HN⟩ := hrel
      have hn32' : (32 : Int) ≤ n := by omega
      by_cases hlt : n < s.size
      · have hlt' : (n : Int) < s.size := by omega
        by_cases hlt5 : (n : Int) < 512
        · go_wp2
          go_loop [4, 5, 6] (fun vh vt vi => ∃ m j : Nat, m + j = n ∧ m ≤ 64 ∧ vh = .int .u64 (acc s.data.toList n m) ∧ vt = .int .u64 (wt m) ∧ vi = .int .i64 ((j : Int) - 1)) (fun _ _ vi => (intOf vi + 1).toNat)
          case atStart => exact ⟨0, n, by omega, by omega, rfl, rfl, rfl⟩
          case round =>
            obtain ⟨m, j, hmj, hm64, rfl, rfl, rfl⟩ := hrel
            by_cases hgo : 0 < j ∧ m < 64
            · obtain ⟨i, rfl⟩ : ∃ i, j = i + 1 := ⟨j - 1, by omega⟩
              have hi : i < s.size := by omega
              have e1 : ((i + 1 : Nat) : Int) - 1 = (i : Int) := by omega
              rw [e1]
              have hd : (n : Int) - 1 - i < 64 := by omega
              have HA : Hid (acc s.data.toList n (m + 1) = IntKind.u64.wrap (acc s.data.toList n m + IntKind.u64.wrap (gear s[i] * wt m))) := by
                show _ = _
                have e : s.data.toList.getD (n - 1 - m) 0 = s[i] := by
                  rw [show n - 1 - m = i by omega, List.getD_eq_getElem?_getD, List.getElem?_eq_getElem (by rw [HL.out]; exact hi)]
                  rfl
                rw [← e]; rfl
              have HW : Hid (wt (m + 1) = IntKind.u64.wrap (wt m + wt m)) := hide rfl
              have HG : Hid (Calls Tryd.prog 91 #[.int .u8 s[i].toNat] w fun e w' => e = .returned (.int .u64 (gear s[i])) ∧ w' = w) := rgear_any s[i] w
              have HT : Hid (Calls Tryd.prog 90 #[.int .u64 (gear s[i]), .int .u64 (wt m)] w fun e w' => e = .returned (.int .u64 (IntKind.u64.wrap (gear s[i] * wt m))) ∧ w' = w) := rtimes_any _ _ w (gear_lt _) (wt_lt _)
              clear hgo
              generalize gear s[i] = g at *
              generalize acc s.data.toList n m = x at *
              generalize wt m = t at *
              go_wp2_with (first
                | (go_at_call 91; refine HG.out.mono ?_; rintro e w' ⟨rfl, hw⟩; subst hw)
                | (go_at_call 90; refine HT.out.mono ?_; rintro e w' ⟨rfl, hw⟩; subst hw))
              go_round
              case rel => exact ⟨m + 1, i, by omega, by omega, by rw [HA.out], by rw [HW.out], by go_num⟩
              case measure => simp [intOf]
            · have HR := hide (acc_all s.data.toList n m (by rw [HL.out]; exact hns) (by omega))
              have HB := hide (roll_lt (s.data.toList.take n))
              have HT : Hid (stop s.data.toList n = decide (acc s.data.toList n m / 4294967296 % 128 = 0)) := by show _ = _; unfold stop; rw [HR.out]
              have HD : Hid (IntKind.u64.wrap ((acc s.data.toList n m).tdiv 4294967296) = acc s.data.toList n m / 4294967296) := tdiv_u64 _ _ (by rw [HR.out]; exact HB.out) (by decide)
              have HM : Hid ((acc s.data.toList n m / 4294967296).tmod 128 = acc s.data.toList n m / 4294967296 % 128) := Int.tmod_eq_emod_of_nonneg (Int.ediv_nonneg (by rw [HR.out]; exact HB.out.1) (by decide))
              have hgo' : ¬ ((j : Int) - 1 ≥ 0) ∨ ((j : Int) - 1 ≥ 0 ∧ ¬ ((n : Int) - 1 - ((j : Int) - 1) < 64)) := by omega
              generalize acc s.data.toList n m = x at *
              have hD := HD.out
              have hM := HM.out
              clear hgo
              cases hz : decide (x / 4294967296 % 128 = 0) with
              | true =>
                have hz' : x / 4294967296 % 128 = 0 := by simpa using hz
                rw [hz] at HT
                have HE : Hid (cut s.data.toList = n) := cut_eq ⟨by rw [HL.out]; exact hns, by omega, HN.out, .inr (.inr ⟨hn32, HT.out⟩)⟩
                rcases hgo' with h1 | ⟨h1, h2⟩
                all_goals
                  go_wp2
                  go_ret
                  rw [HE.out]
                  exact ⟨rfl, rfl⟩
              | false =>
                have hz' : ¬ (x / 4294967296 % 128 = 0) := by simpa using hz
                rw [hz] at HT
                rcases hgo' with h1 | ⟨h1, h2⟩
                all_goals
                  go_wp2
                  go_round
                  case rel => exact ⟨n + 1, by omega, by omega, by omega, by go_num, fun q a b => by
                    by_cases hq : q = n
                    · rw [hq]; exact HT.out
                    · exact HN.out q a (by omega)⟩
                  case measure => simp [intOf]; omega
        · have hn : (n : Int) = 512 := by omega
          have h5 : ¬ ((s.size : Int) < 512) := by omega
          go_wp2
          go_ret
          refine ⟨?_, rfl⟩
          have e : cut s.data.toList = n := cut_eq ⟨by rw [HL.out]; exact hns, by omega, HN.out, .inr (.inl (by omega))⟩
          rw [e, hn]
          rfl
      · have hn : n = s.size := by omega
        have hlt' : ¬ ((n : Int) < s.size) := by omega
        have e : cut s.data.toList = s.size := cut_eq ⟨by rw [HL.out]; exact Nat.le_refl _, by omega, fun q a b => HN.out q a (by omega), by rw [HL.out]; exact .inl rfl⟩
        have HE := hide e
        clear e
        have h5 : (s.size : Int) ≤ 512 := by omega
        by_cases h6 : (s.size : Int) < 512
        · go_wp2
          go_ret
          rw [HE.out]
          exact ⟨rfl, rfl⟩
        · have h7 : (s.size : Int) = 512 := by omega
          go_wp2
          go_ret
          rw [HE.out, h7]
          exact ⟨rfl, rfl⟩
end Go.Proofs.YtoopaeahhbkncaaDoor
