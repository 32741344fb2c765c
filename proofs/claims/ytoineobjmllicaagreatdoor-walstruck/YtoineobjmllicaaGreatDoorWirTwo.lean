/- Several texts in one: WireRefDigits, WireCount8, WireFnv, WireFrames. -/
import Derived.Test.YtoineobjmllicaaGreatDoorNumberOne
import Derived.Test.YtoineobjmllicaaGreatDoorRows
import Derived.Test.YtoineobjmllicaaGreatDoorWirOne
/- Contracts of a digit's letter and a number's digits, as the document has them. -/
namespace Go.Proofs.YtoineobjmllicaaGreatDoor
open Go.RowKit Go.Wire
set_option maxHeartbeats 400000 in
theorem rdigit_any (d : Nat) (w : World) (hd : d < 16) :
    Calls Tryz.prog 78 #[.int .u64 d] w fun e w' => e = .returned (.string ⟨#[hexd d]⟩) ∧ Below w.heap.size w w' := by
  by_cases h : d < 10
  · have hu : Value.int .u8 (48 + (d : Int)) = Sha.byteV (hexd d) := by
      have hc : hexd d = UInt8.ofNat (48 + d) := by unfold hexd; rw [if_pos h]
      have : (UInt8.ofNat (48 + d)).toNat = 48 + d := by simp; omega
      unfold Sha.byteV; rw [hc, this]; go_num
    have HU : Hid (Value.int .u8 (48 + (d : Int)) = Sha.byteV (hexd d)) := hu
    clear hu
    generalize hexd d = c at HU
    go_enter Tryz.func78, Tryz.ntmps78
    go_wp2_with (refine ByteRow.to_string _ rfl 100 9 5 _ rfl [c] rfl (ByteRow.Has.one (Nat.le_refl _) _ _ HU.out 5) (by simp) underB under5 under9 ?_)
    go_ret
    exact ⟨rfl, (Below.refl _ _).alloc (Nat.le_refl _) _⟩
  · have hu : Value.int .u8 (87 + (d : Int)) = Sha.byteV (hexd d) := by
      have hc : hexd d = UInt8.ofNat (87 + d) := by unfold hexd; rw [if_neg h]
      have : (UInt8.ofNat (87 + d)).toNat = 87 + d := by simp; omega
      unfold Sha.byteV; rw [hc, this]; go_num
    have HU : Hid (Value.int .u8 (87 + (d : Int)) = Sha.byteV (hexd d)) := hu
    clear hu
    generalize hexd d = c at HU
    go_enter Tryz.func78, Tryz.ntmps78
    go_wp2_with (refine ByteRow.to_string _ rfl 100 9 5 _ rfl [c] rfl (ByteRow.Has.one (Nat.le_refl _) _ _ HU.out 5) (by simp) underB under5 under9 ?_)
    go_ret
    exact ⟨rfl, (Below.refl _ _).alloc (Nat.le_refl _) _⟩
theorem size_one (c : UInt8) (t : ByteArray) : ((⟨#[c]⟩ : ByteArray) ++ t).size = t.size + 1 := by
  rw [ByteArray.size_append, Nat.add_comm]; rfl
theorem num_rround {m n j N : Nat} {t : ByteArray} (hj : j < m) (hp : num (m - j) N ++ t.data.toList = num m n) : num (m - (j + 1)) (N / 16) ++ ((⟨#[hexd (N % 16)]⟩ : ByteArray) ++ t).data.toList = num m n := by
  obtain ⟨i, hi⟩ : ∃ i, m - j = i + 1 := ⟨m - j - 1, by omega⟩
  rw [← hp, hi, show m - (j + 1) = i by omega, num, List.append_assoc]
  simp
set_option maxHeartbeats 1000000 in
theorem rnum_any (n b : Nat) (w : World) (hn : n < 18446744073709551616) (hb : b ≤ 1000) :
    Calls Tryz.prog 45 #[.int .u64 n, .int .i64 b] w fun e w' => e = .returned (.string (numB (2 * min b 8) n)) ∧ Below w.heap.size w w' := by
  by_cases h8 : 8 < b
  · rw [show min b 8 = 8 by omega]
    have hb8 : (8 : Int) < b := by omega
    clear h8
    go_enter Tryz.func45, Tryz.ntmps45
    go_wp2_with fail
    go_loopw [0, 5, 7] (fun nv sv iv wr => ∃ (j N : Nat) (t : ByteArray), j ≤ 16 ∧ N < 18446744073709551616 ∧ iv = .int .i64 j ∧ nv = .int .u64 N ∧ sv = .string t ∧ t.size = j ∧ Hid (num (16 - j) N ++ t.data.toList = num 16 n) ∧ Hid (Below w.heap.size w wr)) (fun _ _ i _ => 16 - (intOf i).toNat)
    case atStart => exact ⟨0, n, ⟨#[]⟩, Nat.zero_le _, hn, rfl, rfl, rfl, rfl, (by simp : num 16 n ++ [] = num 16 n), Below.refl _ _⟩
    case round =>
      obtain ⟨j, N, t, hj, hN, rfl, rfl, rfl, ht, hp, HB⟩ := hrel
      by_cases hlt : j < 16
      · have hd : N % 16 < 16 := Nat.mod_lt _ (by decide)
        go_wp2_with (go_at_call 78; refine (rdigit_any (N % 16) _ hd).mono ?_; rintro e w1 ⟨rfl, k1⟩)
        go_roundw
        case rel => exact ⟨j + 1, N / 16, _, by omega, by omega, by go_num, by go_num, rfl, by rw [size_one, ht], num_rround hlt hp.out, HB.out.trans (Below.mono (by assumption) HB.out.size)⟩
        case measure => simp [intOf]; omega
      · have hj0 : j = 16 := by omega
        subst hj0
        have hl : t = numB 16 n := by
          have := hp.out
          rw [Nat.sub_self] at this
          exact ByteArray.ext (Array.toList_inj.1 (this.trans (numB_list 16 n).symm))
        go_wp2_with fail
        go_ret
        rw [← hl]
        exact ⟨rfl, HB.out⟩
  · rw [show min b 8 = b by omega]
    have hb8 : (b : Int) ≤ 8 := by omega
    go_enter Tryz.func45, Tryz.ntmps45
    go_wp2_with fail
    go_loopw [0, 5, 7] (fun nv sv iv wr => ∃ (j N : Nat) (t : ByteArray), j ≤ 2 * b ∧ N < 18446744073709551616 ∧ iv = .int .i64 j ∧ nv = .int .u64 N ∧ sv = .string t ∧ t.size = j ∧ Hid (num (2 * b - j) N ++ t.data.toList = num (2 * b) n) ∧ Hid (Below w.heap.size w wr)) (fun _ _ i _ => 2 * b - (intOf i).toNat)
    case atStart => exact ⟨0, n, ⟨#[]⟩, Nat.zero_le _, hn, rfl, rfl, rfl, rfl, (by simp : num (2 * b) n ++ [] = num (2 * b) n), Below.refl _ _⟩
    case round =>
      obtain ⟨j, N, t, hj, hN, rfl, rfl, rfl, ht, hp, HB⟩ := hrel
      by_cases hlt : j < 2 * b
      · have hd : N % 16 < 16 := Nat.mod_lt _ (by decide)
        go_wp2_with (go_at_call 78; refine (rdigit_any (N % 16) _ hd).mono ?_; rintro e w1 ⟨rfl, k1⟩)
        go_roundw
        case rel => exact ⟨j + 1, N / 16, _, by omega, by omega, by go_num, by go_num, rfl, by rw [size_one, ht], num_rround hlt hp.out, HB.out.trans (Below.mono (by assumption) HB.out.size)⟩
        case measure => simp [intOf]; omega
      · have hj0 : j = 2 * b := by omega
        subst hj0
        have hl : t = numB (2 * b) n := by
          have := hp.out
          rw [Nat.sub_self] at this
          exact ByteArray.ext (Array.toList_inj.1 (this.trans (numB_list (2 * b) n).symm))
        go_wp2_with fail
        go_ret
        rw [← hl]
        exact ⟨rfl, HB.out⟩
end Go.Proofs.YtoineobjmllicaaGreatDoor
/- The contract of a text's count. -/
namespace Go.Proofs.YtoineobjmllicaaGreatDoor
open Go.RowKit Go.Wire
set_option maxHeartbeats 400000 in
theorem count8_any (s : ByteArray) (w : World) (hs : s.size ≤ maxLen) :
    Calls Tryz.prog 71 #[.string s] w fun e w' => e = .returned (.string (numB 8 s.size)) ∧ Below w.heap.size w w' := by
  unfold maxLen at hs
  have HN : Hid (∀ w : World, Calls Tryz.prog 72 #[.int .u64 s.size, .int .i64 4] w fun e w' => e = .returned (.string (numB 8 s.size)) ∧ Below w.heap.size w w') := fun w => number_mid s.size 4 w (by omega) (by decide)
  generalize numB 8 s.size = t at HN
  go_enter Tryz.func71, Tryz.ntmps71
  go_wp2_with (go_at_call 72; refine (HN.out _).mono ?_; rintro e w1 ⟨rfl, k1⟩)
  go_ret
  exact ⟨rfl, by assumption⟩
end Go.Proofs.YtoineobjmllicaaGreatDoor
/- Contracts of the check of bytes, and of the value of a letter. -/
namespace Go.Wire
theorem fnv_u32 (s : ByteArray) (k : Nat) (h : k < s.size) : bits .xor .u32 (fnv (s.data.toList.take k) : Int) ((s[k].toNat : Nat) : Int) * 16777619 % 4294967296 = (fnv (s.data.toList.take (k + 1)) : Int) := by
  rw [take_snoc s k h, fnv_snoc, xor_u32 _ _ (fnv_lt _), step]
  simp
theorem fnv_u64 (s : ByteArray) (k : Nat) (h : k < s.size) : bits .xor .u64 (fnv (s.data.toList.take k) : Int) ((s[k].toNat : Nat) : Int) * 16777619 % 18446744073709551616 % 4294967296 = (fnv (s.data.toList.take (k + 1)) : Int) := by
  rw [take_snoc s k h, fnv_snoc, xor_u64 _ _ (fnv_lt _), step]
  have := xor_lt _ s[k] (fnv_lt (s.data.toList.take k))
  generalize fnv (s.data.toList.take k) ^^^ s[k].toNat = x at this
  omega
theorem byte_mod (c : UInt8) (m : Int) (h : 256 ≤ m) : ((c.toNat : Nat) : Int) % m = ((c.toNat : Nat) : Int) :=
  Int.emod_eq_of_lt (by omega) (by have := c.toNat_lt; omega)
end Go.Wire
namespace Go.Proofs.YtoineobjmllicaaGreatDoor
open Go.RowKit Go.Wire
set_option maxHeartbeats 400000 in
theorem fnv_any (s : ByteArray) (w : World) (hs : s.size ≤ maxLen) :
    Calls Tryz.prog 73 #[.string s] w fun e w' => e = .returned (.int .u32 (fnv s.data.toList)) ∧ w' = w := by
  unfold maxLen at hs
  go_enter Tryz.func73, Tryz.ntmps73
  go_wp2
  go_loop [3, 7] (fun n i => ∃ k : Nat, k ≤ s.size ∧ i = .int .i64 k ∧ n = .int .u32 (fnv (s.data.toList.take k))) (fun _ i => s.size - (intOf i).toNat)
  case atStart => exact ⟨0, Nat.zero_le _, rfl, rfl⟩
  case round =>
    obtain ⟨k, hk, rfl, rfl⟩ := hrel
    by_cases hlt : k < s.size
    · have hf := fnv_u32 s k hlt
      have hf' : Hid (bits .xor .u32 (fnv (s.data.toList.take k) : Int) ((s[k].toNat : Nat) : Int) * 16777619 % 4294967296 = (fnv (s.data.toList.take (k + 1)) : Int)) := hf
      clear hf
      generalize fnv (s.data.toList.take k) = x at hf'
      go_wp2
      go_round
      case rel => exact ⟨k + 1, by omega, by go_num, by rw [byte_mod s[k] 4294967296 (by decide), hf'.out]⟩
      case measure => simp [intOf]; omega
    · go_wp2
      go_ret
      have e := take_all s k hlt
      generalize s.data.toList.take k = l at e
      subst e
      exact ⟨rfl, rfl⟩
set_option maxHeartbeats 400000 in
theorem rfnv_any (s : ByteArray) (w : World) (hs : s.size ≤ maxLen) :
    Calls Tryz.prog 46 #[.string s] w fun e w' => e = .returned (.int .u32 (fnv s.data.toList)) ∧ w' = w := by
  unfold maxLen at hs
  go_enter Tryz.func46, Tryz.ntmps46
  go_wp2
  go_loop [3, 4] (fun n i => ∃ k : Nat, k ≤ s.size ∧ i = .int .i64 k ∧ n = .int .u64 (fnv (s.data.toList.take k))) (fun _ i => s.size - (intOf i).toNat)
  case atStart => exact ⟨0, Nat.zero_le _, rfl, rfl⟩
  case round =>
    obtain ⟨k, hk, rfl, rfl⟩ := hrel
    by_cases hlt : k < s.size
    · have hf := fnv_u64 s k hlt
      have hf' : Hid (bits .xor .u64 (fnv (s.data.toList.take k) : Int) ((s[k].toNat : Nat) : Int) * 16777619 % 18446744073709551616 % 4294967296 = (fnv (s.data.toList.take (k + 1)) : Int)) := hf
      clear hf
      generalize fnv (s.data.toList.take k) = x at hf'
      go_wp2
      go_round
      case rel => exact ⟨k + 1, by omega, by go_num, by rw [wrap_u64, wrap_u64, byte_mod s[k] _ (by decide), Int.tmod_eq_emod_of_nonneg (Int.emod_nonneg _ (by decide)), hf'.out]⟩
      case measure => simp [intOf]; omega
    · have hl := fnv_lt s.data.toList
      rw [take_all s k hlt]
      generalize hx : fnv s.data.toList = x at hl
      have HX : Hid (fnv s.data.toList = x) := hx
      clear hx
      go_wp2
      go_ret
      rw [HX.out]
      exact ⟨rfl, rfl⟩
set_option maxHeartbeats 400000 in
theorem rvalue_some (c : UInt8) (d : Nat) (w : World) (h : dig c = some d) :
    Calls Tryz.prog 84 #[.int .u8 c.toNat] w fun e w' => e = .returned (.int .u64 d) ∧ w' = w := by
  have hc := c.toNat_lt
  unfold dig at h
  generalize c.toNat = x at h hc
  by_cases h1 : 48 ≤ x ∧ x ≤ 57
  · rw [if_pos h1] at h
    cases h
    obtain ⟨h1, h2⟩ := h1
    go_enter Tryz.func84, Tryz.ntmps84
    go_wp2
    go_ret
    refine ⟨?_, rfl⟩
    show Ending.returned (.int .u64 ((x : Int) - 48)) = _
    rw [show (x : Int) - 48 = ((x - 48 : Nat) : Int) by omega]
  · rw [if_neg h1] at h
    by_cases h2 : 97 ≤ x ∧ x ≤ 102
    · rw [if_pos h2] at h
      cases h
      obtain ⟨h2, h3⟩ := h2
      have h4 : ¬ x ≤ 57 := by omega
      clear h1
      go_enter Tryz.func84, Tryz.ntmps84
      go_wp2
      go_ret
      refine ⟨?_, rfl⟩
      show Ending.returned (.int .u64 ((x : Int) - 87)) = _
      rw [show (x : Int) - 87 = ((x - 87 : Nat) : Int) by omega]
    · rw [if_neg h2] at h
      cases h
set_option maxHeartbeats 400000 in
theorem rvalue_none (c : UInt8) (w : World) (h : dig c = none) :
    Calls Tryz.prog 84 #[.int .u8 c.toNat] w fun e w' => e = .returned (.int .u64 16) ∧ w' = w := by
  have hc := c.toNat_lt
  unfold dig at h
  generalize c.toNat = x at h hc
  by_cases h1 : 48 ≤ x ∧ x ≤ 57
  · rw [if_pos h1] at h; cases h
  · rw [if_neg h1] at h
    by_cases h2 : 97 ≤ x ∧ x ≤ 102
    · rw [if_pos h2] at h; cases h
    · clear h
      by_cases h3 : x < 48
      · have h4 : x < 97 := by omega
        clear h1 h2
        go_enter Tryz.func84, Tryz.ntmps84
        go_wp2
        go_ret
        exact ⟨rfl, rfl⟩
      · have h4 : 57 < x := by omega
        clear h1
        by_cases h5 : x < 97
        · clear h2
          go_enter Tryz.func84, Tryz.ntmps84
          go_wp2
          go_ret
          exact ⟨rfl, rfl⟩
        · have h6 : 102 < x := by omega
          clear h2
          go_enter Tryz.func84, Tryz.ntmps84
          go_wp2
          go_ret
          exact ⟨rfl, rfl⟩
end Go.Proofs.YtoineobjmllicaaGreatDoor
/- Contracts of texts and frames: the program's and the document's. -/
namespace Go.Wire
def textB (s : ByteArray) : ByteArray := numB 8 s.size ++ s
def frameB (s : ByteArray) : ByteArray := numB 8 s.size ++ numB 8 (fnv (textB s).data.toList) ++ s
theorem textB_size (s : ByteArray) : (textB s).size = s.size + 8 := by
  rw [textB, ByteArray.size_append, numB_size]; omega
theorem frameB_size (s : ByteArray) : (frameB s).size = s.size + 16 := by
  rw [frameB, ByteArray.size_append, ByteArray.size_append, numB_size, numB_size]; omega
end Go.Wire
namespace Go.Proofs.YtoineobjmllicaaGreatDoor
open Go.RowKit Go.Wire
set_option maxHeartbeats 400000 in
theorem rtextB_any (s : ByteArray) (w : World) (hs : s.size ≤ 1000000) :
    Calls Tryz.prog 47 #[.string s] w fun e w' => e = .returned (.string (textB s)) ∧ Below w.heap.size w w' := by
  have HN : Hid (∀ w : World, Calls Tryz.prog 45 #[.int .u64 s.size, .int .i64 4] w fun e w' => e = .returned (.string (numB 8 s.size)) ∧ Below w.heap.size w w') := fun w => rnum_any s.size 4 w (by omega) (by decide)
  have hz := numB_size 8 s.size
  unfold textB
  generalize numB 8 s.size = t at HN hz
  go_enter Tryz.func47, Tryz.ntmps47
  go_wp2_with (go_at_call 45; refine (HN.out _).mono ?_; rintro e w1 ⟨rfl, k1⟩)
  go_ret
  exact ⟨rfl, by assumption⟩
set_option maxHeartbeats 400000 in
theorem frame_any (s : ByteArray) (w : World) (hs : s.size ≤ 1000000) :
    Calls Tryz.prog 41 #[.string s] w fun e w' => e = .returned (.string (frameB s)) ∧ Below w.heap.size w w' := by
  have H1 : Hid (∀ w : World, Calls Tryz.prog 71 #[.string s] w fun e w' => e = .returned (.string (numB 8 s.size)) ∧ Below w.heap.size w w') := fun w => count8_any s w (by unfold maxLen; omega)
  have hts := textB_size s
  have H2 : Hid (∀ w : World, Calls Tryz.prog 73 #[.string (textB s)] w fun e w' => e = .returned (.int .u32 (fnv (textB s).data.toList)) ∧ w' = w) := fun w => fnv_any (textB s) w (by unfold maxLen; omega)
  have hlt := fnv_lt (textB s).data.toList
  unfold frameB
  unfold textB at H2 hlt ⊢
  clear hts
  have hz := numB_size 8 s.size
  generalize numB 8 s.size = t at H1 H2 hz hlt
  generalize fnv (t ++ s).data.toList = x at H2 hlt
  have H3 : Hid (∀ w : World, Calls Tryz.prog 72 #[.int .u64 x, .int .i64 4] w fun e w' => e = .returned (.string (numB 8 x)) ∧ Below w.heap.size w w') := fun w => number_mid x 4 w (by omega) (by decide)
  have hz2 := numB_size 8 x
  generalize numB 8 x = u at H3 hz2
  go_enter Tryz.func41, Tryz.ntmps41
  go_wp2_with (first
    | (go_at_call 71; refine (H1.out _).mono ?_; rintro e w1 ⟨rfl, k1⟩)
    | (go_at_call 73; refine (H2.out _).mono ?_; rintro e w' ⟨rfl, rfl⟩)
    | (go_at_call 72; refine (H3.out _).mono ?_; rintro e w3 ⟨rfl, k3⟩))
  go_ret
  exact ⟨rfl, Below.trans (by assumption) (Below.mono (by assumption) (Below.size (by assumption)))⟩
set_option maxHeartbeats 400000 in
theorem rframe_any (s : ByteArray) (w : World) (hs : s.size ≤ 1000000) :
    Calls Tryz.prog 14 #[.string s] w fun e w' => e = .returned (.string (frameB s)) ∧ Below w.heap.size w w' := by
  have H1 : Hid (∀ w : World, Calls Tryz.prog 45 #[.int .u64 s.size, .int .i64 4] w fun e w' => e = .returned (.string (numB 8 s.size)) ∧ Below w.heap.size w w') := fun w => rnum_any s.size 4 w (by omega) (by decide)
  have H4 : Hid (∀ w : World, Calls Tryz.prog 47 #[.string s] w fun e w' => e = .returned (.string (textB s)) ∧ Below w.heap.size w w') := fun w => rtextB_any s w hs
  have hts := textB_size s
  have H2 : Hid (∀ w : World, Calls Tryz.prog 46 #[.string (textB s)] w fun e w' => e = .returned (.int .u32 (fnv (textB s).data.toList)) ∧ w' = w) := fun w => rfnv_any (textB s) w (by unfold maxLen; omega)
  have hlt := fnv_lt (textB s).data.toList
  unfold frameB
  clear hts
  have hz := numB_size 8 s.size
  generalize hn : numB 8 s.size = t at H1 hz
  generalize fnv (textB s).data.toList = x at H2 hlt
  generalize textB s = y at H2 H4
  have H3 : Hid (∀ w : World, Calls Tryz.prog 45 #[.int .u64 x, .int .i64 4] w fun e w' => e = .returned (.string (numB 8 x)) ∧ Below w.heap.size w w') := fun w => rnum_any x 4 w (by omega) (by decide)
  have hz2 := numB_size 8 x
  generalize numB 8 x = u at H3 hz2
  clear hn
  go_enter Tryz.func14, Tryz.ntmps14
  go_wp2_with fail
  refine (H1.out _).mono ?_
  rintro e w1 ⟨rfl, k1⟩
  go_wp2_with (first
    | (go_at_call 47; refine (H4.out _).mono ?_; rintro e w2 ⟨rfl, k2⟩)
    | (go_at_call 46; refine (H2.out _).mono ?_; rintro e w' ⟨rfl, rfl⟩)
    | (go_at_call 45; refine (H3.out _).mono ?_; rintro e w3 ⟨rfl, k3⟩))
  go_ret
  exact ⟨rfl, (k1.trans (k2.mono k1.size)).trans (k3.mono (Nat.le_trans k1.size k2.size))⟩
end Go.Proofs.YtoineobjmllicaaGreatDoor
