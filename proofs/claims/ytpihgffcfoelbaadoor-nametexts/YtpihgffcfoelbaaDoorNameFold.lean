/- Contracts: a text with small letters, the program's and the document's. -/
import Derived.Test.YtpihgffcfoelbaaDoorNameRow
namespace Go.Names
theorem low_up {c : UInt8} (h1 : 65 ≤ c.toNat) (h2 : c.toNat ≤ 90) : (low c).toNat = c.toNat + 32 := by
  unfold low
  rw [if_pos ⟨h1, h2⟩, UInt8.toNat_add]
  show (c.toNat + 32) % 256 = _
  omega
theorem low_lo {c : UInt8} (h : c.toNat < 65) : low c = c := by unfold low; rw [if_neg (by omega)]
theorem low_hi {c : UInt8} (h : 90 < c.toNat) : low c = c := by unfold low; rw [if_neg (by omega)]
theorem up_to {l : Bs} {k : Nat} {c : UInt8} (h : l[k]? = some c) (f : UInt8 → UInt8) : (l.take (k + 1)).map f = (l.take k).map f ++ [f c] := by
  rw [List.take_add_one, h]
  simp
end Go.Names
namespace Go.Proofs.YtpihgffcfoelbaaDoor
open Go.RowKit Go.Shelf Go.Names
theorem nInfo5 : (Tryd.prog.info? 5).map (fun i => (i.zero, i.size, i.bytes)) = some (some (.int .u8 0), 1, 1) := by kernel_rfl
theorem nUnderB : Tryd.prog.underlying 40 = some (.slice 5) := by kernel_rfl
theorem nUnder5 : Tryd.prog.underlying 5 = some (.int .u8) := by kernel_rfl
theorem nUnder9 : Tryd.prog.underlying 9 = some .string := by kernel_rfl
set_option maxRecDepth 100000 in
set_option maxHeartbeats 1000000 in
theorem fold_any (s : ByteArray) (w : World) (hs : s.size ≤ 1000000) :
    Calls Tryd.prog 13 #[.string s] w fun e w' => e = .returned (.string ⟨(fold s.data.toList).toArray⟩) ∧ Below w.heap.size w w' := by
  go_enter Tryd.func13, Tryd.ntmps13
  go_wp2_with (refine ByteRow.of_string_at _ rfl 9 40 5 _ rfl s rfl nUnder9 nUnderB nUnder5 ?_)
  intro g cap w1 hh hb
  have HB := hide (And.intro hh hb)
  clear hh hb
  go_wp2
  go_loopw [10] (fun vi wr => ∃ k : Nat, k ≤ s.size ∧ vi = .int .i64 k ∧ Hid (ByteRow.Has w.heap.size wr (.slice (some ⟨g, 0, none⟩) s.size cap) (upTo low s.data.toList k) ∧ Below w.heap.size w wr)) (fun vi _ => s.size - (intOf vi).toNat)
  case atStart => exact ⟨0, Nat.zero_le _, rfl, by show _ ∧ _; rw [upTo_zero]; exact HB.out⟩
  case round =>
    clear HB
    obtain ⟨k, hk, rfl, HH⟩ := hrel
    by_cases hlt : k < s.size
    · have hlt' : (k : Int) < s.size := by omega
      have hget := hide (data_get s k hlt)
      generalize s[k] = c at hget
      obtain ⟨hcell, hfr, hbg⟩ := HH.out.1.cell (upTo_at low _ hget.out)
      by_cases h1 : c.toNat < 65
      · have h1' : ¬ (65 : Int) ≤ c.toNat := by omega
        go_wp2
        go_roundw
        case rel => exact ⟨k + 1, by omega, by go_num, by show _ ∧ _; rw [← upTo_same low _ hget.out (low_lo h1)]; exact HH.out⟩
        case measure => simp [intOf]; omega
      · have h1' : (65 : Int) ≤ c.toNat := by omega
        by_cases h2 : 90 < c.toNat
        · have h2' : ¬ (c.toNat : Int) ≤ 90 := by omega
          go_wp2
          go_roundw
          case rel => exact ⟨k + 1, by omega, by go_num, by show _ ∧ _; rw [← upTo_same low _ hget.out (low_hi h2)]; exact HH.out⟩
          case measure => simp [intOf]; omega
        · have h2' : (c.toNat : Int) ≤ 90 := by omega
          have hl := hide (low_up (c := c) (by omega) (by omega))
          go_wp2
          go_roundw
          case rel =>
            refine ⟨k + 1, by omega, by go_num, ?_⟩
            show _ ∧ _
            have e : (.int .u8 ((c.toNat : Int) - 65 + 97) : Value) = .int .u8 ((low c).toNat : Int) := by rw [hl.out]; congr 1; omega
            rw [e, ← upTo_succ low _ hget.out]
            exact ⟨HH.out.1.set (by rw [upTo_length]; simpa using hlt), HH.out.2.setCell hbg _⟩
          case measure => simp [intOf]; omega
    · have hks : k = s.size := by omega
      have hlt' : ¬ (k : Int) < s.size := by omega
      have HF : Hid (ByteRow.Has w.heap.size wr (.slice (some ⟨g, 0, none⟩) s.size cap) (fold s.data.toList) ∧ Below w.heap.size w wr) := by
        have := HH.out
        rw [upTo_all _ _ (by simp; omega)] at this
        exact this
      clear HH
      go_wp2_with (refine ByteRow.to_string_at _ rfl 40 9 5 _ rfl (fold s.data.toList) (by rw [fold_length]; simp) rfl HF.out.1 nUnderB nUnder5 nUnder9 ?_)
      go_ret
      exact ⟨rfl, HF.out.2⟩
set_option maxRecDepth 100000 in
set_option maxHeartbeats 1000000 in
theorem rfold_any (s : ByteArray) (w : World) (hs : s.size ≤ 1000000) :
    Calls Tryd.prog 14 #[.string s] w fun e w' => e = .returned (.string ⟨(fold s.data.toList).toArray⟩) ∧ Below w.heap.size w w' := by
  obtain ⟨i5, hi, hz0, hz1, hz2⟩ := info_parts nInfo5
  go_enter Tryd.func14, Tryd.ntmps14
  go_wp2
  go_loopw [3, 4] (fun vb vi wr => ∃ (k g c : Nat), k ≤ s.size ∧ vi = .int .i64 k ∧ vb = .slice (some ⟨g, 0, none⟩) k c ∧ Hid (ByteRow.Has w.heap.size wr (.slice (some ⟨g, 0, none⟩) k c) ((s.data.toList.take k).map low) ∧ Below w.heap.size w wr)) (fun _ vi _ => s.size - (intOf vi).toNat)
  case atStart => exact ⟨0, w.heap.size, 0, Nat.zero_le _, rfl, rfl, ByteRow.Has.of_own (World.ownsRow_made w #[] 0 (Nat.le_refl _) (Nat.zero_le _) rfl), (Below.refl _ w).alloc (Nat.le_refl _) _⟩
  case round =>
    obtain ⟨k, g, cp, hk, rfl, rfl, HH⟩ := hrel
    by_cases hlt : k < s.size
    · have hlt' : (k : Int) < s.size := by omega
      have hget := hide (data_get s k hlt)
      have hlen : ((s.data.toList.take k).map low).length = k := by rw [List.length_map, List.length_take]; simp; omega
      replace hlen := hide hlen
      have hnext := hide (up_to hget.out low)
      by_cases h1 : 65 ≤ s[k].toNat ∧ s[k].toNat ≤ 90
      · have h1' : (65 : Int) ≤ s[k].toNat := by omega
        have h2' : (s[k].toNat : Int) ≤ 90 := by omega
        have hl := hide (low_up (c := s[k]) h1.1 h1.2)
        clear h1
        go_wp2_with (at_builtin; refine ByteRow.append_one rfl _ _ 40 rfl 5 i5 nUnderB hi hz0 hz1 hz2 (low s[k]) rfl hlen.out HH.out rfl (by show _ = Value.int .u8 _; rw [hl.out]; rfl) (by omega) ?_
                     intro g' c' w1 HR
                     replace HR := hide HR
                     rw [← hnext.out] at HR)
        go_roundw
        case rel => exact ⟨k + 1, g', c', by omega, by go_num, rfl, HR.out⟩
        case measure => simp [intOf]; omega
      · have hlow : low s[k] = s[k] := by unfold low; rw [if_neg h1]
        replace hlow := hide hlow
        have h3 : (65 : Int) ≤ s[k].toNat → ¬ (s[k].toNat : Int) ≤ 90 := by omega
        by_cases h4 : (65 : Int) ≤ s[k].toNat
        · have h5 := h3 h4
          clear h3 h1
          go_wp2_with (at_builtin; refine ByteRow.append_one rfl _ _ 40 rfl 5 i5 nUnderB hi hz0 hz1 hz2 (low s[k]) rfl hlen.out HH.out rfl (by rw [hlow.out]; rfl) (by omega) ?_
                       intro g' c' w1 HR
                       replace HR := hide HR
                       rw [← hnext.out] at HR)
          go_roundw
          case rel => exact ⟨k + 1, g', c', by omega, by go_num, rfl, HR.out⟩
          case measure => simp [intOf]; omega
        · clear h3 h1
          go_wp2_with (at_builtin; refine ByteRow.append_one rfl _ _ 40 rfl 5 i5 nUnderB hi hz0 hz1 hz2 (low s[k]) rfl hlen.out HH.out rfl (by rw [hlow.out]; rfl) (by omega) ?_
                       intro g' c' w1 HR
                       replace HR := hide HR
                       rw [← hnext.out] at HR)
          go_roundw
          case rel => exact ⟨k + 1, g', c', by omega, by go_num, rfl, HR.out⟩
          case measure => simp [intOf]; omega
    · have hks : k = s.size := by omega
      have hlt' : ¬ (k : Int) < s.size := by omega
      have HF : Hid (ByteRow.Has w.heap.size wr (.slice (some ⟨g, 0, none⟩) k cp) (fold s.data.toList) ∧ Below w.heap.size w wr) := by
        have := HH.out
        rw [List.take_of_length_le (by simp; omega)] at this
        exact this
      clear HH
      go_wp2_with (refine ByteRow.to_string_at _ rfl 40 9 5 _ rfl (fold s.data.toList) (by rw [fold_length]; simp; omega) rfl HF.out.1 nUnderB nUnder5 nUnder9 ?_)
      go_ret
      exact ⟨rfl, HF.out.2⟩
end Go.Proofs.YtpihgffcfoelbaaDoor
