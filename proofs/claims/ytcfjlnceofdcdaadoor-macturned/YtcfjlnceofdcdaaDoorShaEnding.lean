/- The contract of what stands behind the whole blocks of a text: the mark, the zeros, the count of bits. -/
import Derived.Test.YtcfjlnceofdcdaaDoorRows
import Derived.Test.YtcfjlnceofdcdaaDoorShaMul
import Derived.Test.YtcfjlnceofdcdaaDoorShaNumber
import Derived.Test.YtcfjlnceofdcdaaDoorShaMath2
import Derived.WalkKit
import Derived.WalkSpells
import Derived.WalkLawsBesides
import Derived.Deep.QuietTactic
import Derived.Deep.RegionWith
import Derived.Test.YtcfjlnceofdcdaaDoorTail
import Derived.BigQuiet
import Derived.Deep.WholeRow
namespace Go.Proofs.YtcfjlnceofdcdaaDoor
open Go.RowKit
theorem under5 : Tryd.prog.underlying 5 = some (.int .u8) := by kernel_rfl
theorem under9 : Tryd.prog.underlying 9 = some .string := by kernel_rfl
set_option maxRecDepth 100000 in
set_option maxHeartbeats 1000000 in
theorem ending_any (r : ByteArray) (n : Nat) (w : World) (hr : r.size < 128) (hn : n ≤ 1000000) :
    Calls Tryd.prog 26 #[.string r, .int .i64 n] w fun e w' => e = .returned (.string ⟨(Sha.ended r.data.toList n).toArray⟩) ∧ Below w.heap.size w w' := by
  obtain ⟨i0, hi, hz0, hz1, hz2⟩ := info_parts info5
  go_enter Tryd.func26, Tryd.ntmps26
  go_wp2_with (refine ByteRow.of_string _ rfl 9 40 5 _ rfl r rfl under9 under46 under5 ?_)
  intro v1 w1 hh1 hb1
  go_wp2_with (at_builtin; refine ByteRow.append _ rfl _ _ 40 rfl 5 i0 under46 hi hz0 hz1 hz2 w.heap.size _ r.data.toList rfl (hh1.alloc _) ?_ ⟨w1.heap.size, 0, none⟩ 1 1 [128] rfl rfl (ShaW.news_byte _ _ _ _ (by rfl)) ?_ ?_)
  · have := hb1.size; simp; omega
  · simp; omega
  intro v2 w2 hh2 hb2
  obtain ⟨a2, c2, hv2⟩ := hh2.length_of
  have e2 : (r.data.toList ++ [(128 : UInt8)]).length = r.size + 1 := by simp
  rw [e2] at hv2
  clear e2
  subst hv2
  have HS : Hid (ByteRow.Has w.heap.size w2 (.slice a2 (r.size + 1) c2) (r.data.toList ++ [128]) ∧ Below w.heap.size w w2 ∧ w.heap.size ≤ w2.heap.size) := ⟨hh2, (hb1.alloc (by have := hb1.size; omega) _).trans hb2, by have := hb2.size; have := hb1.size; simp at *; omega⟩
  clear hh1 hb1 hh2 hb2
  go_wp2_with fail
  go_loopw [5] (fun v wr => ∃ (k : Nat) (a : Option Addr) (c : Nat), v = .slice a (r.size + 1 + k) c ∧ k ≤ Sha.zeros r.size ∧ Hid (ByteRow.Has w.heap.size wr v (Sha.part r.data.toList k) ∧ Below w.heap.size w wr ∧ w.heap.size ≤ wr.heap.size)) (fun v _ => match v with | .slice _ n _ => 10000 - n | _ => 0)
  case atStart => exact ⟨0, a2, c2, by simp, by omega, by exact HS.out⟩
  case round =>
    clear HS
    obtain ⟨k, a, c, rfl, hk, HH⟩ := hrel
    have hz : Sha.zeros r.size < 128 := by unfold Sha.zeros; omega
    by_cases hlt : (r.size + 1 + k) % 128 = 112
    · have hdone : Sha.part r.data.toList k = Sha.marked r.data.toList := Sha.part_done _ _ (by simpa using hk) (by rw [Sha.part_length]; simpa using hlt)
      have HM : Hid (ByteRow.Has w.heap.size wr (.slice a (r.size + 1 + k) c) (Sha.marked r.data.toList) ∧ Below w.heap.size w wr ∧ w.heap.size ≤ wr.heap.size) := by rw [← hdone]; exact HH.out
      have hlen : (Sha.marked r.data.toList).length = r.size + 1 + k := by rw [← hdone, Sha.part_length]; simp
      have HL : Hid ((Sha.marked r.data.toList).length = r.size + 1 + k) := hlen
      clear HH hdone hlen
      go_wp2_with fail
      refine (mul64_any n _ hn).mono ?_
      rintro e w' ⟨rfl, rfl⟩
      go_wp2_with fail
      refine (number_any w.heap.size _ (Sha.marked r.data.toList) 0 8 _ HM.out.1 HM.out.2.2 (by rw [HL.out]; omega) (by omega)).mono ?_
      rintro e w3 ⟨v3, rfl, hh3, hb3⟩
      have HN : Hid (ByteRow.Has w.heap.size w3 v3 (Sha.marked r.data.toList ++ Sha.be 0 8) ∧ Below w.heap.size w w3 ∧ w.heap.size ≤ w3.heap.size) := ⟨hh3, HM.out.2.1.trans hb3, by have := hb3.size; have := HM.out.2.2; omega⟩
      clear hh3 hb3 HM
      go_wp2_with fail
      refine (number_any w.heap.size _ (Sha.marked r.data.toList ++ Sha.be 0 8) (8 * n) 8 _ HN.out.1 HN.out.2.2 (by rw [List.length_append, HL.out, Sha.be_length]; omega) (by omega)).mono ?_
      rintro e w4 ⟨v4, rfl, hh4, hb4⟩
      have HO : Hid (ByteRow.Has w.heap.size w4 v4 (Sha.ended r.data.toList n) ∧ Below w.heap.size w w4) := ⟨by unfold Sha.ended; rw [← List.append_assoc]; exact hh4, HN.out.2.1.trans hb4⟩
      clear hh4 hb4 HN
      go_wp2_with (refine ByteRow.to_string _ rfl 40 9 5 _ rfl (Sha.ended r.data.toList n) rfl HO.out.1 (by simp [Sha.ended, Sha.marked]) under46 under5 under9 ?_)
      go_ret
      exact ⟨rfl, HO.out.2⟩
    · go_wp2_with (at_builtin; refine ByteRow.append _ rfl _ _ 40 rfl 5 i0 under46 hi hz0 hz1 hz2 w.heap.size _ (Sha.part r.data.toList k) rfl (HH.out.1.alloc _) ?_ ⟨wr.heap.size, 0, none⟩ 1 1 [0] rfl rfl (ShaW.news_byte _ _ _ _ (by rfl)) ?_ ?_)
      · have := HH.out.2.2; simp; omega
      · rw [Sha.part_length]; simp; omega
      · intro v3 w3 hh3 hb3
        rw [Sha.part_snoc] at hh3
        obtain ⟨a3, c3, hv3⟩ := hh3.length_of
        have e3 : (Sha.part r.data.toList (k + 1)).length = r.size + 1 + (k + 1) := by rw [Sha.part_length]; simp
        rw [e3] at hv3
        clear e3
        subst hv3
        have hkk : k + 1 ≤ Sha.zeros r.size := by
          have := Sha.part_more r.data.toList k (by simpa using hk) (by rw [Sha.part_length]; simpa using hlt)
          simpa using this
        have HR : Hid (ByteRow.Has w.heap.size w3 (.slice a3 (r.size + 1 + (k + 1)) c3) (Sha.part r.data.toList (k + 1)) ∧ Below w.heap.size w w3 ∧ w.heap.size ≤ w3.heap.size) := ⟨hh3, (HH.out.2.1.alloc HH.out.2.2 _).trans hb3, by have := hb3.size; have := HH.out.2.2; simp at *; omega⟩
        clear hh3 hb3 HH
        go_wp2
        go_roundw
        case rel => exact ⟨k + 1, a3, c3, rfl, hkk, HR.out⟩
        case measure => simp; omega
end Go.Proofs.YtcfjlnceofdcdaaDoor
