/- The walk of ChunkEnds. -/
import Derived.Test.YtbmgapboajdcpaaChunkJoin
namespace Go.Chunk
theorem ends_facts (A t : ByteArray) (hA : A.size ≤ 60) (ht : t.size = 300) : 32 ≤ cut (A ++ t).data.toList ∧ cut (A ++ t).data.toList ≤ 512 ∧ cut t.data.toList ≤ 300 ∧ (cut (A ++ t).data.toList ≤ A.size + cut t.data.toList ∨ cut t.data.toList ≤ 64 ∨ 300 ≤ cut t.data.toList) := by
  have e : (A ++ t).data.toList = A.data.toList ++ t.data.toList := by rw [ByteArray.data_append, Array.toList_append]
  have l1 : A.data.toList.length = A.size := by simp
  have l2 : t.data.toList.length = 300 := by simpa using ht
  rw [e]
  refine ⟨?_, (cut_is _).most, by have := (cut_is t.data.toList).len; omega, ?_⟩
  · have hl : (A.data.toList ++ t.data.toList).length = A.size + 300 := by rw [List.length_append, l1, l2]
    rcases (cut_is (A.data.toList ++ t.data.toList)).ends with h | h | ⟨h, _⟩ <;> omega
  · rcases Nat.lt_or_ge 64 (cut t.data.toList) with h2 | h2
    · rcases Nat.lt_or_ge (cut t.data.toList) 300 with h3 | h3
      · have := cut_ahead A.data.toList t.data.toList h2 (by omega) (by omega)
        omega
      · omega
    · omega
end Go.Chunk
namespace Go.Proofs.Ytbmgapboajdcpaa
open Go.RowKit Go.Chunk
set_option maxRecDepth 100000 in
set_option maxHeartbeats 2000000 in
theorem chunkEnds_any (a : ByteArray) (seed : Int) (w : World) (ha : a.size ≤ maxLen) : Calls Try.prog 8 #[.string a, .int .u64 seed] w fun e w' => e = .returned (.bool true) ∧ Below w.heap.size w w' := by
  unfold maxLen at ha
  have HT : Hid (Calls Try.prog 19 #[.int .u64 seed, .int .i64 300] w fun e w' => (∃ t : ByteArray, t.size = 300 ∧ e = .returned (.string t)) ∧ Below w.heap.size w w') := text_any seed 300 w (by omega)
  by_cases h6 : (60 : Int) < a.size
  · have h6' : (60 : Int) ≤ a.size := by omega
    have hA : (a.extract 0 60).size ≤ 60 := by rw [ByteArray.size_extract]; omega
    go_enter Try.func8, Try.ntmps8
    go_wp2_with (first
      | (go_at_call 19; refine HT.out.mono ?_; rintro e w1 ⟨⟨t, ht, rfl⟩, hb⟩; have HB := hide hb; have HC := hide (fun W => cut_any t W (by unfold maxLen; omega)); have HR := hide (fun W => rcut_any t W (by unfold maxLen; omega)); have HCC := hide (fun W => cut_any (a.extract 0 60 ++ t) W (by rw [ByteArray.size_append]; unfold maxLen; omega)); have HRR := hide (fun W => rcut_any (a.extract 0 60 ++ t) W (by rw [ByteArray.size_append]; unfold maxLen; omega)); obtain ⟨f1, f2, f3, f4⟩ := ends_facts (a.extract 0 60) t hA ht; clear hb; generalize hk : cut t.data.toList = k at *; generalize hc : cut (a.extract 0 60 ++ t).data.toList = c at *; clear hk hc; have g1 : (32 : Int) ≤ c := by omega)
      | (go_at_call 16; refine (HR.out _).mono ?_; rintro e w2 ⟨rfl, hw⟩; subst hw; clear HR)
      | (go_at_call 15; refine (HCC.out _).mono ?_; rintro e w3 ⟨rfl, hw⟩; subst hw; clear HCC)
      | (go_at_call 12; refine (awake_any _).mono ?_; rintro e w4 ⟨rfl, hb4⟩; have HB4 := hide (HB.out.trans (hb4.mono HB.out.size)); clear hb4)
      | (go_at_call 16; refine (HRR.out _).mono ?_; rintro e w5 ⟨rfl, hw⟩; subst hw; clear HRR)
      | (go_at_call 15; refine (HC.out _).mono ?_; rintro e w6 ⟨rfl, hw⟩; subst hw; clear HC))
    all_goals first | (exfalso; omega) | (go_ret; exact ⟨rfl, HB4.out⟩) | trace_state
  · have h6' : ¬ (60 : Int) < a.size := by omega
    have hA : (a).size ≤ 60 := by omega
    go_enter Try.func8, Try.ntmps8
    go_wp2_with (first
      | (go_at_call 19; refine HT.out.mono ?_; rintro e w1 ⟨⟨t, ht, rfl⟩, hb⟩; have HB := hide hb; have HC := hide (fun W => cut_any t W (by unfold maxLen; omega)); have HR := hide (fun W => rcut_any t W (by unfold maxLen; omega)); have HCC := hide (fun W => cut_any (a ++ t) W (by rw [ByteArray.size_append]; unfold maxLen; omega)); have HRR := hide (fun W => rcut_any (a ++ t) W (by rw [ByteArray.size_append]; unfold maxLen; omega)); obtain ⟨f1, f2, f3, f4⟩ := ends_facts (a) t hA ht; clear hb; generalize hk : cut t.data.toList = k at *; generalize hc : cut (a ++ t).data.toList = c at *; clear hk hc; have g1 : (32 : Int) ≤ c := by omega)
      | (go_at_call 16; refine (HR.out _).mono ?_; rintro e w2 ⟨rfl, hw⟩; subst hw; clear HR)
      | (go_at_call 15; refine (HCC.out _).mono ?_; rintro e w3 ⟨rfl, hw⟩; subst hw; clear HCC)
      | (go_at_call 12; refine (awake_any _).mono ?_; rintro e w4 ⟨rfl, hb4⟩; have HB4 := hide (HB.out.trans (hb4.mono HB.out.size)); clear hb4)
      | (go_at_call 16; refine (HRR.out _).mono ?_; rintro e w5 ⟨rfl, hw⟩; subst hw; clear HRR)
      | (go_at_call 15; refine (HC.out _).mono ?_; rintro e w6 ⟨rfl, hw⟩; subst hw; clear HC))
    all_goals first | (exfalso; omega) | (go_ret; exact ⟨rfl, HB4.out⟩) | trace_state
end Go.Proofs.Ytbmgapboajdcpaa
