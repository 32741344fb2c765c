/- The walk of ChunkSizes. -/
import Derived.Test.YtbmgapboajdcpaaChunkJoin
import Derived.Test.YtbmgapboajdcpaaChunkFirst
namespace Go.Chunk
theorem texts_at (s x : ByteArray) (i : Nat) (h : (texts s)[i]? = some x) : 1 ≤ x.size ∧ x.size ≤ 512 ∧ (i + 1 < (texts s).length → 32 ≤ x.size ∧ (x.size < 512 → ∀ r : ByteArray, cut (x ++ r).data.toList = x.size)) := by
  unfold texts at h ⊢
  rw [List.getElem?_map] at h
  cases hc : (chunks s.data.toList)[i]? with
  | none => rw [hc] at h; cases h
  | some c =>
    rw [hc] at h
    cases h
    obtain ⟨h1, h2, h3⟩ := chunks_each s.data.toList i c hc
    have hz : (txt c).size = c.length := by simp [txt, ByteArray.size]
    rw [List.length_map, hz]
    refine ⟨h1, h2, fun h => ⟨(h3 h).1, fun h5 r => ?_⟩⟩
    have e : (txt c ++ r).data.toList = c ++ r.data.toList := by rw [ByteArray.data_append, Array.toList_append, data_txt]
    rw [e]
    exact (h3 h).2 h5 _
end Go.Chunk
namespace Go.Proofs.Ytbmgapboajdcpaa
open Go.RowKit Go.Chunk
theorem below_drewN (w : World) (n : Nat) : Below w.heap.size w (w.drewN n) := ⟨rfl, rfl, rfl, Nat.le_refl _, fun _ _ => rfl⟩
set_option maxRecDepth 100000 in
set_option maxHeartbeats 4000000 in
theorem chunkSizes_any (seed n k : Int) (w : World) : Calls Try.prog 7 #[.int .u64 seed, .int .i64 n, .int .i64 k] w fun e w' => e = .returned (.bool true) ∧ Below w.heap.size w w' := by
  obtain ⟨m, hm, hand⟩ := and_small n 8191 (by decide)
  have hand2 : bits .and .i64 n 8191 = (m : Int) := hand
  obtain ⟨j, hj, hand3⟩ := and_small k 15 (by decide)
  have hj1 : ((j + 1 : Nat) : Int) = (j : Int) + 1 := by omega
  have hand4 : bits .and .i64 k 15 = (j : Int) := hand3
  clear hand hand3
  have HT := hide (text_any seed m w (by omega))
  go_enter Try.func7, Try.ntmps7
  go_wp2_with (first
    | (go_at_call 19; refine HT.out.mono ?_; rintro e w1 ⟨⟨t, ht, rfl⟩, hb⟩; have HB := hide hb; have HL := hide (list_any t w1 (by omega)); have HF := hide (fun W => first_any t (j + 1) W (by omega) (by omega) (by omega)); have htl := texts_length t; have HAT := hide (fun x i => texts_at t x i); clear hb)
    | (go_at_call 10; refine HL.out.mono ?_; rintro e w2 ⟨v, rfl, hown, hb⟩; have HB2 := hide (HB.out.trans (hb.mono HB.out.size)); have HR := hide (own_reads hown); obtain ⟨va, vc, hvv⟩ := own_slice hown; subst hvv; clear hb hown))
  generalize hxs : texts t = xs at *
  clear hxs HL HT
  go_loopw [9] (fun vi wr => ∃ i : Nat, i ≤ xs.length ∧ vi = .int .i64 i ∧ Hid (StrRow.Reads wr (.slice va xs.length vc) xs ∧ Below w.heap.size w wr)) (fun vi _ => xs.length - (intOf vi).toNat)
  case atStart => exact ⟨0, Nat.zero_le _, rfl, HR.out, HB2.out⟩
  case round =>
    obtain ⟨i, hi, rfl, HW⟩ := hrel
    clear HR HB2
    by_cases hlt : i < xs.length
    · have hlt' : (i : Int) < xs.length := by omega
      obtain ⟨b, off, cap, hf, hcap, _⟩ := HW.out.1.at (fun e => by rw [e] at hlt; simp at hlt)
      simp only [Value.slice.injEq] at hf
      obtain ⟨rfl, -, rfl⟩ := hf
      have q := HW.out.1.cell (List.getElem?_eq_getElem hlt)
      obtain ⟨f1, f2, f3⟩ := HAT.out _ i (List.getElem?_eq_getElem hlt)
      generalize xs[i] = x at *
      have d1 : decide ((x.size : Int) < 1) = false := decide_eq_false (by omega)
      have d2 : decide ((x.size : Int) > 512) = false := decide_eq_false (by omega)
      by_cases hl1 : i + 1 < xs.length
      · obtain ⟨f4, f5⟩ := f3 hl1
        have d3 : decide ((i : Int) + 1 < xs.length) = true := decide_eq_true (by omega)
        have d4 : decide ((x.size : Int) < 32) = false := decide_eq_false (by omega)
        by_cases h5 : x.size < 512
        · have d5 : decide ((x.size : Int) < 512) = true := decide_eq_true (by omega)
          have HCU : Hid (∀ W, Calls Try.prog 15 #[.string (x ++ ⟨#[120]⟩)] W fun e w' => e = .returned (.int .i64 x.size) ∧ w' = W) := fun W => by
            have := cut_any (x ++ ⟨#[120]⟩) W (by rw [ByteArray.size_append]; have : (ByteArray.mk #[120]).size = 1 := rfl; unfold maxLen; omega)
            rw [f5 h5] at this
            exact this
          clear f3 f5
          go_wp2_with fail
          go_quiet ((go_at_call 15; exact Calls.quiet_of_same (HCU.out _)))
          go_wp2
          go_roundw
          case rel => exact ⟨i + 1, by omega, by go_num, HW.out.1.below (below_drewN _ _) (Nat.le_refl _), HW.out.2.trans ((below_drewN _ _).mono HW.out.2.size)⟩
          case measure => simp [intOf]; omega
        · have d5 : decide ((x.size : Int) < 512) = false := decide_eq_false (by omega)
          clear f3 f5
          go_wp2_with fail
          go_quiet (fail)
          go_wp2
          go_roundw
          case rel => exact ⟨i + 1, by omega, by go_num, HW.out.1.below (below_drewN _ _) (Nat.le_refl _), HW.out.2.trans ((below_drewN _ _).mono HW.out.2.size)⟩
          case measure => simp [intOf]; omega
      · have d3 : decide ((i : Int) + 1 < xs.length) = false := decide_eq_false (by omega)
        clear f3
        go_wp2_with fail
        go_quiet (fail)
        go_wp2
        go_roundw
        case rel => exact ⟨i + 1, by omega, by go_num, HW.out.1.below (below_drewN _ _) (Nat.le_refl _), HW.out.2.trans ((below_drewN _ _).mono HW.out.2.size)⟩
        case measure => simp [intOf]; omega
    · have hie : i = xs.length := by omega
      have hlt' : ¬ ((i : Int) < xs.length) := by omega
      clear HAT
      go_wp2_with (first
        | (go_at_call 12; refine (awake_any _).mono ?_; rintro e w5 ⟨rfl, hb5⟩; have HB5 := hide (HW.out.2.trans (hb5.mono HW.out.2.size)); clear hb5)
        | (go_at_call 20; refine (HF.out _).mono ?_; rintro e w6 ⟨rfl, hb6⟩; have HB6 := hide (HB5.out.trans (hb6.mono HB5.out.size)); clear hb6))
      all_goals
        go_ret
        refine ⟨?_, HB6.out⟩
        show Ending.returned (.bool (((min (j + 1) xs.length : Nat) : Int) == min ((j : Int) + 1) xs.length)) = _
        rw [show ((min (j + 1) xs.length : Nat) : Int) = min ((j : Int) + 1) xs.length by omega, beq_self_eq_true]
end Go.Proofs.Ytbmgapboajdcpaa
