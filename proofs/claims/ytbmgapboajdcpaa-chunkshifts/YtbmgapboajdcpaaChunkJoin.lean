/- Contracts: texts cut short; awake; chunks put together. -/
import Derived.Test.YtbmgapboajdcpaaChunkText
namespace Go.Chunk
open Go.RowKit
theorem and_small (n : Int) (c : Nat) (hc : c < 100000) : ∃ m : Nat, m ≤ c ∧ bits .and .i64 n (c : Int) = (m : Int) := by
  have h1 : (BitVec.ofInt 64 n &&& BitVec.ofInt 64 (c : Int)).toNat ≤ c := by
    rw [BitVec.toNat_and]
    refine Nat.le_trans Nat.and_le_right ?_
    simp
    omega
  refine ⟨(BitVec.ofInt 64 n &&& BitVec.ofInt 64 (c : Int)).toNat, h1, ?_⟩
  have e : bits .and .i64 n (c : Int) = IntKind.i64.wrap ((BitVec.ofInt 64 n &&& BitVec.ofInt 64 (c : Int)).toNat : Int) := rfl
  rw [e]
  generalize (BitVec.ofInt 64 n &&& BitVec.ofInt 64 (c : Int)).toNat = m at h1
  simp [IntKind.wrap, IntKind.bits, IntKind.signed]
  omega
theorem texts_one (s : ByteArray) (h0 : s.size ≠ 0) (h : s.size ≤ 32) : texts s = [s] := by
  have e : cut s.data.toList = s.size := by rw [cut_short _ (by simpa using h)]; simp
  rw [texts_step s h0, e, texts_nil]
  · congr 1
    rw [← txt_take, List.take_of_length_le (by simp), txt_data]
  · simp
/-- How many bytes texts have together. -/
def tot (xs : List ByteArray) : Nat := (xs.map ByteArray.size).sum
def joined (xs : List ByteArray) : ByteArray := ⟨(xs.map (·.data.toList)).flatten.toArray⟩
def joinT (xs : List ByteArray) : ByteArray := if tot xs ≤ 8192 then joined xs else ⟨#[]⟩
def joinB (xs : List ByteArray) : Bool := decide (tot xs ≤ 8192)
theorem tot_take (xs : List ByteArray) (k : Nat) (h : k < xs.length) : tot (xs.take (k + 1)) = tot (xs.take k) + xs[k].size := by
  unfold tot; rw [List.take_succ_eq_append_getElem h, List.map_append, List.sum_append]; simp
theorem tot_le (xs : List ByteArray) (k : Nat) : tot (xs.take k) ≤ tot xs := by
  have : tot xs = tot (xs.take k) + tot (xs.drop k) := by
    unfold tot; rw [← List.sum_append, ← List.map_append, List.take_append_drop]
  omega
theorem flat_length (xs : List ByteArray) : (xs.map (·.data.toList)).flatten.length = tot xs := by
  unfold tot
  rw [List.length_flatten, List.map_map]
  congr 1
theorem joined_size (xs : List ByteArray) : (joined xs).size = tot xs := by
  have := flat_length xs
  simpa [joined, ByteArray.size] using this
theorem join_flat (xs : List (List UInt8)) : Lib.join xs [] = xs.flatten := by
  cases xs with
  | nil => rfl
  | cons x r => rw [Lib.join_cons]; simp [Lib.joinTail]
theorem joined_texts (s : ByteArray) : joined (texts s) = s := by
  have e : ((texts s).map (·.data.toList)) = chunks s.data.toList := by
    unfold texts; rw [List.map_map]; exact List.map_id _
  unfold joined
  rw [e, chunks_flat]
theorem tot_texts (s : ByteArray) : tot (texts s) = s.size := by rw [← joined_size, joined_texts]
end Go.Chunk
namespace Go.Proofs.Ytbmgapboajdcpaa
open Go.RowKit Go.Shelf Go.Chunk
set_option maxRecDepth 100000 in
set_option maxHeartbeats 1000000 in
theorem few_any (s : ByteArray) (seed n : Int) (w : World) (hs : s.size ≤ maxLen) :
    Calls Try.prog 9 #[.string s, .int .u64 seed, .int .i64 n] w fun e w' => (∃ t : ByteArray, t.size ≤ 1623 ∧ e = .returned (.string t)) ∧ Below w.heap.size w w' := by
  unfold maxLen at hs
  obtain ⟨m, hm, hand⟩ := and_small n 1023 (by decide)
  have hand2 : bits .and .i64 n 1023 = (m : Int) := hand
  clear hand
  have HT := hide (text_any seed m w (by omega))
  by_cases h6 : (s.size : Int) > 600
  · have h6' : (600 : Int) ≤ s.size := by omega
    go_enter Try.func9, Try.ntmps9
    go_wp2_with (go_at_call 19; refine HT.out.mono ?_; rintro e w1 ⟨⟨t, ht, rfl⟩, hb⟩; have HB := hide hb; clear hb)
    go_ret
    exact ⟨⟨s.extract 0 600 ++ t, by rw [ByteArray.size_append, ByteArray.size_extract]; omega, rfl⟩, HB.out⟩
  · go_enter Try.func9, Try.ntmps9
    go_wp2_with (go_at_call 19; refine HT.out.mono ?_; rintro e w1 ⟨⟨t, ht, rfl⟩, hb⟩; have HB := hide hb; clear hb)
    go_ret
    exact ⟨⟨s ++ t, by rw [ByteArray.size_append]; omega, rfl⟩, HB.out⟩
theorem own_reads {base : Nat} {w : World} {v : Value} {n : Nat} {xs : List ByteArray} (h : w.ownsRow base 9 1 v n (xs.map Value.string)) : StrRow.Reads w v xs := StrRow.Reads.of_own h
set_option maxRecDepth 100000 in
set_option maxHeartbeats 1000000 in
theorem awake_any (w : World) : Calls Try.prog 12 #[] w fun e w' => e = .returned (.bool true) ∧ Below w.heap.size w w' := by
  have ht : texts ⟨#[115, 104, 111, 114, 116]⟩ = [⟨#[115, 104, 111, 114, 116]⟩] := texts_one _ (by decide) (by decide)
  have hc : cut [115, 104, 111, 114, 116] = 5 := cut_short _ (by decide)
  have HL := hide (list_any ⟨#[115, 104, 111, 114, 116]⟩ w (by decide))
  rw [ht] at HL
  have HC : Hid (∀ W : World, Calls Try.prog 15 #[.string ⟨#[115, 104, 111, 114, 116]⟩] W fun e w' => e = .returned (.int .i64 5) ∧ w' = W) := fun W => by
    have := cut_any ⟨#[115, 104, 111, 114, 116]⟩ W (by decide)
    rw [show cut (ByteArray.mk #[115, 104, 111, 114, 116]).data.toList = 5 from hc] at this
    exact this
  clear ht hc
  go_enter Try.func12, Try.ntmps12
  go_wp2_with (first
    | (go_at_call 10; refine HL.out.mono ?_; rintro e w1 ⟨v, rfl, hown, hb⟩; have HB := hide hb; obtain ⟨b, off, cap, rfl, hcap, _⟩ := (own_reads hown).at (by simp); have q := (own_reads hown).cell (j := 0) rfl; rw [Nat.add_zero] at q; have hcap' : (1 : Nat) ≤ cap := hcap; clear hb hown)
    | (go_at_call 15; refine (HC.out _).mono ?_; rintro e w2 ⟨rfl, hw⟩; subst hw))
  go_ret
  exact ⟨rfl, HB.out⟩
theorem stringsJoin_any (v : Value) (xs : List ByteArray) (w : World) (hr : StrRow.Reads w v xs) (hl : xs.length ≤ 1000000) (ht : tot xs ≤ 1000000) :
    Calls Try.prog 22 #[v, .string ⟨#[]⟩] w fun e w' => e = .returned (.string (joined xs)) ∧ Below w.heap.size w w' := by
  rcases hr with ⟨⟨a, cap, rfl⟩, rfl⟩ | ⟨b, off, cap, rfl, h2, h3, h4⟩
  · exact (Any.strings_Join_none joinL joinX a cap ⟨#[]⟩ w).mono fun e w' ⟨he, hw⟩ => ⟨he, hw ▸ Below.refl _ _⟩
  · have e1 : Lib.join (xs.map (·.data.toList)) (ByteArray.mk #[]).data.toList = (xs.map (·.data.toList)).flatten := join_flat _
    have := Any.strings_Join joinL joinX b off cap xs ⟨#[]⟩ w h4 h2 (by omega) h3 (by rw [e1, flat_length]; omega)
    rw [e1] at this
    exact this
set_option maxRecDepth 100000 in
set_option maxHeartbeats 1000000 in
theorem join_any (v : Value) (xs : List ByteArray) (w : World) (hr : StrRow.Reads w v xs) (hl : xs.length ≤ 1000000) :
    Calls Try.prog 14 #[v] w fun e w' => e = .returned (.tuple #[.string (joinT xs), .bool (joinB xs)]) ∧ Below w.heap.size w w' := by
  obtain ⟨va, vc, hv⟩ := hr.form
  subst hv
  have HR := hide hr
  have HJ : Hid (tot xs ≤ 8192 → Calls Try.prog 22 #[.slice va xs.length vc, .string ⟨#[]⟩] w fun e w' => e = .returned (.string (joined xs)) ∧ Below w.heap.size w w') := fun h => stringsJoin_any _ xs w hr hl (by omega)
  clear hr
  go_enter Try.func14, Try.ntmps14
  go_wp2
  go_loop [4, 9] (fun vr vi => ∃ (k room : Nat), k ≤ xs.length ∧ vi = .int .i64 k ∧ vr = .int .i64 room ∧ Hid (tot (xs.take k) + room = 8192)) (fun _ vi => xs.length - (intOf vi).toNat)
  case atStart => exact ⟨0, 8192, Nat.zero_le _, rfl, rfl, rfl⟩
  case round =>
    obtain ⟨k, room, hk, rfl, rfl, HT⟩ := hrel
    by_cases hlt : k < xs.length
    · have hlt' : (k : Int) < xs.length := by omega
      obtain ⟨b, off, cap, hf, hcap, _⟩ := HR.out.at (fun e => by rw [e] at hlt; simp at hlt)
      simp only [Value.slice.injEq] at hf
      obtain ⟨rfl, -, rfl⟩ := hf
      have q := HR.out.cell (List.getElem?_eq_getElem hlt)
      have HN := hide (tot_take xs k hlt)
      have hroom : room ≤ 8192 := by have := HT.out; omega
      by_cases hbig : ((room : Int) < xs[k].size)
      · have HX : Hid (¬ tot xs ≤ 8192) := by
          have h1 := HN.out
          have h2 := HT.out
          have h3 := tot_le xs (k + 1)
          show ¬ _
          omega
        generalize xs[k] = x at *
        go_wp2
        go_ret2
        rw [joinT, joinB, if_neg HX.out, decide_eq_false HX.out]
        exact ⟨rfl, Below.refl _ _⟩
      · generalize hx : xs[k] = x at *
        go_wp2
        go_round
        case rel => exact ⟨k + 1, room - x.size, by omega, by go_num, by rw [Int.ofNat_sub (by omega)], by have h1 := HN.out; have h2 := HT.out; show _ = _; omega⟩
        case measure => simp [intOf]; omega
    · have hke : k = xs.length := by omega
      have HTT : Hid (tot xs ≤ 8192) := by have := HT.out; rw [hke, List.take_length] at this; show _ ≤ _; omega
      have HJ' := hide (HJ.out HTT.out)
      have hlt' : ¬ ((k : Int) < xs.length) := by omega
      clear HJ
      go_wp2_with (go_at_call 22; refine HJ'.out.mono ?_; rintro e w1 ⟨rfl, hb⟩; have HB := hide hb; clear hb)
      go_ret2
      rw [joinT, joinB, if_pos HTT.out, decide_eq_true HTT.out]
      exact ⟨rfl, HB.out⟩
end Go.Proofs.Ytbmgapboajdcpaa
