/- The walk of ChunkShifts. -/
import Derived.Test.YtbmgapboajdcpaaChunkSizesWalk
namespace Go.Chunk
theorem chunks_drop : ∀ (i : Nat) (l : Bs), i ≤ (chunks l).length → (chunks l).drop i = chunks (l.drop ((chunks l).take i).flatten.length) := by
  intro i
  induction i with
  | zero => intro l _; simp
  | succ i ih =>
    intro l h
    have hl : l ≠ [] := fun e => by rw [e, chunks_nil] at h; simp at h
    have hc := (cut_is l).len
    rw [chunks_step l hl] at h ⊢
    simp only [List.length_cons] at h
    rw [List.drop_succ_cons, List.take_succ_cons, List.flatten_cons, List.length_append, ih _ (by omega), List.drop_drop, List.length_take_of_le hc]
theorem texts_rest (s : ByteArray) (i : Nat) (h : i ≤ (texts s).length) : (texts s).drop i = (chunks (s.data.toList.drop (tot ((texts s).take i)))).map txt := by
  have e : tot ((texts s).take i) = ((chunks s.data.toList).take i).flatten.length := by
    rw [← flat_length]
    unfold texts
    rw [← List.map_take, List.map_map]
    congr 2
    exact List.map_id _
  rw [e]
  unfold texts at h ⊢
  rw [List.length_map] at h
  rw [← List.map_drop, chunks_drop i _ h]
theorem suffix_same (A B T : Bs) (m n : Nat) (hm : m ≤ (A ++ T).length) (hn : n ≤ (B ++ T).length) (h : (A ++ T).length - m = (B ++ T).length - n) (ht : (A ++ T).length - m ≤ T.length) : (A ++ T).drop m = (B ++ T).drop n := by
  rw [List.length_append] at hm hn h ht
  rw [List.length_append] at h
  have e1 : A.drop m = [] := List.drop_eq_nil_of_le (by omega)
  have e2 : B.drop n = [] := List.drop_eq_nil_of_le (by omega)
  rw [List.drop_append, List.drop_append, e1, e2, show m - A.length = n - B.length by omega]
/-- Where the rests are as long, and no longer than what is the same, the chunks are the same. -/
theorem rests_same (A B T : ByteArray) (i k : Nat) (hi : i ≤ (texts (A ++ T)).length) (hk : k ≤ (texts (B ++ T)).length)
    (h : (A ++ T).size - tot ((texts (A ++ T)).take i) = (B ++ T).size - tot ((texts (B ++ T)).take k)) (ht : (A ++ T).size - tot ((texts (A ++ T)).take i) ≤ T.size) : (texts (A ++ T)).drop i = (texts (B ++ T)).drop k := by
  have e1 : (A ++ T).data.toList = A.data.toList ++ T.data.toList := by rw [ByteArray.data_append, Array.toList_append]
  have e2 : (B ++ T).data.toList = B.data.toList ++ T.data.toList := by rw [ByteArray.data_append, Array.toList_append]
  have l1 : (A.data.toList ++ T.data.toList).length = (A ++ T).size := by rw [← e1]; simp
  have l2 : (B.data.toList ++ T.data.toList).length = (B ++ T).size := by rw [← e2]; simp
  have l3 : T.data.toList.length = T.size := by simp
  have t1 := tot_le (texts (A ++ T)) i
  have t2 := tot_le (texts (B ++ T)) k
  rw [tot_texts] at t1 t2
  have key := suffix_same A.data.toList B.data.toList T.data.toList (tot ((texts (A ++ T)).take i)) (tot ((texts (B ++ T)).take k)) (by omega) (by omega) (by omega) (by omega)
  rw [texts_rest _ i hi, texts_rest _ k hk, e1, e2, key]
theorem drop_same {p q : List ByteArray} {i k : Nat} (h : p.drop i = q.drop k) : (i < p.length ↔ k < q.length) ∧ (∀ (hi : i < p.length) (hk : k < q.length), p[i] = q[k]) ∧ p.drop (i + 1) = q.drop (k + 1) := by
  have hl := congrArg List.length h
  rw [List.length_drop, List.length_drop] at hl
  refine ⟨by omega, fun hi hk => ?_, ?_⟩
  · rw [List.drop_eq_getElem_cons hi, List.drop_eq_getElem_cons hk] at h
    exact (List.cons.inj h).1
  · have := congrArg List.tail h
    rwa [List.tail_drop, List.tail_drop] at this
end Go.Chunk
namespace Go.Proofs.Ytbmgapboajdcpaa
open Go.RowKit Go.Chunk
set_option maxRecDepth 100000 in
set_option maxHeartbeats 4000000 in
theorem chunkShifts_any (a b : ByteArray) (seed : Int) (w : World) (ha : a.size ≤ maxLen) (hb : b.size ≤ maxLen) : Calls Try.prog 5 #[.string a, .string b, .int .u64 seed] w fun e w' => e = .returned (.bool true) ∧ Below w.heap.size w w' := by
  have HT : Hid (Calls Try.prog 19 #[.int .u64 seed, .int .i64 700] w fun e w' => (∃ t : ByteArray, t.size = 700 ∧ e = .returned (.string t)) ∧ Below w.heap.size w w') := text_any seed 700 w (by omega)
  have HFA := hide (fun W => few_any a (bits .xor .u64 seed 1) 0 W ha)
  have HFB := hide (fun W => few_any b (bits .xor .u64 seed 2) 0 W hb)
  clear ha hb
  go_enter Try.func5, Try.ntmps5
  go_wp2_with (first
    | (go_at_call 19; refine HT.out.mono ?_; rintro e w1 ⟨⟨t, ht, rfl⟩, hb⟩; have HB1 := hide hb; clear hb HT)
    | (go_at_call 9; refine (HFA.out _).mono ?_; rintro e w2 ⟨⟨A, hA, rfl⟩, hb⟩; have HB2 := hide (HB1.out.trans (hb.mono HB1.out.size)); have hz1 : ¬ (9223372036854775807 < A.size + t.size) := (by omega); clear hb HFA HB1)
    | (go_at_call 9; refine (HFB.out _).mono ?_; rintro e w3 ⟨⟨B, hB, rfl⟩, hb⟩; have HB3 := hide (HB2.out.trans (hb.mono HB2.out.size)); have hz2 : ¬ (9223372036854775807 < B.size + t.size) := (by omega); clear hb HFB HB2; have sx := ByteArray.size_append (a := A) (b := t); have sy := ByteArray.size_append (a := B) (b := t); have HRS := hide (fun i k => rests_same A B t i k); have HLX := hide (list_any (A ++ t) w3 (by omega)); have hpl := texts_length (A ++ t); have hql := texts_length (B ++ t); have HTX := hide (tot_texts (A ++ t)); have HTY := hide (tot_texts (B ++ t)); have HLY := hide (fun W => list_any (B ++ t) W (by omega)))
    | (go_at_call 10; refine HLX.out.mono ?_; rintro e w4 ⟨vp, rfl, hown, hb⟩; have HB4 := hide (HB3.out.trans (hb.mono HB3.out.size)); have HRP := hide (own_reads hown); obtain ⟨pa, pc, hvp⟩ := own_slice hown; subst hvp; clear hb hown HLX HB3)
    | (go_at_call 10; refine (HLY.out _).mono ?_; rintro e w5 ⟨vq, rfl, hown, hb⟩; have HB5 := hide (HB4.out.trans (hb.mono HB4.out.size)); have HRQ := hide (own_reads hown); obtain ⟨qa, qc, hvq⟩ := own_slice hown; subst hvq; have HRP5 := hide (HRP.out.below hb (Nat.le_refl _)); clear hb hown HLY HB4 HRP))
  generalize hX : A ++ t = X at *
  generalize hY : B ++ t = Y at *
  generalize hp : texts X = p at *
  generalize hq : texts Y = q at *
  clear hX hY hp hq hz1 hz2
  have hXs : X.size ≤ 2323 := by omega
  have hYs : Y.size ≤ 2323 := by omega
  have ht' : (t.size : Int) = 700 := by omega
  clear sx sy
  go_loop [12, 13, 14, 15] (fun vi vk va vt => ∃ i k at' to' : Nat, i ≤ p.length ∧ k ≤ q.length ∧ at' ≤ X.size ∧ to' ≤ Y.size ∧ vi = .int .i64 i ∧ vk = .int .i64 k ∧ va = .int .i64 at' ∧ vt = .int .i64 to' ∧ Hid (tot (p.take i) = at' ∧ tot (q.take k) = to')) (fun vi vk _ _ => (p.length - (intOf vi).toNat) + (q.length - (intOf vk).toNat))
  case atStart => exact ⟨0, 0, 0, 0, Nat.zero_le _, Nat.zero_le _, Nat.zero_le _, Nat.zero_le _, rfl, rfl, rfl, rfl, rfl, rfl⟩
  case round =>
    obtain ⟨i, k, at', to', hi, hk, hat, hto, rfl, rfl, rfl, rfl, HTT⟩ := hrel
    by_cases hgo : i < p.length ∧ k < q.length ∧ ¬ ((X.size : Int) - at' = (Y.size : Int) - to')
    · obtain ⟨h1, h2, h3⟩ := hgo
      have h1' : (i : Int) < p.length := by omega
      have h2' : (k : Int) < q.length := by omega
      obtain ⟨b1, o1, c1, hf1, hc1, _⟩ := HRP5.out.at (fun e => by rw [e] at h1; simp at h1)
      obtain ⟨b2, o2, c2, hf2, hc2, _⟩ := HRQ.out.at (fun e => by rw [e] at h2; simp at h2)
      simp only [Value.slice.injEq] at hf1 hf2
      obtain ⟨rfl, -, rfl⟩ := hf1
      obtain ⟨rfl, -, rfl⟩ := hf2
      have q1 := HRP5.out.cell (List.getElem?_eq_getElem h1)
      have q2 := HRQ.out.cell (List.getElem?_eq_getElem h2)
      have HN1 := hide (tot_take p i h1)
      have HN2 := hide (tot_take q k h2)
      have hle1 : at' + p[i].size ≤ X.size := by have a1 := tot_le p (i + 1); have a2 := HN1.out; have a3 := HTT.out.1; have a4 := HTX.out; omega
      have hle2 : to' + q[k].size ≤ Y.size := by have a1 := tot_le q (k + 1); have a2 := HN2.out; have a3 := HTT.out.2; have a4 := HTY.out; omega
      generalize p[i] = x at *
      generalize q[k] = y at *
      by_cases hgt : (Y.size : Int) - to' < (X.size : Int) - at'
      · go_wp2
        go_round
        case rel => exact ⟨i + 1, k, at' + x.size, to', by omega, hk, hle1, hto, by go_num, rfl, by first | rfl | go_num | (simp), rfl, by have a2 := HN1.out; have a3 := HTT.out.1; show _ = _; omega, HTT.out.2⟩
        case measure => simp [intOf]; omega
      · go_wp2
        go_round
        case rel => exact ⟨i, k + 1, at', to' + y.size, hi, by omega, hat, hle2, rfl, by go_num, rfl, by first | rfl | go_num | (simp), HTT.out.1, by have a2 := HN2.out; have a3 := HTT.out.2; show _ = _; omega⟩
        case measure => simp [intOf]; omega
    · have hex : (¬ ((i : Int) < p.length)) ∨ ((i : Int) < p.length ∧ ¬ ((k : Int) < q.length)) ∨ ((i : Int) < p.length ∧ (k : Int) < q.length ∧ (X.size : Int) - at' = (Y.size : Int) - to') := by omega
      by_cases h7 : (700 : Int) < (X.size : Int) - at'
      · clear hgo
        rcases hex with e1 | ⟨e1, e2⟩ | ⟨e1, e2, e3⟩
        all_goals
          go_wp2_with (go_at_call 12; refine (awake_any _).mono ?_; rintro e w6 ⟨rfl, hb⟩; have HB6 := hide (HB5.out.trans (hb.mono HB5.out.size)); clear hb)
          go_ret
          exact ⟨rfl, HB6.out⟩
      · by_cases heq : (X.size : Int) - at' = (Y.size : Int) - to'
        · have HD : Hid (p.drop i = q.drop k) := HRS.out i k hi hk (by have a1 := HTT.out.1; have a2 := HTT.out.2; omega) (by have a1 := HTT.out.1; omega)
          clear hgo HRS
          rcases hex with e1 | ⟨e1, e2⟩ | ⟨e1, e2, e3⟩
          all_goals
            go_wp2_with (go_at_call 12; refine (awake_any _).mono ?_; rintro e w6 ⟨rfl, hb⟩; have HB6 := hide (HB5.out.trans (hb.mono HB5.out.size)); have HR1 := hide (HRP5.out.below hb (Nat.le_refl _)); have HR2 := hide (HRQ.out.below hb (Nat.le_refl _)); clear hb)
            go_loopw [12, 13] (fun vi vk wr => ∃ i k : Nat, i ≤ p.length ∧ k ≤ q.length ∧ vi = .int .i64 i ∧ vk = .int .i64 k ∧ Hid (p.drop i = q.drop k) ∧ Hid (StrRow.Reads wr (.slice pa p.length pc) p ∧ StrRow.Reads wr (.slice qa q.length qc) q ∧ Below w.heap.size w wr)) (fun vi _ _ => p.length - (intOf vi).toNat)
            case atStart => exact ⟨i, k, hi, hk, rfl, rfl, HD.out, HR1.out, HR2.out, HB6.out⟩
            case round =>
              clear HD HR1 HR2 HB6 e1 hi hk HTT
              obtain ⟨i', k', hi', hk', rfl, rfl, HD, HW⟩ := hrel
              obtain ⟨hiff, hel, hnx⟩ := drop_same HD.out
              have HNX := hide hnx
              clear hnx
              by_cases hl : i' < p.length
              · have hl2 := hiff.1 hl
                have hE := hel hl hl2
                have h1' : (i' : Int) < p.length := by omega
                have h2' : (k' : Int) < q.length := by omega
                obtain ⟨b1, o1, c1, hf1, hc1, _⟩ := HW.out.1.at (fun e => by rw [e] at hl; simp at hl)
                obtain ⟨b2, o2, c2, hf2, hc2, _⟩ := HW.out.2.1.at (fun e => by rw [e] at hl2; simp at hl2)
                simp only [Value.slice.injEq] at hf1 hf2
                obtain ⟨rfl, -, rfl⟩ := hf1
                obtain ⟨rfl, -, rfl⟩ := hf2
                have q1 := HW.out.1.cell (List.getElem?_eq_getElem hl)
                have q2 := HW.out.2.1.cell (List.getElem?_eq_getElem hl2)
                rw [hE] at q1
                clear hE hel hiff
                generalize q[k'] = y at *
                go_wp2_with fail
                go_quiet (fail)
                go_wp2
                go_roundw
                case rel => exact ⟨i' + 1, k' + 1, by omega, by omega, by go_num, by go_num, HNX.out, HW.out.1.below (below_drewN _ _) (Nat.le_refl _), HW.out.2.1.below (below_drewN _ _) (Nat.le_refl _), HW.out.2.2.trans ((below_drewN _ _).mono HW.out.2.2.size)⟩
                case measure => simp [intOf]; omega
              · have hl2 : ¬ (k' < q.length) := fun h => hl (hiff.2 h)
                have h1' : (i' : Int) = p.length := by omega
                have h2' : (k' : Int) = q.length := by omega
                clear hel hiff
                go_wp2
                go_ret
                exact ⟨by first | rfl | (simp; done), HW.out.2.2⟩
        · clear HRS
          have hex2 : (¬ ((i : Int) < p.length)) ∨ ((i : Int) < p.length ∧ ¬ ((k : Int) < q.length)) := by omega
          clear hgo hex
          rcases hex2 with e1 | ⟨e1, e2⟩
          all_goals
            go_wp2_with (go_at_call 12; refine (awake_any _).mono ?_; rintro e w6 ⟨rfl, hb⟩; have HB6 := hide (HB5.out.trans (hb.mono HB5.out.size)); clear hb)
            go_loop [12, 13] (fun vi vk => vi = .int .i64 i ∧ vk = .int .i64 k) (fun _ _ => 0)
            case atStart => exact ⟨rfl, rfl⟩
            case round =>
              obtain ⟨rfl, rfl⟩ := hrel
              have hneB : ((X.size : Int) - at' != (Y.size : Int) - to') = true := bne_iff_ne.2 heq
              go_wp2
              all_goals
                go_ret
                exact ⟨by first | rfl | (simp; done) | (simp [hneB]; done), HB6.out⟩
end Go.Proofs.Ytbmgapboajdcpaa
