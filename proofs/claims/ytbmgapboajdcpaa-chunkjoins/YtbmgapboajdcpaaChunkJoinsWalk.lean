/- The walk of ChunkJoins. -/
import Derived.Test.YtbmgapboajdcpaaChunkJoin
namespace Go.Chunk
theorem tot_snoc (xs : List ByteArray) (x : ByteArray) : tot (xs ++ [x]) = tot xs + x.size := by unfold tot; simp
theorem tot_few (xs : List ByteArray) (h : ∀ x ∈ xs, x.size ≤ 600) : tot xs ≤ 600 * xs.length := by
  induction xs with
  | nil => exact Nat.zero_le _
  | cons x r ih =>
    have h1 := h x (List.mem_cons_self ..)
    have h2 := ih fun y hy => h y (List.mem_cons_of_mem _ hy)
    have e : tot (x :: r) = x.size + tot r := by unfold tot; simp
    rw [e, List.length_cons]
    omega
end Go.Chunk
namespace Go.Proofs.Ytbmgapboajdcpaa
open Go.RowKit Go.Chunk
/-- What a round of ChunkJoins keeps. -/
def Kj (w : World) (xs ys : List ByteArray) (v vk : Value) (wr : World) : Prop :=
  wr.ownsRow w.heap.size 9 1 vk ys.length (ys.map Value.string) ∧ Below w.heap.size w wr ∧ StrRow.Reads wr v xs ∧ ∀ y ∈ ys, y.size ≤ 600
theorem Kj.next {w w1 : World} {xs ys : List ByteArray} {v vk v' : Value} {wr : World} {x : ByteArray} {o : Obj} (h : Kj w xs ys v vk wr) (hx : x.size ≤ 600) (hv : StrRow.Reads w v xs)
    (hown : w1.ownsRow w.heap.size 9 1 v' (ys.length + 1) (ys.map Value.string ++ [.string x])) (hg : (wr.alloc o).grownBy w1 vk.ownBlock) : Kj w xs (ys ++ [x]) v v' w1 := by
  have hb : Below w.heap.size w w1 := (h.2.1.alloc h.2.1.size _).grown hg (h.2.1.alloc h.2.1.size _).size fun k e => own_ge h.1 e
  refine ⟨by rw [List.length_append, List.map_append]; exact hown, hb, hv.below hb (Nat.le_refl _), fun y hy => ?_⟩
  rcases List.mem_append.1 hy with h1 | h1
  · exact h.2.2.2 y h1
  · rw [List.mem_singleton.1 h1]; exact hx
theorem own_under {base e : Nat} {w w' : World} {v : Value} {n : Nat} {xs : List Value} (h : w.ownsRow base e 1 v n xs) (k : Below w.heap.size w w') : w'.ownsRow base e 1 v n xs := by
  refine ⟨h.1, ?_⟩
  rcases h.2 with h1 | ⟨g, cap, cur, h1, h2, h3, h4⟩
  · exact .inl h1
  · exact .inr ⟨g, cap, cur, h1, h2, (k.block g (Array.getElem?_eq_some_iff.1 h3).1).trans h3, h4⟩
set_option maxRecDepth 100000 in
set_option maxHeartbeats 4000000 in
theorem chunkJoins_any (v : Value) (xs : List ByteArray) (n : Int) (w : World) (hr : StrRow.Reads w v xs) (hs : ∀ x ∈ xs, x.size ≤ maxLen) (_hl : xs.length ≤ maxLen) : Calls Try.prog 6 #[v, .int .i64 n] w fun e w' => e = .returned (.bool true) ∧ Below w.heap.size w w' := by
  unfold maxLen at hs
  obtain ⟨i9, hi9, hz0, hz1, hz2⟩ := info_parts info9
  obtain ⟨m, hm, hand⟩ := and_small n 16383 (by decide)
  have hand2 : bits .and .i64 n 16383 = (m : Int) := hand
  clear hand
  obtain ⟨va, vc, hv⟩ := hr.form
  subst hv
  have HR := hide hr
  have HS := hide hs
  clear hr hs
  go_enter Try.func6, Try.ntmps6
  go_wp2
  go_loopw [5, 6, 7] (fun vk vall vi wr => ∃ (i T : Nat) (ys : List ByteArray), i ≤ xs.length ∧ (i : Int) ≤ 20 ∧ vi = .int .i64 i ∧ vall = .int .i64 T ∧ ys.length = i ∧ Hid (T = tot ys) ∧ Hid (Kj w xs ys (.slice va xs.length vc) vk wr)) (fun _ _ vi _ => 20 - (intOf vi).toNat)
  case atStart => exact ⟨0, 0, [], Nat.zero_le _, by omega, rfl, rfl, rfl, rfl, World.ownsRow_made w #[] 0 (Nat.le_refl _) (Nat.zero_le _) rfl, (Below.refl _ w).alloc (Nat.le_refl _) _, HR.out.below ((Below.refl _ w).alloc (Nat.le_refl _) _) (Nat.le_refl _), by simp⟩
  case round =>
    obtain ⟨i, T, ys, hi, hi20, rfl, rfl, hyl, HT, HK⟩ := hrel
    obtain ⟨ka, kc, hvk⟩ := own_slice HK.out.1
    subst hvk
    have hT12 : T ≤ 12000 := by have h1 := tot_few ys HK.out.2.2.2; have h2 := HT.out; omega
    by_cases hlt : i < xs.length ∧ (i : Int) < 20
    · obtain ⟨h1, h2⟩ := hlt
      have h1' : (i : Int) < xs.length := by omega
      obtain ⟨b, off, cap, hf, hcap, _⟩ := HR.out.at (fun e => by rw [e] at h1; simp at h1)
      simp only [Value.slice.injEq] at hf
      obtain ⟨rfl, -, rfl⟩ := hf
      have q := HK.out.2.2.1.cell (List.getElem?_eq_getElem h1)
      have hxs := HS.out _ (List.getElem_mem h1)
      generalize xs[i] = x at *
      subst hyl
      by_cases h6 : (600 : Int) < x.size
      · have h6' : (600 : Int) ≤ x.size := by omega
        go_wp2_with (at_builtin; refine wpList_append_own _ rfl _ _ 24 rfl w.heap.size 9 i9 (.string ⟨#[]⟩) 1 16 under24 hi9 hz0 hz1 hz2 rfl (by decide) _ _ _ rfl (HK.out.1.alloc _) ⟨wr.heap.size, 0, none⟩ 1 1 [.string (x.extract 0 600)] rfl rfl (cell_one_new _ _ _) ?a2 ?a3 ?a4 ?a5 ?_)
        case a2 => intro u hu; simp at hu; subst hu; rfl
        case a3 => unfold maxLen; omega
        case a4 => omega
        case a5 => have h1 := HK.out.2.1.size; simp; omega
        intro v' w3 hown hgrow _
        have hx6 : (x.extract 0 600).size = 600 := by rw [ByteArray.size_extract]; omega
        have H3 := hide (Kj.next HK.out (by omega) HR.out hown hgrow)
        have HX := hide (tot_snoc ys (x.extract 0 600))
        clear hown hgrow
        go_wp2
        go_roundw
        case rel => exact ⟨ys.length + 1, T + (x.extract 0 600).size, ys ++ [x.extract 0 600], by omega, by omega, by go_num, by first | rfl | go_num | (simp; omega), by rw [List.length_append]; rfl, by have h1 := HX.out; have h2 := HT.out; show _ = _; omega, H3.out⟩
        case measure => simp [intOf]; omega
      · have h6' : (x.size : Int) ≤ 600 := by omega
        clear h6
        go_wp2_with (at_builtin; refine wpList_append_own _ rfl _ _ 24 rfl w.heap.size 9 i9 (.string ⟨#[]⟩) 1 16 under24 hi9 hz0 hz1 hz2 rfl (by decide) _ _ _ rfl (HK.out.1.alloc _) ⟨wr.heap.size, 0, none⟩ 1 1 [.string (x)] rfl rfl (cell_one_new _ _ _) ?a2 ?a3 ?a4 ?a5 ?_)
        case a2 => intro u hu; simp at hu; subst hu; rfl
        case a3 => unfold maxLen; omega
        case a4 => omega
        case a5 => have h1 := HK.out.2.1.size; simp; omega
        intro v' w3 hown hgrow _
        have hx6 : x.size ≤ 600 := by omega
        have H3 := hide (Kj.next HK.out (by omega) HR.out hown hgrow)
        have HX := hide (tot_snoc ys (x))
        clear hown hgrow
        go_wp2
        go_roundw
        case rel => exact ⟨ys.length + 1, T + (x).size, ys ++ [x], by omega, by omega, by go_num, by first | rfl | go_num | (simp; omega), by rw [List.length_append]; rfl, by have h1 := HX.out; have h2 := HT.out; show _ = _; omega, H3.out⟩
        case measure => simp [intOf]; omega
    · have HTX : Hid (∀ W, Calls Try.prog 19 #[.int .u64 7, .int .i64 m] W fun e w' => (∃ t : ByteArray, t.size = m ∧ e = .returned (.string t)) ∧ Below W.heap.size W w') := fun W => text_any 7 m W (by omega)
      have hlt' : ¬ ((i : Int) < xs.length) ∨ ((i : Int) < xs.length ∧ ¬ ((i : Int) < 20)) := by omega
      clear hlt
      subst hyl
      rcases hlt' with h1 | ⟨h1, h2⟩
      all_goals
        go_wp2_with (first
          | (go_at_call 19; refine (HTX.out _).mono ?_; rintro e w1 ⟨⟨t, ht, rfl⟩, hb⟩; have HB := hide hb; clear hb)
          | (at_builtin; refine wpList_append_own _ rfl _ _ 24 rfl w.heap.size 9 i9 (.string ⟨#[]⟩) 1 16 under24 hi9 hz0 hz1 hz2 rfl (by decide) _ _ _ rfl ((own_under HK.out.1 HB.out).alloc _) ⟨w1.heap.size, 0, none⟩ 1 1 [.string t] rfl rfl (cell_one_new _ _ _) ?a2 ?a3 ?a4 ?a5 ?_))
        case a2 => intro u hu; simp at hu; subst hu; rfl
        case a3 => unfold maxLen; omega
        case a4 => omega
        case a5 => have h1 := HK.out.2.1.size; have h2 := HB.out.size; simp; omega
        intro v' w3 hown hgrow _
        obtain ⟨g, cap, rfl⟩ := ownsRow_succ hown
        have HB3 : Hid (Below w.heap.size w w3) := by
          have hb := HK.out.2.1.trans (HB.out.mono HK.out.2.1.size)
          exact (hb.alloc hb.size _).grown hgrow (hb.alloc hb.size _).size fun k e => own_ge HK.out.1 e
        have HTT : Hid (tot (ys ++ [t]) = T + m) := by have h1 := tot_snoc ys t; have h2 := HT.out; show _ = _; omega
        have HJ := hide (join_any (.slice (some ⟨g, 0, none⟩) (ys.length + 1) cap) (ys ++ [t]) w3 (own_reads (n := ys.length + 1) (base := w.heap.size) (by rw [List.map_append]; exact hown)) (by rw [List.length_append]; simp; omega))
        clear hown hgrow
        have HJS := hide (joined_size (ys ++ [t]))
        have HE : Hid (joinT (ys ++ [t]) = if T + m ≤ 8192 then joined (ys ++ [t]) else ⟨#[]⟩) := by show _ = _; rw [joinT, HTT.out]
        have HF : Hid (joinB (ys ++ [t]) = decide (T + m ≤ 8192)) := by show _ = _; rw [joinB, HTT.out]
        rw [HTT.out] at HJS
        generalize joinT (ys ++ [t]) = R at *
        generalize joinB (ys ++ [t]) = B at *
        generalize joined (ys ++ [t]) = Z at *
        by_cases hT : (T : Int) + m ≤ 8192
        · have hB : B = true := by rw [HF.out]; exact decide_eq_true (by omega)
          have hR : R = Z := by rw [HE.out]; exact if_pos (by omega)
          subst hB hR
          have hsz : R.size = T + m := HJS.out
          go_wp2_with (first
            | (go_at_call 14; refine HJ.out.mono ?_; rintro e w4 ⟨rfl, hb4⟩; have HB4 := hide (HB3.out.trans (hb4.mono HB3.out.size)); clear hb4)
            | (go_at_call 12; refine (awake_any _).mono ?_; rintro e w5 ⟨rfl, hb5⟩; have HB5 := hide (HB4.out.trans (hb5.mono HB4.out.size)); clear hb5))
          go_ret
          exact ⟨rfl, HB5.out⟩
        · have hB : B = false := by rw [HF.out]; exact decide_eq_false (by omega)
          have hR : R = ⟨#[]⟩ := by rw [HE.out]; exact if_neg (by omega)
          subst hB hR
          go_wp2_with (first
            | (go_at_call 14; refine HJ.out.mono ?_; rintro e w4 ⟨rfl, hb4⟩; have HB4 := hide (HB3.out.trans (hb4.mono HB3.out.size)); clear hb4)
            | (go_at_call 12; refine (awake_any _).mono ?_; rintro e w5 ⟨rfl, hb5⟩; have HB5 := hide (HB4.out.trans (hb5.mono HB4.out.size)); clear hb5))
          go_ret
          refine ⟨?_, HB5.out⟩
          show Ending.returned (.bool (!decide ((T : Int) + m ≤ 8192))) = _
          rw [decide_eq_false (by omega)]
          rfl
end Go.Proofs.Ytbmgapboajdcpaa
