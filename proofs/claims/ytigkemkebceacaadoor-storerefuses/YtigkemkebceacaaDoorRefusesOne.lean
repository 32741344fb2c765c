/- Several texts in one: MerkleCheck, StoreKnows. -/
import Derived.Test.YtigkemkebceacaaDoorMerkleTwo
import Derived.Test.YtigkemkebceacaaDoorMerkleFour
import Derived.Test.YtigkemkebceacaaDoorStoreThree
import Derived.Test.YtigkemkebceacaaDoorQuietAll
/- Contracts: may a manifest be? The program's and the document's. -/
namespace Go.Mk
/-- May a manifest be: nought, or the number of its error. -/
def chk (size : Int) (xs : List ByteArray) : Int := if Sized size xs.length ∧ ∀ s ∈ xs, s.size = 32 then 0 else 6
end Go.Mk
namespace Go.Proofs.YtigkemkebceacaaDoor
open Go.RowKit Go.Shelf Go.Wire Go.Mk Go.Chunk
attribute [local go_sem] Oper.semAt_some
theorem check_no (size : Int) (xs : List ByteArray) (v : Value) (w : World) (hr : StrRow.Reads w v xs) (hz : ¬ Sized size xs.length) :
    Calls Tryd.prog 22 #[.agg #[.int .i64 size, v]] w fun e w' => e = .returned (.int .i64 6) ∧ Below w.heap.size w w' := by
  obtain ⟨a, c, rfl⟩ := hr.form
  have hb := (Below.refl _ w).alloc (Nat.le_refl _) (.cells #[.int .i64 size, .slice a xs.length c] 24)
  have hrow : (w.alloc (.cells #[.int .i64 size, .slice a xs.length c] 24)).heap[w.heap.size]? = some (.cells #[.int .i64 size, .slice a xs.length c] 24 (0, 0)) := heap_alloc_new _ _
  have HS := hide (fun w => sized_no size xs.length w (by omega) hz)
  clear hr hz
  go_enter Tryd.func22, Tryd.ntmps22
  go_upto_region 1 with fail
  generalize w.alloc (.cells #[.int .i64 size, .slice a xs.length c] 24) = W at *
  have c0 : W.cell? ⟨w.heap.size, 0, none⟩ = some (.int .i64 size) := by rw [cell_of_row _ _ _ _ _ _ hrow]; rfl
  have c1 : W.cell? ⟨w.heap.size, 1, none⟩ = some (.slice a xs.length c) := by rw [cell_of_row _ _ _ _ _ _ hrow]; rfl
  have HB := hide hb
  clear hb hrow
  go_wp2_with (go_at_call 38; refine (HS.out _).mono ?_; rintro e w2 ⟨rfl, hw⟩; subst hw)
  go_ret
  exact ⟨rfl, HB.out⟩
theorem check_yes (size : Int) (xs : List ByteArray) (v : Value) (w : World) (hr : StrRow.Reads w v xs) (hz : Sized size xs.length) (hx : ∀ s ∈ xs, s.size = 32) :
    Calls Tryd.prog 22 #[.agg #[.int .i64 size, v]] w fun e w' => e = .returned (.int .i64 0) ∧ Below w.heap.size w w' := by
  obtain ⟨a, c, rfl⟩ := hr.form
  have hb := (Below.refl _ w).alloc (Nat.le_refl _) (.cells #[.int .i64 size, .slice a xs.length c] 24)
  have hrow : (w.alloc (.cells #[.int .i64 size, .slice a xs.length c] 24)).heap[w.heap.size]? = some (.cells #[.int .i64 size, .slice a xs.length c] 24 (0, 0)) := heap_alloc_new _ _
  have HS := hide (fun w => sized_yes size xs.length w (by omega) hz)
  have hn : xs.length ≤ 256 := by have := hz.1; omega
  have hn' : (xs.length : Int) ≤ 256 := by omega
  have HR := hide (hr.below hb (Nat.le_refl _))
  have HX := hide hx
  clear hr hx hz
  go_enter Tryd.func22, Tryd.ntmps22
  go_upto_region 1 with fail
  generalize w.alloc (.cells #[.int .i64 size, .slice a xs.length c] 24) = W at *
  have c0 : W.cell? ⟨w.heap.size, 0, none⟩ = some (.int .i64 size) := by rw [cell_of_row _ _ _ _ _ _ hrow]; rfl
  have c1 : W.cell? ⟨w.heap.size, 1, none⟩ = some (.slice a xs.length c) := by rw [cell_of_row _ _ _ _ _ _ hrow]; rfl
  have HB := hide hb
  clear hb hrow
  go_wp2_with (go_at_call 38; refine (HS.out _).mono ?_; rintro e w2 ⟨rfl, hw⟩; subst hw)
  go_loopw [15] (fun vi wr => ∃ j : Nat, j ≤ xs.length ∧ vi = .int .i64 j ∧ Hid (wr = w2)) (fun vi _ => 256 - (intOf vi).toNat)
  case atStart => exact ⟨0, by omega, rfl, rfl⟩
  case round =>
    obtain ⟨j, hj, rfl, HE⟩ := hrel
    have he := HE.out
    subst he
    clear HE
    by_cases hlt : j < xs.length
    · obtain ⟨b, off, cap, hv, hcap, hbl⟩ := HR.out.at (by intro h; rw [h] at hlt; simp at hlt)
      simp only [Value.slice.injEq, true_and] at hv
      obtain ⟨rfl, rfl⟩ := hv
      obtain ⟨x, hx⟩ : ∃ x, xs[j]? = some x := ⟨_, List.getElem?_eq_getElem hlt⟩
      have hss : x.size = 32 := HX.out x (List.mem_of_getElem? hx)
      have hcell := HR.out.cell hx
      have hlt2 : (j : Int) < xs.length := by omega
      clear hx
      go_wp2_with fail
      go_roundw
      case rel => exact ⟨j + 1, by omega, by go_num, trivial⟩
      case measure => simp [intOf]; omega
    · have hlt2 : ¬ ((j : Int) < xs.length) := by omega
      go_wp2_with fail
      go_ret
      exact ⟨rfl, HB.out⟩
theorem check_bad (size : Int) (xs : List ByteArray) (v : Value) (w : World) (hr : StrRow.Reads w v xs) (hz : Sized size xs.length) (hx : ¬ ∀ s ∈ xs, s.size = 32) :
    Calls Tryd.prog 22 #[.agg #[.int .i64 size, v]] w fun e w' => e = .returned (.int .i64 6) ∧ Below w.heap.size w w' := by
  obtain ⟨a, c, rfl⟩ := hr.form
  have hb := (Below.refl _ w).alloc (Nat.le_refl _) (.cells #[.int .i64 size, .slice a xs.length c] 24)
  have hrow : (w.alloc (.cells #[.int .i64 size, .slice a xs.length c] 24)).heap[w.heap.size]? = some (.cells #[.int .i64 size, .slice a xs.length c] 24 (0, 0)) := heap_alloc_new _ _
  have HS := hide (fun w => sized_yes size xs.length w (by omega) hz)
  have hn : xs.length ≤ 256 := by have := hz.1; omega
  have hn' : (xs.length : Int) ≤ 256 := by omega
  have HR := hide (hr.below hb (Nat.le_refl _))
  obtain ⟨q, hq, hq1, hq2⟩ := first_bad xs hx
  have HQ := hide hq2
  clear hr hx hz hq2
  go_enter Tryd.func22, Tryd.ntmps22
  go_upto_region 1 with fail
  generalize w.alloc (.cells #[.int .i64 size, .slice a xs.length c] 24) = W at *
  have c0 : W.cell? ⟨w.heap.size, 0, none⟩ = some (.int .i64 size) := by rw [cell_of_row _ _ _ _ _ _ hrow]; rfl
  have c1 : W.cell? ⟨w.heap.size, 1, none⟩ = some (.slice a xs.length c) := by rw [cell_of_row _ _ _ _ _ _ hrow]; rfl
  have HB := hide hb
  clear hb hrow
  go_wp2_with (go_at_call 38; refine (HS.out _).mono ?_; rintro e w2 ⟨rfl, hw⟩; subst hw)
  go_loopw [15] (fun vi wr => ∃ j : Nat, j ≤ q ∧ vi = .int .i64 j ∧ Hid (wr = w2)) (fun vi _ => 256 - (intOf vi).toNat)
  case atStart => exact ⟨0, by omega, rfl, rfl⟩
  case round =>
    obtain ⟨j, hj, rfl, HE⟩ := hrel
    have he := HE.out
    subst he
    clear HE
    have hlt : j < xs.length := by omega
    obtain ⟨b, off, cap, hv, hcap, hbl⟩ := HR.out.at (by intro h; rw [h] at hlt; simp at hlt)
    simp only [Value.slice.injEq, true_and] at hv
    obtain ⟨rfl, rfl⟩ := hv
    obtain ⟨x, hx⟩ : ∃ x, xs[j]? = some x := ⟨_, List.getElem?_eq_getElem hlt⟩
    have hcell := HR.out.cell hx
    have hlt2 : (j : Int) < xs.length := by omega
    by_cases hjq : j < q
    · have hss : x.size = 32 := HQ.out j x hjq hx
      clear hx hq1
      go_wp2_with fail
      go_roundw
      case rel => exact ⟨j + 1, by omega, by go_num, trivial⟩
      case measure => simp [intOf]; omega
    · have hjq' : j = q := by omega
      subst hjq'
      have hss : ¬ ((x.size : Int) = 32) := fun h => hq1 x hx (by omega)
      clear hx hq1
      go_wp2_with fail
      go_ret
      exact ⟨rfl, HB.out⟩
theorem check_any (size : Int) (xs : List ByteArray) (v : Value) (w : World) (hr : StrRow.Reads w v xs) :
    Calls Tryd.prog 22 #[.agg #[.int .i64 size, v]] w fun e w' => e = .returned (.int .i64 (chk size xs)) ∧ Below w.heap.size w w' := by
  unfold chk
  by_cases hz : Sized size xs.length
  · by_cases hx : ∀ s ∈ xs, s.size = 32
    · rw [if_pos ⟨hz, hx⟩]; exact check_yes size xs v w hr hz hx
    · rw [if_neg (fun h => hx h.2)]; exact check_bad size xs v w hr hz hx
  · rw [if_neg (fun h => hz h.1)]; exact check_no size xs v w hr hz
set_option maxHeartbeats 1000000 in
theorem rcheck_yes (size : Int) (xs : List ByteArray) (v : Value) (w : World) (hr : StrRow.Reads w v xs) (hz : Sized size xs.length) (hx : ∀ s ∈ xs, s.size = 32) :
    Calls Tryd.prog 10 #[.int .i64 size, v] w fun e w' => e = .returned (.int .i64 0) ∧ Below w.heap.size w w' := by
  obtain ⟨a, c, rfl⟩ := hr.form
  have HB := hide (Below.refl w.heap.size w)
  have hn : xs.length ≤ 256 := by have := hz.1; omega
  have hn' : (xs.length : Int) ≤ 256 := by omega
  have HR := hide hr
  have HX := hide hx
  obtain ⟨z1, z2, z3, z4⟩ := hz
  have y0 : (0 : Int) ≤ size := by omega
  have y1 : ((size == 0) : Bool) = ((xs.length : Int) == 0) := by
    by_cases h : size = 0
    · have h2 : (xs.length : Int) = 0 := by omega
      rw [h, h2]
    · have h2 : ¬ (xs.length : Int) = 0 := by omega
      rw [beq_eq_false_iff_ne.2 h, beq_eq_false_iff_ne.2 h2]
  clear hr hx
  go_enter Tryd.func10, Tryd.ntmps10
  go_wp2_with fail
  go_loopw [5] (fun vi wr => ∃ j : Nat, j ≤ xs.length ∧ vi = .int .i64 j ∧ Hid (wr = w)) (fun vi _ => 256 - (intOf vi).toNat)
  case atStart => exact ⟨0, by omega, rfl, rfl⟩
  case round =>
    obtain ⟨j, hj, rfl, HE⟩ := hrel
    have he := HE.out
    subst he
    clear HE
    by_cases hlt : j < xs.length
    · obtain ⟨b, off, cap, hv, hcap, hbl⟩ := HR.out.at (by intro h; rw [h] at hlt; simp at hlt)
      simp only [Value.slice.injEq, true_and] at hv
      obtain ⟨rfl, rfl⟩ := hv
      obtain ⟨x, hx⟩ : ∃ x, xs[j]? = some x := ⟨_, List.getElem?_eq_getElem hlt⟩
      have hss : x.size = 32 := HX.out x (List.mem_of_getElem? hx)
      have hcell := HR.out.cell hx
      have hlt2 : (j : Int) < xs.length := by omega
      clear hx
      go_wp2_with fail
      go_roundw
      case rel => exact ⟨j + 1, by omega, by go_num, trivial⟩
      case measure => simp [intOf]; omega
    · have hlt2 : ¬ ((j : Int) < xs.length) := by omega
      go_wp2_with fail
      go_ret
      exact ⟨rfl, HB.out⟩
set_option maxHeartbeats 1000000 in
theorem rcheck_bad (size : Int) (xs : List ByteArray) (v : Value) (w : World) (hr : StrRow.Reads w v xs) (hz : Sized size xs.length) (hx : ¬ ∀ s ∈ xs, s.size = 32) :
    Calls Tryd.prog 10 #[.int .i64 size, v] w fun e w' => e = .returned (.int .i64 6) ∧ Below w.heap.size w w' := by
  obtain ⟨a, c, rfl⟩ := hr.form
  have HB := hide (Below.refl w.heap.size w)
  have hn : xs.length ≤ 256 := by have := hz.1; omega
  have hn' : (xs.length : Int) ≤ 256 := by omega
  have HR := hide hr
  obtain ⟨q, hq, hq1, hq2⟩ := first_bad xs hx
  have HQ := hide hq2
  obtain ⟨z1, z2, z3, z4⟩ := hz
  have y0 : (0 : Int) ≤ size := by omega
  have y1 : ((size == 0) : Bool) = ((xs.length : Int) == 0) := by
    by_cases h : size = 0
    · have h2 : (xs.length : Int) = 0 := by omega
      rw [h, h2]
    · have h2 : ¬ (xs.length : Int) = 0 := by omega
      rw [beq_eq_false_iff_ne.2 h, beq_eq_false_iff_ne.2 h2]
  clear hr hx hq2
  go_enter Tryd.func10, Tryd.ntmps10
  go_wp2_with fail
  go_loopw [5] (fun vi wr => ∃ j : Nat, j ≤ q ∧ vi = .int .i64 j ∧ Hid (wr = w)) (fun vi _ => 256 - (intOf vi).toNat)
  case atStart => exact ⟨0, by omega, rfl, rfl⟩
  case round =>
    obtain ⟨j, hj, rfl, HE⟩ := hrel
    have he := HE.out
    subst he
    clear HE
    have hlt : j < xs.length := by omega
    obtain ⟨b, off, cap, hv, hcap, hbl⟩ := HR.out.at (by intro h; rw [h] at hlt; simp at hlt)
    simp only [Value.slice.injEq, true_and] at hv
    obtain ⟨rfl, rfl⟩ := hv
    obtain ⟨x, hx⟩ : ∃ x, xs[j]? = some x := ⟨_, List.getElem?_eq_getElem hlt⟩
    have hcell := HR.out.cell hx
    have hlt2 : (j : Int) < xs.length := by omega
    by_cases hjq : j < q
    · have hss : x.size = 32 := HQ.out j x hjq hx
      clear hx hq1
      go_wp2_with fail
      go_roundw
      case rel => exact ⟨j + 1, by omega, by go_num, trivial⟩
      case measure => simp [intOf]; omega
    · have hjq' : j = q := by omega
      subst hjq'
      have hss : ¬ ((x.size : Int) = 32) := fun h => hq1 x hx (by omega)
      clear hx hq1
      go_wp2_with fail
      go_ret
      exact ⟨rfl, HB.out⟩
set_option maxHeartbeats 2000000 in
theorem rcheck_no (size : Int) (xs : List ByteArray) (v : Value) (w : World) (hr : StrRow.Reads w v xs) (hn : xs.length ≤ 1000) (hz : ¬ Sized size xs.length) :
    Calls Tryd.prog 10 #[.int .i64 size, v] w fun e w' => e = .returned (.int .i64 6) ∧ Below w.heap.size w w' := by
  obtain ⟨a, c, rfl⟩ := hr.form
  have HB := hide (Below.refl w.heap.size w)
  have hn' : (xs.length : Int) ≤ 1000 := by omega
  clear hr
  by_cases h1 : 0 ≤ size
  · by_cases h2 : size ≤ 8192
    · by_cases h3 : (xs.length : Int) ≤ 256
      · by_cases h4 : ((size == 0) : Bool) = ((xs.length : Int) == 0)
        · by_cases h5 : (xs.length : Int) ≤ size
          · have h6 : ¬ size ≤ 512 * (xs.length : Int) := fun h => hz ⟨h3, h2, h5, h⟩
            clear hz
            go_enter Tryd.func10, Tryd.ntmps10
            go_wp2_with fail
            go_ret
            exact ⟨rfl, HB.out⟩
          · clear hz
            go_enter Tryd.func10, Tryd.ntmps10
            go_wp2_with fail
            go_ret
            exact ⟨rfl, HB.out⟩
        · have h4' : (((size == 0) : Bool) == ((xs.length : Int) == 0)) = false := beq_eq_false_iff_ne.2 h4
          clear hz h4
          go_enter Tryd.func10, Tryd.ntmps10
          go_wp2_with fail
          go_ret
          exact ⟨rfl, HB.out⟩
      · clear hz
        go_enter Tryd.func10, Tryd.ntmps10
        go_wp2_with fail
        go_ret
        exact ⟨rfl, HB.out⟩
    · clear hz
      go_enter Tryd.func10, Tryd.ntmps10
      go_wp2_with fail
      go_ret
      exact ⟨rfl, HB.out⟩
  · clear hz
    go_enter Tryd.func10, Tryd.ntmps10
    go_wp2_with fail
    go_ret
    exact ⟨rfl, HB.out⟩
theorem rcheck_any (size : Int) (xs : List ByteArray) (v : Value) (w : World) (hr : StrRow.Reads w v xs) (hn : xs.length ≤ 1000) :
    Calls Tryd.prog 10 #[.int .i64 size, v] w fun e w' => e = .returned (.int .i64 (chk size xs)) ∧ Below w.heap.size w w' := by
  unfold chk
  by_cases hz : Sized size xs.length
  · by_cases hx : ∀ s ∈ xs, s.size = 32
    · rw [if_pos ⟨hz, hx⟩]; exact rcheck_yes size xs v w hr hz hx
    · rw [if_neg (fun h => hx h.2)]; exact rcheck_bad size xs v w hr hz hx
  · rw [if_neg (fun h => hz h.1)]; exact rcheck_no size xs v w hr hn hz
end Go.Proofs.YtigkemkebceacaaDoor
/- A manifest known by a store; a file that is too long. -/
namespace Go.Proofs.YtigkemkebceacaaDoor
open Go.RowKit Go.Shelf Go.Wire Go.Mk Go.Chunk Go.MapFun Go.St10
attribute [local go_sem] Oper.semAt_some
theorem chk_two (size : Int) (xs : List ByteArray) : chk size xs = 0 ∨ chk size xs = 6 := by
  unfold chk
  split
  · exact .inl rfl
  · exact .inr rfl
set_option maxRecDepth 100000 in
set_option maxHeartbeats 2000000 in
/-- A store that has no file yet knows a manifest, or refuses it. -/
theorem knowSt_any {base K b : Nat} {q u : Int} {C : ByteArray → Option Pc} (size : Int) (xs : List ByteArray) (v : Value) (w : World) (h : StX Tryd.prog 55 base K b q u C (fun _ => none) w) (hr : StrRow.Reads w v xs) (hn : xs.length ≤ 300)
    (hst : Steps w) (hb0 : 0 < base) (hK : K + 1000 < maxLen) (hu : ∀ s, 0 ≤ (pc C s).u ∧ (pc C s).u ≤ 1000) :
    Calls Tryd.prog 6 #[.pointer (some ⟨b, 0, none⟩), .agg #[.int .i64 size, v]] w fun e w' => (∃ bb, e = .returned (.tuple #[.bool bb, .int .i64 (chk size xs)])) ∧ Trn base b w w' ∧ ∃ K' C' F', K' ≤ K + 301 ∧ (∀ s, 0 ≤ (pc C' s).u ∧ (pc C' s).u ≤ 1300) ∧ StX Tryd.prog 55 base K' b q u C' F' w' := by
  obtain ⟨a, c, rfl⟩ := hr.form
  have hbw : base ≤ w.heap.size := by obtain ⟨_, _, _, h1, h2⟩ := h.cells; omega
  have k1 : Below w.heap.size w (w.alloc (.cells #[.int .i64 size, .slice a xs.length c] 24)) := (Below.refl _ w).alloc (Nat.le_refl _) _
  obtain ⟨W, hW⟩ : ∃ W, W = w.alloc (.cells #[.int .i64 size, .slice a xs.length c] 24) := ⟨_, rfl⟩
  have rW : W.heap[w.heap.size]? = some (.cells #[.int .i64 size, .slice a xs.length c] 24 (0, 0)) := by rw [hW]; exact heap_alloc_new _ _
  rw [← hW] at k1
  have hrW := hr.below k1 (Nat.le_refl _)
  have HC := hide (check_any size xs _ W hrW)
  have H0 := hide (And.intro (h.below k1) (And.intro hrW (And.intro rW (And.intro (hst.kept k1) (And.intro k1 (And.intro hbw (And.intro hb0 (And.intro hK hu))))))))
  clear h hr hst hbw k1 rW hrW hb0 hK hu
  rcases chk_two size xs with hk | hk
  · rw [hk] at HC ⊢
    have HZ : Hid (Sized size xs.length ∧ ∀ s ∈ xs, s.size = 32) := by
      show _ ∧ _
      unfold chk at hk
      split at hk
      · assumption
      · cases hk
    clear hk
    obtain ⟨n, rfl⟩ : ∃ n : Nat, size = n := ⟨size.toNat, by have := HZ.out.1; omega⟩
    obtain ⟨FF, hFF⟩ : ∃ FF, FF = named n xs.length (root xs) := ⟨_, rfl⟩
    have hFs : FF.size ≤ maxLen := by rw [hFF]; exact Nat.le_of_lt (show (tag _ _).size < _ by rw [tag_size]; decide)
    have HFI : Hid (∀ U, Below W.heap.size W U → Calls Tryd.prog 24 #[.agg #[.int .i64 n, .slice a xs.length c]] U fun e w' => e = .returned (.string FF) ∧ Below U.heap.size U w') := fun U hU => by
      rw [hFF]
      exact file_any n xs _ U (by have := HZ.out.1; omega) (H0.out.2.1.below hU (Nat.le_refl _)) (by have := HZ.out.1; omega) HZ.out.2 (H0.out.2.2.2.1.kept hU)
    have HKN : Hid (∀ U, Below W.heap.size W U → Calls Tryd.prog 23 #[.pointer (some ⟨b, 0, none⟩), .string FF, .agg #[.int .i64 n, .slice a xs.length c]] U fun e w' => e = .returned (.bool true) ∧ ∃ mn : Mn, mn.size = n ∧ StrRow.Reads w' mn.sl xs ∧ StX Tryd.prog 55 base (K + 1 + xs.length) b q u (usedAll C xs) (known (fun _ => none) FF mn) w' ∧ Trn base b U w') := fun U hU =>
      know_any FF n _ xs U (H0.out.1.below hU) (H0.out.2.1.below hU (Nat.le_refl _)) (by omega) (fun s hs => by rw [HZ.out.2 s hs]; decide) rfl hFs (by have := H0.out.2.2.2.2.2.2.2.1; omega) (fun s => by have := H0.out.2.2.2.2.2.2.2.2 s; omega)
    clear hFF hFs
    go_enter Tryd.func6, Tryd.ntmps6
    go_upto_region 3 with fail
    rw [← hW]
    have HWW := hide hW
    obtain ⟨x0, x1, -, -⟩ := two_cells H0.out.2.2.1
    clear hW
    go_upto_region 6 with (go_at_call 22; refine HC.out.mono ?_; rintro e w1 ⟨rfl, hb1⟩; have H1 := hide hb1; clear hb1)
    have hR1 : w1.heap[w.heap.size]? = some (.cells #[.int .i64 n, .slice a xs.length c] 24 (0, 0)) := (H1.out.block _ (Array.getElem?_eq_some_iff.1 H0.out.2.2.1).1).trans H0.out.2.2.1
    have HF1 := hide (fun (U : World) (h : Below w1.heap.size w1 U) => HFI.out U (H1.out.trans (h.mono H1.out.size)))
    have HK1 := hide (fun (U : World) (h : Below w1.heap.size w1 U) => HKN.out U (H1.out.trans (h.mono H1.out.size)))
    have HR1 := hide hR1
    clear hR1 HFI HKN HC x0 x1
    refine QuietCalls.tail 4 (by kernel_rfl) (by kernel_rfl) ?_
    simp only [List.take_succ_cons, List.take_zero, List.drop_succ_cons, List.drop_zero]
    first | go_big_quiet_step (fail) | quiet_step (fail)
    refine QuietCalls.load rfl 24 _ rfl _ rfl _ _ _ _ HR1.out Tryd.underlying24 rfl infoMan ?_; simp only [Act.put, List.setIfInBounds_toArray, List.set_cons_succ, List.set_cons_zero]
    refine QuietCalls.call1 rfl rfl Tryd.call24 (fun w' hb => HF1.out w' (by exact hb)) rfl ?_; simp only [Act.put, List.setIfInBounds_toArray, List.set_cons_succ, List.set_cons_zero]
    refine QuietCalls.load rfl 24 _ rfl _ rfl _ _ _ _ HR1.out Tryd.underlying24 rfl infoMan ?_; simp only [Act.put, List.setIfInBounds_toArray, List.set_cons_succ, List.set_cons_zero]
    refine wpQuiet_nil ?_
    intro w2 hb2
    have H2 := hide hb2
    clear hb2
    go_wp2_with (go_at_call 23; refine (HK1.out _ H2.out).mono ?_; rintro e w3 ⟨rfl, mn, -, -, hs3, ht3⟩; have H3 := hide (And.intro hs3 ht3); clear hs3 ht3)
    go_ret2
    refine ⟨⟨_, rfl⟩, ?_, K + 1 + xs.length, _, _, by omega, fun s => ?_, H3.out.1⟩
    · have z1 := H0.out.2.2.2.2.1
      have z2 := z1.trans (H1.out.mono z1.size)
      have z3 := z2.trans (H2.out.mono z2.size)
      exact (Trn.of_below z3 H0.out.2.2.2.2.2.1).trans H3.out.2
    · have g1 := usedAll_u xs C s
      have g2 := H0.out.2.2.2.2.2.2.2.2 s
      omega
  · rw [hk] at HC ⊢
    clear hk
    go_enter Tryd.func6, Tryd.ntmps6
    go_upto_region 3 with fail
    rw [← hW]
    have HWW := hide hW
    obtain ⟨x0, x1, -, -⟩ := two_cells H0.out.2.2.1
    clear hW
    go_wp2_with (go_at_call 22; refine HC.out.mono ?_; rintro e w1 ⟨rfl, hb1⟩; have H1 := hide hb1; clear hb1)
    go_ret2
    refine ⟨⟨_, rfl⟩, ?_, K, C, _, by omega, fun s => ?_, H0.out.1.below H1.out⟩
    · have z1 := H0.out.2.2.2.2.1
      exact Trn.of_below (z1.trans (H1.out.mono z1.size)) H0.out.2.2.2.2.2.1
    · have g2 := H0.out.2.2.2.2.2.2.2.2 s
      omega
set_option maxRecDepth 100000 in
set_option maxHeartbeats 1000000 in
theorem of_many (s : ByteArray) (w : World) (hs : 8192 < s.size) :
    Calls Tryd.prog 25 #[.string s] w fun e w' => e = .returned (.tuple #[.agg #[.int .i64 0, .slice none 0 0], .int .i64 3]) ∧ Below w.heap.size w w' := by
  have hs' : (8192 : Int) < s.size := by omega
  have hb := (Below.refl _ w).alloc (Nat.le_refl _) (.cells #[.int .i64 0, .slice none 0 0] 24)
  have hr : (w.alloc (.cells #[.int .i64 0, .slice none 0 0] 24)).heap[w.heap.size]? = some (.cells #[.int .i64 0, .slice none 0 0] 24 (0, 0)) := heap_alloc_new _ _
  have HB := hide (And.intro hb hr)
  clear hb hr
  refine (callsIn_wide (n := 9)).1 ?_
  refine callsIn_of_wp_marks Tryd.func25 rfl trivial ?_ rfl
  simp only [Tryd.ntmps25, List.size_toArray, List.length_cons, List.length_nil, Nat.reduceAdd, Nat.reduceSub, Array.replicate_succ, Array.replicate_zero, List.push_toArray, List.append_toArray, List.nil_append, List.cons_append]
  gi_wp2_with (fail)
  exact ⟨_, results_cell2_row Tryd.results25 _ _ w.heap.size _ _ (0, 0) _ rfl HB.out.2 Tryd.underlying24 rfl infoMan, rfl, HB.out.1⟩
set_option maxRecDepth 100000 in
theorem addSt_many (b : Nat) (s : ByteArray) (w : World) (hs : 8192 < s.size) :
    Calls Tryd.prog 7 #[.pointer (some ⟨b, 0, none⟩), .string s] w fun e w' => e = .returned (.tuple #[.string ⟨#[]⟩, .int .i64 3]) ∧ Below w.heap.size w w' := by
  have HO := hide (of_many s w hs)
  go_enter Tryd.func7, Tryd.ntmps7
  go_wp2_with (go_at_call 25; refine HO.out.mono ?_; rintro e w1 ⟨rfl, hb1⟩; have H1 := hide hb1; clear hb1)
  go_ret2
  exact ⟨rfl, H1.out.alloc H1.out.size _⟩
end Go.Proofs.YtigkemkebceacaaDoor
