/- Contracts: may a manifest be? The program's and the document's. -/
import Derived.Test.YtoopaeahhbkncaaDoorMerkleProve
import Derived.Test.YtoopaeahhbkncaaDoorMerkleOfMem
namespace Go.Mk
/-- May a manifest be: nought, or the number of its error. -/
def chk (size : Int) (xs : List ByteArray) : Int := if Sized size xs.length ∧ ∀ s ∈ xs, s.size = 32 then 0 else 6
end Go.Mk
namespace Go.Proofs.YtoopaeahhbkncaaDoor
open Go.RowKit Go.Shelf Go.Wire Go.Mk Go.Chunk
attribute [local go_sem] Oper.semAt_some
theorem check_no (size : Int) (xs : List ByteArray) (v : Value) (w : World) (hr : StrRow.Reads w v xs) (hz : ¬ Sized size xs.length) :
    Calls Tryd.prog 17 #[.agg #[.int .i64 size, v]] w fun e w' => e = .returned (.int .i64 6) ∧ Below w.heap.size w w' := by
  obtain ⟨a, c, rfl⟩ := hr.form
  have hb := (Below.refl _ w).alloc (Nat.le_refl _) (.cells #[.int .i64 size, .slice a xs.length c] 26)
  have hrow : (w.alloc (.cells #[.int .i64 size, .slice a xs.length c] 26)).heap[w.heap.size]? = some (.cells #[.int .i64 size, .slice a xs.length c] 26 (0, 0)) := heap_alloc_new _ _
  have HS := hide (fun w => sized_no size xs.length w (by omega) hz)
  clear hr hz
  go_enter Tryd.func17, Tryd.ntmps17
  go_upto_region 1 with fail
  generalize w.alloc (.cells #[.int .i64 size, .slice a xs.length c] 26) = W at *
  have c0 : W.cell? ⟨w.heap.size, 0, none⟩ = some (.int .i64 size) := by rw [cell_of_row _ _ _ _ _ _ hrow]; rfl
  have c1 : W.cell? ⟨w.heap.size, 1, none⟩ = some (.slice a xs.length c) := by rw [cell_of_row _ _ _ _ _ _ hrow]; rfl
  have HB := hide hb
  clear hb hrow
  go_wp2_with (go_at_call 47; refine (HS.out _).mono ?_; rintro e w2 ⟨rfl, hw⟩; subst hw)
  go_ret
  exact ⟨rfl, HB.out⟩
theorem check_yes (size : Int) (xs : List ByteArray) (v : Value) (w : World) (hr : StrRow.Reads w v xs) (hz : Sized size xs.length) (hx : ∀ s ∈ xs, s.size = 32) :
    Calls Tryd.prog 17 #[.agg #[.int .i64 size, v]] w fun e w' => e = .returned (.int .i64 0) ∧ Below w.heap.size w w' := by
  obtain ⟨a, c, rfl⟩ := hr.form
  have hb := (Below.refl _ w).alloc (Nat.le_refl _) (.cells #[.int .i64 size, .slice a xs.length c] 26)
  have hrow : (w.alloc (.cells #[.int .i64 size, .slice a xs.length c] 26)).heap[w.heap.size]? = some (.cells #[.int .i64 size, .slice a xs.length c] 26 (0, 0)) := heap_alloc_new _ _
  have HS := hide (fun w => sized_yes size xs.length w (by omega) hz)
  have hn : xs.length ≤ 256 := by have := hz.1; omega
  have hn' : (xs.length : Int) ≤ 256 := by omega
  have HR := hide (hr.below hb (Nat.le_refl _))
  have HX := hide hx
  clear hr hx hz
  go_enter Tryd.func17, Tryd.ntmps17
  go_upto_region 1 with fail
  generalize w.alloc (.cells #[.int .i64 size, .slice a xs.length c] 26) = W at *
  have c0 : W.cell? ⟨w.heap.size, 0, none⟩ = some (.int .i64 size) := by rw [cell_of_row _ _ _ _ _ _ hrow]; rfl
  have c1 : W.cell? ⟨w.heap.size, 1, none⟩ = some (.slice a xs.length c) := by rw [cell_of_row _ _ _ _ _ _ hrow]; rfl
  have HB := hide hb
  clear hb hrow
  go_wp2_with (go_at_call 47; refine (HS.out _).mono ?_; rintro e w2 ⟨rfl, hw⟩; subst hw)
  go_loopw [15] (fun vi wr => ∃ j : Nat, j ≤ xs.length ∧ vi = .int .i64 j ∧ Hid (wr = w2)) (fun vi _ => 256 - (intOf vi).toNat)
  case atStart => exact ⟨0, by omega, rfl, rfl⟩
  case round =>
    obtain ⟨j, hj, rfl, HE⟩ := hrel
    have he := HE.out
    subst he
    clear HE
    by_cases hlt : j < xs.length
    · obtain ⟨b, off, cap, hv, hcap, hbl⟩ := HR.out.at (by intro h; rw [h] at hlt; simp at hlt)
      simp only [Value.slice.injEq, true_and] at hv
      obtain ⟨rfl, rfl⟩ := hv
      obtain ⟨x, hx⟩ : ∃ x, xs[j]? = some x := ⟨_, List.getElem?_eq_getElem hlt⟩
      have hss : x.size = 32 := HX.out x (List.mem_of_getElem? hx)
      have hcell := HR.out.cell hx
      have hlt2 : (j : Int) < xs.length := by omega
      clear hx
      go_wp2_with fail
      go_roundw
      case rel => exact ⟨j + 1, by omega, by go_num, trivial⟩
      case measure => simp [intOf]; omega
    · have hlt2 : ¬ ((j : Int) < xs.length) := by omega
      go_wp2_with fail
      go_ret
      exact ⟨rfl, HB.out⟩
theorem check_bad (size : Int) (xs : List ByteArray) (v : Value) (w : World) (hr : StrRow.Reads w v xs) (hz : Sized size xs.length) (hx : ¬ ∀ s ∈ xs, s.size = 32) :
    Calls Tryd.prog 17 #[.agg #[.int .i64 size, v]] w fun e w' => e = .returned (.int .i64 6) ∧ Below w.heap.size w w' := by
  obtain ⟨a, c, rfl⟩ := hr.form
  have hb := (Below.refl _ w).alloc (Nat.le_refl _) (.cells #[.int .i64 size, .slice a xs.length c] 26)
  have hrow : (w.alloc (.cells #[.int .i64 size, .slice a xs.length c] 26)).heap[w.heap.size]? = some (.cells #[.int .i64 size, .slice a xs.length c] 26 (0, 0)) := heap_alloc_new _ _
  have HS := hide (fun w => sized_yes size xs.length w (by omega) hz)
  have hn : xs.length ≤ 256 := by have := hz.1; omega
  have hn' : (xs.length : Int) ≤ 256 := by omega
  have HR := hide (hr.below hb (Nat.le_refl _))
  obtain ⟨q, hq, hq1, hq2⟩ := first_bad xs hx
  have HQ := hide hq2
  clear hr hx hz hq2
  go_enter Tryd.func17, Tryd.ntmps17
  go_upto_region 1 with fail
  generalize w.alloc (.cells #[.int .i64 size, .slice a xs.length c] 26) = W at *
  have c0 : W.cell? ⟨w.heap.size, 0, none⟩ = some (.int .i64 size) := by rw [cell_of_row _ _ _ _ _ _ hrow]; rfl
  have c1 : W.cell? ⟨w.heap.size, 1, none⟩ = some (.slice a xs.length c) := by rw [cell_of_row _ _ _ _ _ _ hrow]; rfl
  have HB := hide hb
  clear hb hrow
  go_wp2_with (go_at_call 47; refine (HS.out _).mono ?_; rintro e w2 ⟨rfl, hw⟩; subst hw)
  go_loopw [15] (fun vi wr => ∃ j : Nat, j ≤ q ∧ vi = .int .i64 j ∧ Hid (wr = w2)) (fun vi _ => 256 - (intOf vi).toNat)
  case atStart => exact ⟨0, by omega, rfl, rfl⟩
  case round =>
    obtain ⟨j, hj, rfl, HE⟩ := hrel
    have he := HE.out
    subst he
    clear HE
    have hlt : j < xs.length := by omega
    obtain ⟨b, off, cap, hv, hcap, hbl⟩ := HR.out.at (by intro h; rw [h] at hlt; simp at hlt)
    simp only [Value.slice.injEq, true_and] at hv
    obtain ⟨rfl, rfl⟩ := hv
    obtain ⟨x, hx⟩ : ∃ x, xs[j]? = some x := ⟨_, List.getElem?_eq_getElem hlt⟩
    have hcell := HR.out.cell hx
    have hlt2 : (j : Int) < xs.length := by omega
    by_cases hjq : j < q
    · have hss : x.size = 32 := HQ.out j x hjq hx
      clear hx hq1
      go_wp2_with fail
      go_roundw
      case rel => exact ⟨j + 1, by omega, by go_num, trivial⟩
      case measure => simp [intOf]; omega
    · have hjq' : j = q := by omega
      subst hjq'
      have hss : ¬ ((x.size : Int) = 32) := fun h => hq1 x hx (by omega)
      clear hx hq1
      go_wp2_with fail
      go_ret
      exact ⟨rfl, HB.out⟩
theorem check_any (size : Int) (xs : List ByteArray) (v : Value) (w : World) (hr : StrRow.Reads w v xs) :
    Calls Tryd.prog 17 #[.agg #[.int .i64 size, v]] w fun e w' => e = .returned (.int .i64 (chk size xs)) ∧ Below w.heap.size w w' := by
  unfold chk
  by_cases hz : Sized size xs.length
  · by_cases hx : ∀ s ∈ xs, s.size = 32
    · rw [if_pos ⟨hz, hx⟩]; exact check_yes size xs v w hr hz hx
    · rw [if_neg (fun h => hx h.2)]; exact check_bad size xs v w hr hz hx
  · rw [if_neg (fun h => hz h.1)]; exact check_no size xs v w hr hz
set_option maxHeartbeats 1000000 in
theorem rcheck_yes (size : Int) (xs : List ByteArray) (v : Value) (w : World) (hr : StrRow.Reads w v xs) (hz : Sized size xs.length) (hx : ∀ s ∈ xs, s.size = 32) :
    Calls Tryd.prog 21 #[.int .i64 size, v] w fun e w' => e = .returned (.int .i64 0) ∧ Below w.heap.size w w' := by
  obtain ⟨a, c, rfl⟩ := hr.form
  have HB := hide (Below.refl w.heap.size w)
  have hn : xs.length ≤ 256 := by have := hz.1; omega
  have hn' : (xs.length : Int) ≤ 256 := by omega
  have HR := hide hr
  have HX := hide hx
  obtain ⟨z1, z2, z3, z4⟩ := hz
  have y0 : (0 : Int) ≤ size := by omega
  have y1 : ((size == 0) : Bool) = ((xs.length : Int) == 0) := by
    by_cases h : size = 0
    · have h2 : (xs.length : Int) = 0 := by omega
      rw [h, h2]
    · have h2 : ¬ (xs.length : Int) = 0 := by omega
      rw [beq_eq_false_iff_ne.2 h, beq_eq_false_iff_ne.2 h2]
  clear hr hx
  go_enter Tryd.func21, Tryd.ntmps21
  go_wp2_with fail
  go_loopw [5] (fun vi wr => ∃ j : Nat, j ≤ xs.length ∧ vi = .int .i64 j ∧ Hid (wr = w)) (fun vi _ => 256 - (intOf vi).toNat)
  case atStart => exact ⟨0, by omega, rfl, rfl⟩
  case round =>
    obtain ⟨j, hj, rfl, HE⟩ := hrel
    have he := HE.out
    subst he
    clear HE
    by_cases hlt : j < xs.length
    · obtain ⟨b, off, cap, hv, hcap, hbl⟩ := HR.out.at (by intro h; rw [h] at hlt; simp at hlt)
      simp only [Value.slice.injEq, true_and] at hv
      obtain ⟨rfl, rfl⟩ := hv
      obtain ⟨x, hx⟩ : ∃ x, xs[j]? = some x := ⟨_, List.getElem?_eq_getElem hlt⟩
      have hss : x.size = 32 := HX.out x (List.mem_of_getElem? hx)
      have hcell := HR.out.cell hx
      have hlt2 : (j : Int) < xs.length := by omega
      clear hx
      go_wp2_with fail
      go_roundw
      case rel => exact ⟨j + 1, by omega, by go_num, trivial⟩
      case measure => simp [intOf]; omega
    · have hlt2 : ¬ ((j : Int) < xs.length) := by omega
      go_wp2_with fail
      go_ret
      exact ⟨rfl, HB.out⟩
set_option maxHeartbeats 1000000 in
theorem rcheck_bad (size : Int) (xs : List ByteArray) (v : Value) (w : World) (hr : StrRow.Reads w v xs) (hz : Sized size xs.length) (hx : ¬ ∀ s ∈ xs, s.size = 32) :
    Calls Tryd.prog 21 #[.int .i64 size, v] w fun e w' => e = .returned (.int .i64 6) ∧ Below w.heap.size w w' := by
  obtain ⟨a, c, rfl⟩ := hr.form
  have HB := hide (Below.refl w.heap.size w)
  have hn : xs.length ≤ 256 := by have := hz.1; omega
  have hn' : (xs.length : Int) ≤ 256 := by omega
  have HR := hide hr
  obtain ⟨q, hq, hq1, hq2⟩ := first_bad xs hx
  have HQ := hide hq2
  obtain ⟨z1, z2, z3, z4⟩ := hz
  have y0 : (0 : Int) ≤ size := by omega
  have y1 : ((size == 0) : Bool) = ((xs.length : Int) == 0) := by
    by_cases h : size = 0
    · have h2 : (xs.length : Int) = 0 := by omega
      rw [h, h2]
    · have h2 : ¬ (xs.length : Int) = 0 := by omega
      rw [beq_eq_false_iff_ne.2 h, beq_eq_false_iff_ne.2 h2]
  clear hr hx hq2
  go_enter Tryd.func21, Tryd.ntmps21
  go_wp2_with fail
  go_loopw [5] (fun vi wr => ∃ j : Nat, j ≤ q ∧ vi = .int .i64 j ∧ Hid (wr = w)) (fun vi _ => 256 - (intOf vi).toNat)
  case atStart => exact ⟨0, by omega, rfl, rfl⟩
  case round =>
    obtain ⟨j, hj, rfl, HE⟩ := hrel
    have he := HE.out
    subst he
    clear HE
    have hlt : j < xs.length := by omega
    obtain ⟨b, off, cap, hv, hcap, hbl⟩ := HR.out.at (by intro h; rw [h] at hlt; simp at hlt)
    simp only [Value.slice.injEq, true_and] at hv
    obtain ⟨rfl, rfl⟩ := hv
    obtain ⟨x, hx⟩ : ∃ x, xs[j]? = some x := ⟨_, List.getElem?_eq_getElem hlt⟩
    have hcell := HR.out.cell hx
    have hlt2 : (j : Int) < xs.length := by omega
    by_cases hjq : j < q
    · have hss : x.size = 32 := HQ.out j x hjq hx
      clear hx hq1
      go_wp2_with fail
      go_roundw
      case rel => exact ⟨j + 1, by omega, by go_num, trivial⟩
      case measure => simp [intOf]; omega
    · have hjq' : j = q := by omega
      subst hjq'
      have hss : ¬ ((x.size : Int) = 32) := fun h => hq1 x hx (by omega)
      clear hx hq1
      go_wp2_with fail
      go_ret
      exact ⟨rfl, HB.out⟩
set_option maxHeartbeats 2000000 in
theorem rcheck_no (size : Int) (xs : List ByteArray) (v : Value) (w : World) (hr : StrRow.Reads w v xs) (hn : xs.length ≤ 1000) (hz : ¬ Sized size xs.length) :
    Calls Tryd.prog 21 #[.int .i64 size, v] w fun e w' => e = .returned (.int .i64 6) ∧ Below w.heap.size w w' := by
  obtain ⟨a, c, rfl⟩ := hr.form
  have HB := hide (Below.refl w.heap.size w)
  have hn' : (xs.length : Int) ≤ 1000 := by omega
  clear hr
  by_cases h1 : 0 ≤ size
  · by_cases h2 : size ≤ 8192
    · by_cases h3 : (xs.length : Int) ≤ 256
      · by_cases h4 : ((size == 0) : Bool) = ((xs.length : Int) == 0)
        · by_cases h5 : (xs.length : Int) ≤ size
          · have h6 : ¬ size ≤ 512 * (xs.length : Int) := fun h => hz ⟨h3, h2, h5, h⟩
            clear hz
            go_enter Tryd.func21, Tryd.ntmps21
            go_wp2_with fail
            go_ret
            exact ⟨rfl, HB.out⟩
          · clear hz
            go_enter Tryd.func21, Tryd.ntmps21
            go_wp2_with fail
            go_ret
            exact ⟨rfl, HB.out⟩
        · have h4' : (((size == 0) : Bool) == ((xs.length : Int) == 0)) = false := beq_eq_false_iff_ne.2 h4
          clear hz h4
          go_enter Tryd.func21, Tryd.ntmps21
          go_wp2_with fail
          go_ret
          exact ⟨rfl, HB.out⟩
      · clear hz
        go_enter Tryd.func21, Tryd.ntmps21
        go_wp2_with fail
        go_ret
        exact ⟨rfl, HB.out⟩
    · clear hz
      go_enter Tryd.func21, Tryd.ntmps21
      go_wp2_with fail
      go_ret
      exact ⟨rfl, HB.out⟩
  · clear hz
    go_enter Tryd.func21, Tryd.ntmps21
    go_wp2_with fail
    go_ret
    exact ⟨rfl, HB.out⟩
theorem rcheck_any (size : Int) (xs : List ByteArray) (v : Value) (w : World) (hr : StrRow.Reads w v xs) (hn : xs.length ≤ 1000) :
    Calls Tryd.prog 21 #[.int .i64 size, v] w fun e w' => e = .returned (.int .i64 (chk size xs)) ∧ Below w.heap.size w w' := by
  unfold chk
  by_cases hz : Sized size xs.length
  · by_cases hx : ∀ s ∈ xs, s.size = 32
    · rw [if_pos ⟨hz, hx⟩]; exact rcheck_yes size xs v w hr hz hx
    · rw [if_neg (fun h => hx h.2)]; exact rcheck_bad size xs v w hr hz hx
  · rw [if_neg (fun h => hz h.1)]; exact rcheck_no size xs v w hr hn hz
end Go.Proofs.YtoopaeahhbkncaaDoor
