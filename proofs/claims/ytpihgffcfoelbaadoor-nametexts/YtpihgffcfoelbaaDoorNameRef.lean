/- Contracts of the document's: was a name assigned, small; a number's digits. -/
import Derived.Test.YtpihgffcfoelbaaDoorNameAwake
import Derived.Test.YtpihgffcfoelbaaDoorRegionSteps
namespace Go.Names
/-- The texts of a row, as lists of bytes. -/
def txts (xs : List ByteArray) : List Bs := xs.map fun x => x.data.toList
def usedB (xs : List ByteArray) (s : ByteArray) : Bool := decide (fold s.data.toList ∈ (txts xs).map fold)
theorem used_yes {xs : List ByteArray} {s x : ByteArray} {j : Nat} (h : xs[j]? = some x) (he : fold x.data.toList = fold s.data.toList) : usedB xs s = true := by
  unfold usedB txts
  rw [decide_eq_true_iff, ← he]
  exact List.mem_map.2 ⟨_, List.mem_map.2 ⟨x, List.mem_of_getElem? h, rfl⟩, rfl⟩
theorem used_no {xs : List ByteArray} {s : ByteArray} (h : ∀ (j : Nat) x, xs[j]? = some x → fold x.data.toList ≠ fold s.data.toList) : usedB xs s = false := by
  unfold usedB txts
  rw [decide_eq_false_iff_not]
  intro hm
  obtain ⟨y, hy, he⟩ := List.mem_map.1 hm
  obtain ⟨x, hx, rfl⟩ := List.mem_map.1 hy
  obtain ⟨j, hj⟩ := List.getElem?_of_mem hx
  exact h j x hj he
theorem ba_eq {a b : Bs} (h : (⟨a.toArray⟩ : ByteArray) = ⟨b.toArray⟩) : a = b := by
  have := congrArg (fun z : ByteArray => z.data.toList) h
  simpa using this
end Go.Names
namespace Go.Proofs.YtpihgffcfoelbaaDoor
open Go.RowKit Go.Names
set_option maxRecDepth 100000 in
set_option maxHeartbeats 1000000 in
theorem rused_any (v : Value) (xs : List ByteArray) (s : ByteArray) (w : World) (h : StrRow.Reads w v xs) (hx : ∀ x ∈ xs, x.size ≤ 1000) (hs : s.size ≤ 1000) (hl : xs.length ≤ 1000) :
    Calls Tryd.prog 27 #[v, .string s] w fun e w' => e = .returned (.bool (usedB xs s)) ∧ Below w.heap.size w w' := by
  obtain ⟨a, c, rfl⟩ := h.form
  have H := hide h
  have HX := hide hx
  clear h hx
  generalize hR : usedB xs s = R
  replace hR := hide hR
  obtain ⟨Z, hZ⟩ : ∃ Z : ByteArray, Z = ⟨(fold s.data.toList).toArray⟩ := ⟨_, rfl⟩
  have HZ := hide (fun w1 => rfold_any s w1 (by omega))
  rw [← hZ] at HZ
  replace hZ := hide hZ
  go_enter Tryd.func27, Tryd.ntmps27
  go_wp2
  go_loopw [5] (fun vi wr => ∃ i : Nat, i ≤ xs.length ∧ vi = .int .i64 i ∧ Hid (Below w.heap.size w wr ∧ ∀ (j : Nat) x, j < i → xs[j]? = some x → fold x.data.toList ≠ fold s.data.toList)) (fun vi _ => 2000 - (intOf vi).toNat)
  case atStart => exact ⟨0, Nat.zero_le _, rfl, Below.refl _ _, fun j x hj => absurd hj (Nat.not_lt_zero _)⟩
  case round =>
    obtain ⟨i, hi, rfl, HH⟩ := hrel
    by_cases hlt : i < xs.length
    · have hlt' : (i : Int) < xs.length := by omega
      obtain ⟨x, hxi⟩ : ∃ x, xs[i]? = some x := ⟨_, List.getElem?_eq_getElem hlt⟩
      have hxs := HX.out x (List.mem_of_getElem? hxi)
      have hR2 := H.out.below HH.out.1 (Nat.le_refl _)
      obtain ⟨b, off, cp, hvv, hcp, hb⟩ := hR2.at (fun e => by subst e; simp at hlt)
      cases hvv
      have hcell := hR2.cell hxi
      have hcp' : (xs.length : Int) ≤ c := by omega
      clear hR2 hb
      obtain ⟨Y, hY⟩ : ∃ Y : ByteArray, Y = ⟨(fold x.data.toList).toArray⟩ := ⟨_, rfl⟩
      have HY := hide (fun w1 => rfold_any x w1 (by omega))
      rw [← hY] at HY
      by_cases he : fold x.data.toList = fold s.data.toList
      · have hYZ : Y = Z := by rw [hY, hZ.out, he]
        have hu := hide (used_yes hxi he)
        subst hYZ
        clear hY he
        go_wp2_with (first
          | (go_at_call 14; refine (HY.out _).mono ?_; rintro e w1 ⟨rfl, k1⟩; clear HY)
          | (go_at_call 14; refine (HZ.out _).mono ?_; rintro e w2 ⟨rfl, k2⟩; clear HZ))
        go_ret
        exact ⟨by rw [← hR.out, hu.out]; rfl, HH.out.1.trans ((k1.trans (k2.mono k1.size)).mono HH.out.1.size)⟩
      · have hYZ : Y ≠ Z := by rw [hY, hZ.out]; exact fun e => he (ba_eq e)
        have hyz1 : (Y.toList == Z.toList) = false := by
          rw [beq_eq_false_iff_ne]
          intro e
          rw [ByteArray.toList_eq, ByteArray.toList_eq] at e
          exact hYZ (ByteArray.ext (Array.toList_inj.1 e))
        have hyz2 : ¬ Y.toList = Z.toList := by simpa using hyz1
        replace he := hide he
        replace hY := hide hY
        go_wp2_with (first
          | (go_at_call 14; refine (HY.out _).mono ?_; rintro e w1 ⟨rfl, k1⟩; clear HY)
          | (go_at_call 14; refine (HZ.out _).mono ?_; rintro e w2 ⟨rfl, k2⟩; clear HZ))
        go_roundw
        case rel =>
          refine ⟨i + 1, by omega, by go_num, HH.out.1.trans ((k1.trans (k2.mono k1.size)).mono HH.out.1.size), fun j y hj hy => ?_⟩
          by_cases e : j = i
          · subst e
            rw [hxi] at hy
            cases hy
            exact he.out
          · exact HH.out.2 j y (by omega) hy
        case measure => simp [intOf]; omega
    · have hlt' : ¬ (i : Int) < xs.length := by omega
      go_wp2
      go_ret
      exact ⟨by rw [← hR.out, used_no (fun j y hy => HH.out.2 j y (by have := (List.getElem?_eq_some_iff.1 hy).1; omega) hy)]; rfl, HH.out.1⟩
set_option maxRecDepth 100000 in
set_option maxHeartbeats 1000000 in
theorem rdigits_small (n : Nat) (w : World) (hn : n < 10) :
    Calls Tryd.prog 28 #[.int .i64 n] w fun e w' => e = .returned (.string ⟨(dig n).toArray⟩) ∧ Below w.heap.size w w' := by
  rw [dig_small hn]
  have hn' : (n : Int) < 10 := by omega
  have hc : (.int .u8 ((48 + (n : Int))) : Value) = Sha.byteV (UInt8.ofNat (48 + n)) := by
    show _ = Value.int .u8 _
    congr 1
    rw [UInt8.toNat_ofNat']
    omega
  generalize UInt8.ofNat (48 + n) = q at hc
  replace hc := hide hc
  go_enter Tryd.func28, Tryd.ntmps28
  go_wp2_with (refine ByteRow.to_string_at _ rfl 40 9 5 _ rfl [q] rfl rfl (ByteRow.Has.one (Nat.le_refl _) _ _ (by first | exact hc.out | (rw [← hc.out]; congr 1; omega)) _) nUnderB nUnder5 nUnder9 ?_)
  go_ret
  exact ⟨rfl, (Below.refl _ w).alloc (Nat.le_refl _) _⟩
set_option maxRecDepth 100000 in
set_option maxHeartbeats 1000000 in
theorem rdigits_step (n : Nat) (w : World) (hn : ¬ n < 10) (hm : n < 1000) (ih : ∀ w1 : World, Calls Tryd.prog 28 #[.int .i64 (n / 10 : Nat)] w1 fun e w' => e = .returned (.string ⟨(dig (n / 10)).toArray⟩) ∧ Below w1.heap.size w1 w') :
    Calls Tryd.prog 28 #[.int .i64 n] w fun e w' => e = .returned (.string ⟨(dig n).toArray⟩) ∧ Below w.heap.size w w' := by
  rw [dig_big hn]
  have hn' : ¬ (n : Int) < 10 := by omega
  have hq1 : (n : Int).tdiv 10 = ((n / 10 : Nat) : Int) := by rw [Int.tdiv_eq_ediv_of_nonneg (by omega)]; omega
  have hq2 : (n : Int).tmod 10 = ((n % 10 : Nat) : Int) := by rw [Int.tmod_eq_emod_of_nonneg (by omega)]; omega
  have hc : (.int .u8 ((48 + ((n % 10 : Nat) : Int))) : Value) = Sha.byteV (UInt8.ofNat (48 + n % 10)) := by
    show _ = Value.int .u8 _
    congr 1
    rw [UInt8.toNat_ofNat']
    omega
  have hm9 : ((n % 10 : Nat) : Int) < 10 := by omega
  have hm0 : (0 : Int) ≤ ((n % 10 : Nat) : Int) := by omega
  generalize UInt8.ofNat (48 + n % 10) = q at hc
  replace hc := hide hc
  obtain ⟨Y, hY⟩ : ∃ Y : ByteArray, Y = ⟨(dig (n / 10)).toArray⟩ := ⟨_, rfl⟩
  have hYs : Y.size ≤ 20 := by rw [hY, ba_size, dig_length]; exact Nat.le_trans (nd_le _ (by omega)) (by omega)
  have hres : (⟨(dig (n / 10) ++ [q]).toArray⟩ : ByteArray) = Y ++ ⟨#[q]⟩ := by rw [hY, show (⟨#[q]⟩ : ByteArray) = ⟨[q].toArray⟩ from rfl, ba_append]
  rw [hres]
  have HI := hide ih
  rw [← hY] at HI
  clear ih hY hres
  have hd9 : ((n / 10 : Nat) : Int) < 100 := by omega
  generalize n / 10 = d at *
  generalize n % 10 = m at *
  have hcv : (48 + (m : Int)) % 256 = (q.toNat : Int) := by
    have := hc.out
    simp only [Sha.byteV, Value.int.injEq, true_and] at this
    omega
  have hcw : IntKind.u8.wrap (48 + (m : Int)) = (q.toNat : Int) := by rw [← hcv]; rfl
  have hce : 48 + (m : Int) = (q.toNat : Int) := by omega
  replace hce := hide hce
  have hwd : IntKind.i64.wrap (d : Int) = d := Sha.wrap_i64 _ (by omega) (by omega)
  have hwm : IntKind.i64.wrap (m : Int) = m := Sha.wrap_i64 _ (by omega) (by omega)
  have hws : IntKind.i64.wrap (48 + (m : Int)) = 48 + (m : Int) := Sha.wrap_i64 _ (by omega) (by omega)
  go_enter Tryd.func28, Tryd.ntmps28
  go_upto_region 3 with fail
  refine RegionOwn.regionK 9 20 9 1 (fun i => match i with
    | 0 => RegionOwn.val (.int .i64 n)
    | 1 => RegionOwn.val (.int .i64 d)
    | 2 => RegionOwn.val (.string Y)
    | 3 => RegionOwn.val (.int .i64 n)
    | 4 => RegionOwn.val (.int .i64 m)
    | 5 => RegionOwn.val (.int .i64 (48 + (m : Int)))
    | 6 => RegionOwn.val (.int .u8 (q.toNat : Int))
    | 7 => RegionOwn.fact (fun x v => ∃ g, v = .slice (some ⟨g, 0, none⟩) 1 1 ∧ g < x.heap.size ∧ x.cell? ⟨g, 0, none⟩ = some (.int .u8 (q.toNat : Int)))
    | 8 => RegionOwn.val (.string ⟨#[q]⟩)
    | _ => RegionOwn.val undef) (fun _ => none) ?_ (by kernel_rfl) rfl (by kernel_rfl) ?_ ?_ ?_
  · intro i hi
    match i, hi with
    | 0, _ | 1, _ | 2, _ | 3, _ | 4, _ | 5, _ | 6, _ | 7, _ | 8, _ => rfl
    | i + 9, h => exact absurd h (by omega)
  · intro i p hi h
    refine ⟨fun _ _ => rfl, ?_⟩
    match i, hi, h with
    | 0, _, h | 1, _, h | 2, _, h | 3, _, h | 4, _, h | 5, _, h | 6, _, h | 8, _, h => cases h
    | 7, _, h => cases h; exact fun x y v ⟨g, h1, h2, h3⟩ hb => ⟨g, h1, Nat.lt_of_lt_of_le h2 hb.size, (hb.cell (p := ⟨g, 0, none⟩) h2).trans h3⟩
    | i + 9, h, _ => exact absurd h (by omega)
  · intro i hi y x' hfr hbx hD hO K2 hK2
    match i, hi with
    | 0, _ =>
      refine RegionOwn.quiet rfl rfl hK2 rfl rfl ?_
      have e0 : RegionOwn.T y 0 = .int .i64 n := RegionOwn.Fr.at hfr (by kernel_rfl) rfl
      clear hK2 hD hfr hO
      unfold RegionOwn.T at e0
      go_simp
    | 1, _ =>
      refine RegionOwn.quiet rfl rfl hK2 rfl rfl ?_
      have d0 : RegionOwn.T y 10 = .int .i64 n := hD 0 10 (by decide) rfl (by kernel_rfl) (.inl rfl)
      clear hK2 hD hfr hO
      unfold RegionOwn.T at d0
      go_simp
    | 2, _ =>
      have d1 : RegionOwn.T y 11 = .int .i64 d := hD 1 11 (by decide) rfl (by kernel_rfl) (.inl rfl)
      refine RegionOwn.called (f := 28) (args := #[.int .i64 d]) rfl rfl hK2 rfl ?_ ((HI.out x').mono fun e y' h => ⟨_, h.1, h.2, rfl⟩)
      clear hK2 hD hfr hO
      unfold RegionOwn.T at d1
      go_simp
    | 3, _ =>
      refine RegionOwn.quiet rfl rfl hK2 rfl rfl ?_
      have e0 : RegionOwn.T y 0 = .int .i64 n := RegionOwn.Fr.at hfr (by kernel_rfl) rfl
      clear hK2 hD hfr hO
      unfold RegionOwn.T at e0
      go_simp
    | 4, _ =>
      refine RegionOwn.quiet rfl rfl hK2 rfl rfl ?_
      have d3 : RegionOwn.T y 13 = .int .i64 n := hD 3 13 (by decide) rfl (by kernel_rfl) (.inl rfl)
      clear hK2 hD hfr hO
      unfold RegionOwn.T at d3
      go_simp
    | 5, _ =>
      refine RegionOwn.quiet rfl rfl hK2 rfl rfl ?_
      have d4 : RegionOwn.T y 14 = .int .i64 m := hD 4 14 (by decide) rfl (by kernel_rfl) (.inl rfl)
      clear hK2 hD hfr hO
      unfold RegionOwn.T at d4
      go_simp
    | 6, _ =>
      refine RegionOwn.quiet rfl rfl hK2 rfl rfl ?_
      have d5 : RegionOwn.T y 15 = .int .i64 (48 + (m : Int)) := hD 5 15 (by decide) rfl (by kernel_rfl) (.inl rfl)
      clear hK2 hD hfr hO
      unfold RegionOwn.T at d5
      go_simp
    | 7, _ =>
      have d6 : RegionOwn.T y 16 = .int .u8 (q.toNat : Int) := hD 6 16 (by decide) rfl (by kernel_rfl) (.inl rfl)
      refine RegionOwn.made (ob := .cells #[.int .u8 (q.toNat : Int)] 5) (v := .slice (some ⟨x'.heap.size, 0, none⟩) 1 1) rfl rfl hK2 ⟨x'.heap.size, rfl, by simp, by simp⟩ (fun g h => by simp [Value.ownBlock] at h; omega) ?_
      clear hK2 hD hfr hO
      unfold RegionOwn.T at d6
      have d6' := d6
      rw [Array.getD_eq_getD_getElem?] at d6'
      go_simp
    | 8, _ =>
      have d7 : ∃ g, RegionOwn.T y 17 = .slice (some ⟨g, 0, none⟩) 1 1 ∧ g < x'.heap.size ∧ x'.cell? ⟨g, 0, none⟩ = some (.int .u8 (q.toNat : Int)) := hD 7 17 (by decide) rfl (by kernel_rfl) (.inl rfl)
      obtain ⟨g, hv, hlt, hcell⟩ := d7
      refine RegionOwn.quiet rfl rfl hK2 rfl rfl ?_
      have hr := run_convert_bytes_back (P := Tryd.prog) x' 40 9 5 ⟨g, 0, none⟩ 1 [q] nUnderB nUnder5 nUnder9 (fun j hj => by
        obtain rfl : j = 0 := by simp at hj; omega
        exact hcell)
      clear hK2 hD hfr hO
      unfold RegionOwn.T at hv
      replace hr : (convert 40 9 (.slice (some ⟨g, 0, none⟩) 1 1)).run Tryd.prog x' = .ok (.string ⟨#[q]⟩) x' := hr
      go_simp
    | i + 9, h => exact absurd h (by omega)
  · intro y x' hfr hbx hD
    have d2 : RegionOwn.T y 12 = .string Y := hD 2 12 (by decide) rfl (fun _ _ h => by cases h)
    have d8 : RegionOwn.T y 18 = .string ⟨#[q]⟩ := hD 8 18 (by decide) rfl (fun _ _ h => by cases h)
    have hl20 : List.range 20 = [0, 1, 2, 3, 4, 5, 6, 7, 8, 9, 10, 11, 12, 13, 14, 15, 16, 17, 18, 19] := by decide
    have hdf : y.defers = [] := hfr.defers
    rw [RegionOwn.act_lit y 20 (hfr.size.trans rfl), hl20, hdf]
    simp only [List.map_cons, List.map_nil, List.drop_succ_cons, List.drop_zero, d2, d8]
    clear hD hfr d2 d8 hl20 hdf HI
    go_wp2
    go_ret
    exact ⟨rfl, hbx⟩
theorem rdigits_any (n : Nat) (w : World) (hn : n < 1000) :
    Calls Tryd.prog 28 #[.int .i64 n] w fun e w' => e = .returned (.string ⟨(dig n).toArray⟩) ∧ Below w.heap.size w w' := by
  have h1 : ∀ m w1, m < 10 → Calls Tryd.prog 28 #[.int .i64 (m : Nat)] w1 fun e w' => e = .returned (.string ⟨(dig m).toArray⟩) ∧ Below w1.heap.size w1 w' := fun m w1 hm => rdigits_small m w1 hm
  have h2 : ∀ m w1, m < 100 → Calls Tryd.prog 28 #[.int .i64 (m : Nat)] w1 fun e w' => e = .returned (.string ⟨(dig m).toArray⟩) ∧ Below w1.heap.size w1 w' := fun m w1 hm => by
    by_cases h : m < 10
    · exact h1 m w1 h
    · exact rdigits_step m w1 h (by omega) (fun w2 => h1 _ w2 (by omega))
  by_cases h : n < 10
  · exact h1 n w h
  · exact rdigits_step n w h hn (fun w2 => h2 _ w2 (by omega))
end Go.Proofs.YtpihgffcfoelbaaDoor
