/- Several texts in one: NameRef, NameRefAsg. -/
import Derived.Test.YtmnenamdjkjlaaaGreatDoorRunAP
import Derived.Test.YtmnenamdjkjlaaaGreatDoorRegionAll
/- Contracts of the document's: was a name assigned, small; a number's digits. -/
namespace Go.Names
/-- The texts of a row, as lists of bytes. -/
def txts (xs : List ByteArray) : List Bs := xs.map fun x => x.data.toList
def usedB (xs : List ByteArray) (s : ByteArray) : Bool := decide (fold s.data.toList ∈ (txts xs).map fold)
theorem used_yes {xs : List ByteArray} {s x : ByteArray} {j : Nat} (h : xs[j]? = some x) (he : fold x.data.toList = fold s.data.toList) : usedB xs s = true := by
  unfold usedB txts
  rw [decide_eq_true_iff, ← he]
  exact List.mem_map.2 ⟨_, List.mem_map.2 ⟨x, List.mem_of_getElem? h, rfl⟩, rfl⟩
theorem used_no {xs : List ByteArray} {s : ByteArray} (h : ∀ (j : Nat) x, xs[j]? = some x → fold x.data.toList ≠ fold s.data.toList) : usedB xs s = false := by
  unfold usedB txts
  rw [decide_eq_false_iff_not]
  intro hm
  obtain ⟨y, hy, he⟩ := List.mem_map.1 hm
  obtain ⟨x, hx, rfl⟩ := List.mem_map.1 hy
  obtain ⟨j, hj⟩ := List.getElem?_of_mem hx
  exact h j x hj he
theorem ba_eq {a b : Bs} (h : (⟨a.toArray⟩ : ByteArray) = ⟨b.toArray⟩) : a = b := by
  have := congrArg (fun z : ByteArray => z.data.toList) h
  simpa using this
end Go.Names
namespace Go.Proofs.YtmnenamdjkjlaaaGreatDoor
open Go.RowKit Go.Names
set_option maxRecDepth 100000 in
set_option maxHeartbeats 1000000 in
theorem rused_any (v : Value) (xs : List ByteArray) (s : ByteArray) (w : World) (h : StrRow.Reads w v xs) (hx : ∀ x ∈ xs, x.size ≤ 1000) (hs : s.size ≤ 1000) (hl : xs.length ≤ 1000) :
    Calls Tryz.prog 59 #[v, .string s] w fun e w' => e = .returned (.bool (usedB xs s)) ∧ Below w.heap.size w w' := by
  obtain ⟨a, c, rfl⟩ := h.form
  have H := hide h
  have HX := hide hx
  clear h hx
  generalize hR : usedB xs s = R
  replace hR := hide hR
  obtain ⟨Z, hZ⟩ : ∃ Z : ByteArray, Z = ⟨(fold s.data.toList).toArray⟩ := ⟨_, rfl⟩
  have HZ := hide (fun w1 => rfold_any s w1 (by omega))
  rw [← hZ] at HZ
  replace hZ := hide hZ
  go_enter Tryz.func59, Tryz.ntmps59
  go_wp2
  go_loopw [5] (fun vi wr => ∃ i : Nat, i ≤ xs.length ∧ vi = .int .i64 i ∧ Hid (Below w.heap.size w wr ∧ ∀ (j : Nat) x, j < i → xs[j]? = some x → fold x.data.toList ≠ fold s.data.toList)) (fun vi _ => 2000 - (intOf vi).toNat)
  case atStart => exact ⟨0, Nat.zero_le _, rfl, Below.refl _ _, fun j x hj => absurd hj (Nat.not_lt_zero _)⟩
  case round =>
    obtain ⟨i, hi, rfl, HH⟩ := hrel
    by_cases hlt : i < xs.length
    · have hlt' : (i : Int) < xs.length := by omega
      obtain ⟨x, hxi⟩ : ∃ x, xs[i]? = some x := ⟨_, List.getElem?_eq_getElem hlt⟩
      have hxs := HX.out x (List.mem_of_getElem? hxi)
      have hR2 := H.out.below HH.out.1 (Nat.le_refl _)
      obtain ⟨b, off, cp, hvv, hcp, hb⟩ := hR2.at (fun e => by subst e; simp at hlt)
      cases hvv
      have hcell := hR2.cell hxi
      have hcp' : (xs.length : Int) ≤ c := by omega
      clear hR2 hb
      obtain ⟨Y, hY⟩ : ∃ Y : ByteArray, Y = ⟨(fold x.data.toList).toArray⟩ := ⟨_, rfl⟩
      have HY := hide (fun w1 => rfold_any x w1 (by omega))
      rw [← hY] at HY
      by_cases he : fold x.data.toList = fold s.data.toList
      · have hYZ : Y = Z := by rw [hY, hZ.out, he]
        have hu := hide (used_yes hxi he)
        subst hYZ
        clear hY he
        go_wp2_with (first
          | (go_at_call 12; refine (HY.out _).mono ?_; rintro e w1 ⟨rfl, k1⟩; clear HY)
          | (go_at_call 12; refine (HZ.out _).mono ?_; rintro e w2 ⟨rfl, k2⟩; clear HZ))
        go_ret
        exact ⟨by rw [← hR.out, hu.out]; rfl, HH.out.1.trans ((k1.trans (k2.mono k1.size)).mono HH.out.1.size)⟩
      · have hYZ : Y ≠ Z := by rw [hY, hZ.out]; exact fun e => he (ba_eq e)
        have hyz1 : (Y.toList == Z.toList) = false := by
          rw [beq_eq_false_iff_ne]
          intro e
          rw [ByteArray.toList_eq, ByteArray.toList_eq] at e
          exact hYZ (ByteArray.ext (Array.toList_inj.1 e))
        have hyz2 : ¬ Y.toList = Z.toList := by simpa using hyz1
        replace he := hide he
        replace hY := hide hY
        go_wp2_with (first
          | (go_at_call 12; refine (HY.out _).mono ?_; rintro e w1 ⟨rfl, k1⟩; clear HY)
          | (go_at_call 12; refine (HZ.out _).mono ?_; rintro e w2 ⟨rfl, k2⟩; clear HZ))
        go_roundw
        case rel =>
          refine ⟨i + 1, by omega, by go_num, HH.out.1.trans ((k1.trans (k2.mono k1.size)).mono HH.out.1.size), fun j y hj hy => ?_⟩
          by_cases e : j = i
          · subst e
            rw [hxi] at hy
            cases hy
            exact he.out
          · exact HH.out.2 j y (by omega) hy
        case measure => simp [intOf]; omega
    · have hlt' : ¬ (i : Int) < xs.length := by omega
      go_wp2
      go_ret
      exact ⟨by rw [← hR.out, used_no (fun j y hy => HH.out.2 j y (by have := (List.getElem?_eq_some_iff.1 hy).1; omega) hy)]; rfl, HH.out.1⟩
set_option maxRecDepth 100000 in
set_option maxHeartbeats 1000000 in
theorem rdigits_small (n : Nat) (w : World) (hn : n < 10) :
    Calls Tryz.prog 60 #[.int .i64 n] w fun e w' => e = .returned (.string ⟨(dig n).toArray⟩) ∧ Below w.heap.size w w' := by
  rw [dig_small hn]
  have hn' : (n : Int) < 10 := by omega
  have hc : (.int .u8 ((48 + (n : Int))) : Value) = Sha.byteV (UInt8.ofNat (48 + n)) := by
    show _ = Value.int .u8 _
    congr 1
    rw [UInt8.toNat_ofNat']
    omega
  generalize UInt8.ofNat (48 + n) = q at hc
  replace hc := hide hc
  go_enter Tryz.func60, Tryz.ntmps60
  go_wp2_with (refine ByteRow.to_string_at _ rfl 66 9 5 _ rfl [q] rfl rfl (ByteRow.Has.one (Nat.le_refl _) _ _ (by first | exact hc.out | (rw [← hc.out]; congr 1; omega)) _) nUnderB nUnder5 nUnder9 ?_)
  go_ret
  exact ⟨rfl, (Below.refl _ w).alloc (Nat.le_refl _) _⟩
set_option maxRecDepth 100000 in
set_option maxHeartbeats 1000000 in
theorem rdigits_step (n : Nat) (w : World) (hn : ¬ n < 10) (hm : n < 1000) (ih : ∀ w1 : World, Calls Tryz.prog 60 #[.int .i64 (n / 10 : Nat)] w1 fun e w' => e = .returned (.string ⟨(dig (n / 10)).toArray⟩) ∧ Below w1.heap.size w1 w') :
    Calls Tryz.prog 60 #[.int .i64 n] w fun e w' => e = .returned (.string ⟨(dig n).toArray⟩) ∧ Below w.heap.size w w' := by
  rw [dig_big hn]
  have hn' : ¬ (n : Int) < 10 := by omega
  have hq1 : (n : Int).tdiv 10 = ((n / 10 : Nat) : Int) := by rw [Int.tdiv_eq_ediv_of_nonneg (by omega)]; omega
  have hq2 : (n : Int).tmod 10 = ((n % 10 : Nat) : Int) := by rw [Int.tmod_eq_emod_of_nonneg (by omega)]; omega
  have hc : (.int .u8 ((48 + ((n % 10 : Nat) : Int))) : Value) = Sha.byteV (UInt8.ofNat (48 + n % 10)) := by
    show _ = Value.int .u8 _
    congr 1
    rw [UInt8.toNat_ofNat']
    omega
  have hm9 : ((n % 10 : Nat) : Int) < 10 := by omega
  have hm0 : (0 : Int) ≤ ((n % 10 : Nat) : Int) := by omega
  generalize UInt8.ofNat (48 + n % 10) = q at hc
  replace hc := hide hc
  obtain ⟨Y, hY⟩ : ∃ Y : ByteArray, Y = ⟨(dig (n / 10)).toArray⟩ := ⟨_, rfl⟩
  have hYs : Y.size ≤ 20 := by rw [hY, ba_size, dig_length]; exact Nat.le_trans (nd_le _ (by omega)) (by omega)
  have hres : (⟨(dig (n / 10) ++ [q]).toArray⟩ : ByteArray) = Y ++ ⟨#[q]⟩ := by rw [hY, show (⟨#[q]⟩ : ByteArray) = ⟨[q].toArray⟩ from rfl, ba_append]
  rw [hres]
  have HI := hide ih
  rw [← hY] at HI
  clear ih hY hres
  have hd9 : ((n / 10 : Nat) : Int) < 100 := by omega
  generalize n / 10 = d at *
  generalize n % 10 = m at *
  have hcv : (48 + (m : Int)) % 256 = (q.toNat : Int) := by
    have := hc.out
    simp only [Sha.byteV, Value.int.injEq, true_and] at this
    omega
  have hcw : IntKind.u8.wrap (48 + (m : Int)) = (q.toNat : Int) := by rw [← hcv]; rfl
  have hce : 48 + (m : Int) = (q.toNat : Int) := by omega
  replace hce := hide hce
  have hwd : IntKind.i64.wrap (d : Int) = d := Sha.wrap_i64 _ (by omega) (by omega)
  have hwm : IntKind.i64.wrap (m : Int) = m := Sha.wrap_i64 _ (by omega) (by omega)
  have hws : IntKind.i64.wrap (48 + (m : Int)) = 48 + (m : Int) := Sha.wrap_i64 _ (by omega) (by omega)
  go_enter Tryz.func60, Tryz.ntmps60
  go_upto_region 3 with fail
  refine RegionOwn.regionK 9 20 9 1 (fun i => match i with
    | 0 => RegionOwn.val (.int .i64 n)
    | 1 => RegionOwn.val (.int .i64 d)
    | 2 => RegionOwn.val (.string Y)
    | 3 => RegionOwn.val (.int .i64 n)
    | 4 => RegionOwn.val (.int .i64 m)
    | 5 => RegionOwn.val (.int .i64 (48 + (m : Int)))
    | 6 => RegionOwn.val (.int .u8 (q.toNat : Int))
    | 7 => RegionOwn.fact (fun x v => ∃ g, v = .slice (some ⟨g, 0, none⟩) 1 1 ∧ g < x.heap.size ∧ x.cell? ⟨g, 0, none⟩ = some (.int .u8 (q.toNat : Int)))
    | 8 => RegionOwn.val (.string ⟨#[q]⟩)
    | _ => RegionOwn.val undef) (fun _ => none) ?_ (by kernel_rfl) rfl (by kernel_rfl) ?_ ?_ ?_
  · intro i hi
    match i, hi with
    | 0, _ | 1, _ | 2, _ | 3, _ | 4, _ | 5, _ | 6, _ | 7, _ | 8, _ => rfl
    | i + 9, h => exact absurd h (by omega)
  · intro i p hi h
    refine ⟨fun _ _ => rfl, ?_⟩
    match i, hi, h with
    | 0, _, h | 1, _, h | 2, _, h | 3, _, h | 4, _, h | 5, _, h | 6, _, h | 8, _, h => cases h
    | 7, _, h => cases h; exact fun x y v ⟨g, h1, h2, h3⟩ hb => ⟨g, h1, Nat.lt_of_lt_of_le h2 hb.size, (hb.cell (p := ⟨g, 0, none⟩) h2).trans h3⟩
    | i + 9, h, _ => exact absurd h (by omega)
  · intro i hi y x' hfr hbx hD hO K2 hK2
    match i, hi with
    | 0, _ =>
      refine RegionOwn.quiet rfl rfl hK2 rfl rfl ?_
      have e0 : RegionOwn.T y 0 = .int .i64 n := RegionOwn.Fr.at hfr (by kernel_rfl) rfl
      clear hK2 hD hfr hO
      unfold RegionOwn.T at e0
      go_simp
    | 1, _ =>
      refine RegionOwn.quiet rfl rfl hK2 rfl rfl ?_
      have d0 : RegionOwn.T y 10 = .int .i64 n := hD 0 10 (by decide) rfl (by kernel_rfl) (.inl rfl)
      clear hK2 hD hfr hO
      unfold RegionOwn.T at d0
      go_simp
    | 2, _ =>
      have d1 : RegionOwn.T y 11 = .int .i64 d := hD 1 11 (by decide) rfl (by kernel_rfl) (.inl rfl)
      refine RegionOwn.called (f := 60) (args := #[.int .i64 d]) rfl rfl hK2 rfl ?_ ((HI.out x').mono fun e y' h => ⟨_, h.1, h.2, rfl⟩)
      clear hK2 hD hfr hO
      unfold RegionOwn.T at d1
      go_simp
    | 3, _ =>
      refine RegionOwn.quiet rfl rfl hK2 rfl rfl ?_
      have e0 : RegionOwn.T y 0 = .int .i64 n := RegionOwn.Fr.at hfr (by kernel_rfl) rfl
      clear hK2 hD hfr hO
      unfold RegionOwn.T at e0
      go_simp
    | 4, _ =>
      refine RegionOwn.quiet rfl rfl hK2 rfl rfl ?_
      have d3 : RegionOwn.T y 13 = .int .i64 n := hD 3 13 (by decide) rfl (by kernel_rfl) (.inl rfl)
      clear hK2 hD hfr hO
      unfold RegionOwn.T at d3
      go_simp
    | 5, _ =>
      refine RegionOwn.quiet rfl rfl hK2 rfl rfl ?_
      have d4 : RegionOwn.T y 14 = .int .i64 m := hD 4 14 (by decide) rfl (by kernel_rfl) (.inl rfl)
      clear hK2 hD hfr hO
      unfold RegionOwn.T at d4
      go_simp
    | 6, _ =>
      refine RegionOwn.quiet rfl rfl hK2 rfl rfl ?_
      have d5 : RegionOwn.T y 15 = .int .i64 (48 + (m : Int)) := hD 5 15 (by decide) rfl (by kernel_rfl) (.inl rfl)
      clear hK2 hD hfr hO
      unfold RegionOwn.T at d5
      go_simp
    | 7, _ =>
      have d6 : RegionOwn.T y 16 = .int .u8 (q.toNat : Int) := hD 6 16 (by decide) rfl (by kernel_rfl) (.inl rfl)
      refine RegionOwn.made (ob := .cells #[.int .u8 (q.toNat : Int)] 5) (v := .slice (some ⟨x'.heap.size, 0, none⟩) 1 1) rfl rfl hK2 ⟨x'.heap.size, rfl, by simp, by simp⟩ (fun g h => by simp [Value.ownBlock] at h; omega) ?_
      clear hK2 hD hfr hO
      unfold RegionOwn.T at d6
      have d6' := d6
      rw [Array.getD_eq_getD_getElem?] at d6'
      go_simp
    | 8, _ =>
      have d7 : ∃ g, RegionOwn.T y 17 = .slice (some ⟨g, 0, none⟩) 1 1 ∧ g < x'.heap.size ∧ x'.cell? ⟨g, 0, none⟩ = some (.int .u8 (q.toNat : Int)) := hD 7 17 (by decide) rfl (by kernel_rfl) (.inl rfl)
      obtain ⟨g, hv, hlt, hcell⟩ := d7
      refine RegionOwn.quiet rfl rfl hK2 rfl rfl ?_
      have hr := run_convert_bytes_back (P := Tryz.prog) x' 66 9 5 ⟨g, 0, none⟩ 1 [q] nUnderB nUnder5 nUnder9 (fun j hj => by
        obtain rfl : j = 0 := by simp at hj; omega
        exact hcell)
      clear hK2 hD hfr hO
      unfold RegionOwn.T at hv
      replace hr : (convert 66 9 (.slice (some ⟨g, 0, none⟩) 1 1)).run Tryz.prog x' = .ok (.string ⟨#[q]⟩) x' := hr
      go_simp
    | i + 9, h => exact absurd h (by omega)
  · intro y x' hfr hbx hD
    have d2 : RegionOwn.T y 12 = .string Y := hD 2 12 (by decide) rfl (fun _ _ h => by cases h)
    have d8 : RegionOwn.T y 18 = .string ⟨#[q]⟩ := hD 8 18 (by decide) rfl (fun _ _ h => by cases h)
    have hl20 : List.range 20 = [0, 1, 2, 3, 4, 5, 6, 7, 8, 9, 10, 11, 12, 13, 14, 15, 16, 17, 18, 19] := by decide
    have hdf : y.defers = [] := hfr.defers
    rw [RegionOwn.act_lit y 20 (hfr.size.trans rfl), hl20, hdf]
    simp only [List.map_cons, List.map_nil, List.drop_succ_cons, List.drop_zero, d2, d8]
    clear hD hfr d2 d8 hl20 hdf HI
    go_wp2
    go_ret
    exact ⟨rfl, hbx⟩
set_option maxRecDepth 100000 in
theorem rdigits_any (n : Nat) (w : World) (hn : n < 1000) :
    Calls Tryz.prog 60 #[.int .i64 n] w fun e w' => e = .returned (.string ⟨(dig n).toArray⟩) ∧ Below w.heap.size w w' := by
  have h1 : ∀ m w1, m < 10 → Calls Tryz.prog 60 #[.int .i64 (m : Nat)] w1 fun e w' => e = .returned (.string ⟨(dig m).toArray⟩) ∧ Below w1.heap.size w1 w' := fun m w1 hm => rdigits_small m w1 hm
  have h2 : ∀ m w1, m < 100 → Calls Tryz.prog 60 #[.int .i64 (m : Nat)] w1 fun e w' => e = .returned (.string ⟨(dig m).toArray⟩) ∧ Below w1.heap.size w1 w' := fun m w1 hm => by
    by_cases h : m < 10
    · exact h1 m w1 h
    · exact rdigits_step m w1 h (by omega) (fun w2 => h1 _ w2 (by omega))
  by_cases h : n < 10
  · exact h1 n w h
  · exact rdigits_step n w h hn (fun w2 => h2 _ w2 (by omega))
end Go.Proofs.YtmnenamdjkjlaaaGreatDoor
/- Contract: the document's Assign. -/
namespace Go.Names
theorem nth_zero (own : Bs) : nth own 0 = own := rfl
end Go.Names
namespace Go.Proofs.YtmnenamdjkjlaaaGreatDoor
open Go.RowKit Go.Names
/-- A row of texts of one's own. -/
structure Ar (W : World) (vo : Value) (outs : List Bs) (w : World) : Prop where
  own : w.ownsRow W.heap.size 9 1 vo outs.length (strV outs)
  below : Below W.heap.size W w
set_option maxRecDepth 100000 in
theorem Ar.step {W w w' : World} {vo : Value} {outs : List Bs} (h : Ar W vo outs w) (k : Below w.heap.size w w') : Ar W vo outs w' := by
  refine ⟨own_stays h.own (fun j hj => ?_), h.below.trans (k.mono h.below.size)⟩
  obtain ⟨_, cur, z, hc⟩ := own_at h.own hj
  exact k.block j (lt_of_block hc)
set_option maxRecDepth 100000 in
theorem strs_txts (outs : List Bs) : txts (outs.map fun x => (⟨x.toArray⟩ : ByteArray)) = outs := by
  unfold txts
  rw [List.map_map]
  conv => rhs; rw [← List.map_id outs]
  exact List.map_congr_left fun x _ => rfl
set_option maxRecDepth 100000 in
theorem Ar.reads {W w : World} {vo : Value} {outs : List Bs} (h : Ar W vo outs w) : StrRow.Reads w vo (outs.map fun x => (⟨x.toArray⟩ : ByteArray)) := by
  refine StrRow.Reads.of_own (base := W.heap.size) (e := 9) (n := outs.length) ?_
  have := h.own
  unfold strV at this
  rw [List.map_map]
  exact this
set_option maxRecDepth 100000 in
theorem Ar.append {W w : World} {a0 : Option Addr} {n0 c0 : Nat} {outs : List Bs} (h : Ar W (.slice a0 n0 c0) outs w) (x : Bs) (hlen : outs.length ≤ 1000)
    {ops : Array Oper} {rest : List Oper} {o : Oper} {a : Act} {Q : Exit → Act → World → Prop} (hg : o.guard = none) (s y : Operand)
    (ho : o.op = .call { callee := .builtin .append, args := #[s, y], argTypes := #[43, 43] }) (hs : a.eval s = .slice a0 n0 c0) (hy : a.eval y = .slice (some ⟨w.heap.size, 0, none⟩) 1 1) {tt : TypeId} {u : Value} (hu : u = .string ⟨x.toArray⟩)
    (k : ∀ a1 c1 w1, Ar W (.slice a1 (outs.length + 1) c1) (outs ++ [x]) w1 → wpList Tryz.prog ops Q rest (a.put o.dst (.slice a1 (outs.length + 1) c1)) w1) : wpList Tryz.prog ops Q (o :: rest) a (w.alloc (.cells #[u] tt)) := by
  subst hu
  obtain ⟨i9, hi9, hz0, hz1, hz2⟩ := info_parts nInfo9
  have hsz := h.below.size
  refine wpList_append_own _ hg s y 43 ho W.heap.size 9 i9 (.string ⟨#[]⟩) 1 16 nUnderS hi9 hz0 hz1 hz2 rfl (by decide) _ _ _ hs (h.own.alloc _) ⟨w.heap.size, 0, none⟩ 1 1 [.string ⟨x.toArray⟩] hy rfl (cell_new _ _ _) (fun u hu => by simp at hu; subst hu; rfl) (by unfold maxLen; omega) (by omega) (by simp; omega) ?_
  intro v' w1 hown hgrow _
  obtain ⟨a1, c1, rfl⟩ := own_slice hown
  refine k a1 c1 w1 ⟨?_, (h.below.alloc hsz _).grown hgrow (by simp; omega) fun j e => (own_at h.own e).1⟩
  rw [List.length_append]
  unfold strV at hown ⊢
  rw [List.map_append]
  exact hown
set_option maxRecDepth 100000 in
theorem used_is (outs : List Bs) (s : ByteArray) : usedB (outs.map fun x => (⟨x.toArray⟩ : ByteArray)) s = decide (fold s.data.toList ∈ outs.map fold) := by
  unfold usedB
  rw [strs_txts]
set_option maxRecDepth 100000 in
set_option maxHeartbeats 2000000 in
theorem rassign_any (v : Value) (xs : List ByteArray) (W : World) (hr : StrRow.Reads W v xs) (hl : xs.length ≤ 130) (hs : ∀ x ∈ xs, x.size ≤ 1000000) :
    Calls Tryz.prog 30 #[v] W fun e w' => ∃ a c, e = .returned (.slice a xs.length c) ∧ w'.ownsRow W.heap.size 9 1 (.slice a xs.length c) xs.length (strV (asg (txts xs))) ∧ Below W.heap.size W w' := by
  obtain ⟨va, vc, rfl⟩ := hr.form
  have hnl := hide (show (txts xs).length = xs.length from List.length_map _)
  have HS := hide hs
  have HG := hide hr
  clear hr hs
  go_enter Tryz.func30, Tryz.ntmps30
  go_wp2
  go_loopw [3, 4] (fun vo vi wr => ∃ (i : Nat) (oa : Option Addr) (oc : Nat), i ≤ xs.length ∧ vo = .slice oa i oc ∧ vi = .int .i64 i ∧ Hid (Ar W (.slice oa i oc) (asg ((txts xs).take i)) wr)) (fun _ vi _ => 1000 - (intOf vi).toNat)
  case atStart => exact ⟨0, _, _, Nat.zero_le _, rfl, rfl, World.ownsRow_made W #[] 0 (Nat.le_refl _) (Nat.zero_le _) rfl, (Below.refl _ W).alloc (Nat.le_refl _) _⟩
  case round =>
    obtain ⟨i, oa, oc, hi, rfl, rfl, HH⟩ := hrel
    by_cases hlt : i < xs.length
    · have hlt' : (i : Int) < xs.length := by omega
      obtain ⟨nm, hgi⟩ : ∃ g, xs[i]? = some g := ⟨_, List.getElem?_eq_getElem hlt⟩
      have hns := HS.out _ (List.mem_of_getElem? hgi)
      have hti : (txts xs)[i]? = some nm.data.toList := by unfold txts; rw [List.getElem?_map, hgi]; rfl
      have hnext := hide (asg_take_succ (txts xs) hti)
      have hR2 := HG.out.below HH.out.below (Nat.le_refl _)
      obtain ⟨b, off, cp, hvv, hcp, hb⟩ := hR2.at (fun e => by subst e; simp at hlt)
      cases hvv
      have hcell := hR2.cell hgi
      have hcp' : (xs.length : Int) ≤ vc := by omega
      clear hR2 hb hti
      have hLn : Hid ((asg ((txts xs).take i)).length = i) := by
        show _ = _
        rw [asg_length, List.length_take, hnl.out]
        omega
      have hLg := hide (asg_legal ((txts xs).take i) (by rw [List.length_take, hnl.out]; omega))
      generalize asg ((txts xs).take i) = outs at HH hnext hLn hLg
      obtain ⟨X, hX⟩ : ∃ X : ByteArray, X = ⟨(fix nm.data.toList).toArray⟩ := ⟨_, rfl⟩
      have hXd : fix nm.data.toList = X.data.toList := by rw [hX]
      have hXs : X.size ≤ 32 := by rw [hX, ba_size]; exact (fix_length _).2
      have HF := hide (fun w1 => rfix_any nm w1 hns)
      rw [← hX] at HF
      rw [hXd] at hnext
      have hTl : (outs.map fold).length ≤ 130 := by rw [List.length_map, hLn.out]; omega
      have hpl := pickN_le (outs.map fold) X.data.toList
      have hps := hide (pickN_spec (outs.map fold) X.data.toList)
      have hpk : Hid (pick (outs.map fold) X.data.toList = nth X.data.toList (pickN (outs.map fold) X.data.toList)) := rfl
      generalize pickN (outs.map fold) X.data.toList = p at hpl hps hpk
      have hp : p ≤ 131 := by omega
      have hos : Hid (∀ x ∈ outs.map (fun x => (⟨x.toArray⟩ : ByteArray)), x.size ≤ 1000) := by
        intro x hx
        obtain ⟨y, hy, rfl⟩ := List.mem_map.1 hx
        have := hLg.out y hy
        simp only [legal, Bool.and_eq_true, decide_eq_true_eq] at this
        rw [ba_size]
        omega
      clear hX hXd hgi HG hTl hpl hLg
      go_wp2_with (go_at_call 58; refine (HF.out _).mono ?_; rintro e w1 ⟨rfl, k1⟩
                   have H1 := hide (HH.out.step k1)
                   clear k1 HH)
      go_loopw [5, 7] (fun vs vn wr => ∃ (n : Nat) (S : ByteArray), 1 ≤ n ∧ n ≤ p + 1 ∧ S.size ≤ 32 ∧ vs = .string S ∧ vn = .int .i64 n ∧ Hid (S.data.toList = nth X.data.toList (n - 1) ∧ Ar W (.slice oa i oc) outs wr)) (fun _ vn _ => 1000 - (intOf vn).toNat)
      case atStart => exact ⟨1, X, Nat.le_refl _, by omega, hXs, rfl, rfl, rfl, H1.out⟩
      case round =>
        clear H1
        obtain ⟨n, S, hn1, hn2, hSs, rfl, rfl, HI⟩ := hrel
        have HU := hide (rused_any _ _ S _ HI.out.2.reads hos.out (by omega) (by rw [List.length_map, hLn.out]; omega))
        rw [used_is] at HU
        by_cases hnp : n = p + 1
        · have hno : decide (fold S.data.toList ∈ outs.map fold) = false := by
            rw [decide_eq_false_iff_not, HI.out.1, hnp]
            exact hps.out.1
          rw [hno] at HU
          have hSe : Hid (S = ⟨(pick (outs.map fold) X.data.toList).toArray⟩) := by
            show _ = _
            apply ByteArray.ext
            rw [← Array.toList_inj, HI.out.1, hpk.out, hnp]
            rfl
          clear hno
          go_wp2_with (first
            | (go_at_call 59; refine HU.out.mono ?_; rintro e w2 ⟨rfl, k2⟩
               have H2 := hide (HI.out.2.step k2)
               clear k2 HU)
            | (at_builtin; refine H2.out.append (pick (outs.map fold) X.data.toList) (by rw [hLn.out]; omega) rfl _ _ rfl rfl rfl (by rw [← hSe.out]) ?_
               intro a1 c1 w3 h3
               have H3 := hide h3
               clear h3))
          go_roundw
          case rel =>
            refine ⟨i + 1, a1, c1, by omega, by rw [hLn.out], by go_num, ?_⟩
            show Ar _ _ _ _
            rw [hnext.out]
            have := H3.out
            rw [hLn.out] at this
            exact this
          case measure => simp [intOf]; omega
        · have hyes : decide (fold S.data.toList ∈ outs.map fold) = true := by
            rw [decide_eq_true_iff, HI.out.1]
            exact hps.out.2 (n - 1) (by omega)
          rw [hyes] at HU
          clear hyes
          obtain ⟨D, hD⟩ : ∃ D : ByteArray, D = ⟨(dig n).toArray⟩ := ⟨_, rfl⟩
          have hDn : D.size = nd n := by rw [hD, ba_size, dig_length]
          have hDs : D.size ≤ 3 := by rw [hDn]; exact nd_le n (by omega)
          have HDg := hide (fun w1 => rdigits_any n w1 (by omega))
          rw [← hD] at HDg
          have hEs : (⟨#[126]⟩ ++ D : ByteArray).size = 1 + D.size := by rw [ByteArray.size_append]; rfl
          have hcand : ∀ Z : ByteArray, Z.data.toList = X.data.toList.take (31 - D.size) → (Z ++ (⟨#[126]⟩ ++ D)).data.toList = cand X.data.toList n := fun Z hZ => by
            rw [ByteArray.data_append, ByteArray.data_append, hD, Array.toList_append, hZ, hDn]
            unfold cand
            simp
          have hnth : nth X.data.toList (n + 1 - 1) = cand X.data.toList n := by rw [Nat.add_sub_cancel, nth_pos _ hn1]
          have hZs : ∀ Z : ByteArray, Z.data.toList = X.data.toList.take (31 - D.size) → (Z ++ (⟨#[126]⟩ ++ D)).size ≤ 32 := fun Z hZ => by
            have h1 : Z.size = (X.data.toList.take (31 - D.size)).length := by rw [← hZ]; simp
            rw [ByteArray.size_append, hEs, h1, List.length_take]
            omega
          replace hcand := hide (And.intro hcand (And.intro hnth hZs))
          clear hnth hZs hD hDn
          replace hEs := hide hEs
          by_cases hcut : 31 - D.size < X.size
          · have hc1 : (32 : Int) - (1 + D.size) < X.size := by omega
            go_wp2_with (first
              | (go_at_call 59; refine HU.out.mono ?_; rintro e w2 ⟨rfl, k2⟩
                 have H2 := hide (HI.out.2.step k2)
                 clear k2 HU)
              | (go_at_call 60; refine (HDg.out _).mono ?_; rintro e w3 ⟨rfl, k3⟩
                 have H3 := hide (H2.out.step k3)
                 clear k3 H2))
            go_roundw
            case rel =>
              have hZ : (X.extract 0 (32 - (1 + D.size))).data.toList = X.data.toList.take (31 - D.size) := by rw [cut_data, show 32 - (1 + D.size) = 31 - D.size by omega]
              exact ⟨n + 1, _, by omega, by omega, hcand.out.2.2 _ hZ, rfl, by go_num, by rw [hcand.out.1 _ hZ, hcand.out.2.1], H3.out⟩
            case measure => simp [intOf]; omega
          · have hc1 : ¬ (32 : Int) - (1 + D.size) < X.size := by omega
            go_wp2_with (first
              | (go_at_call 59; refine HU.out.mono ?_; rintro e w2 ⟨rfl, k2⟩
                 have H2 := hide (HI.out.2.step k2)
                 clear k2 HU)
              | (go_at_call 60; refine (HDg.out _).mono ?_; rintro e w3 ⟨rfl, k3⟩
                 have H3 := hide (H2.out.step k3)
                 clear k3 H2))
            go_roundw
            case rel =>
              have hZ : X.data.toList = X.data.toList.take (31 - D.size) := by rw [List.take_of_length_le (by simp; omega)]
              exact ⟨n + 1, _, by omega, by omega, hcand.out.2.2 _ hZ, rfl, by go_num, by rw [hcand.out.1 _ hZ, hcand.out.2.1], H3.out⟩
            case measure => simp [intOf]; omega
    · have hlt' : ¬ (i : Int) < xs.length := by omega
      have hig : i = xs.length := by omega
      subst hig
      go_wp2
      go_ret
      have h9 := HH.out
      rw [List.take_of_length_le (by rw [hnl.out]; exact Nat.le_refl _)] at h9
      have h8 := h9.own
      rw [asg_length, hnl.out] at h8
      exact ⟨_, _, rfl, h8, h9.below⟩
end Go.Proofs.YtmnenamdjkjlaaaGreatDoor
