/- The walk of MerkleFiles. -/
import Derived.Test.YtoopaeahhbkncaaDoorMerkleAwake
import Derived.Test.YtoopaeahhbkncaaDoorChunkText
import Derived.Test.YtoopaeahhbkncaaDoorRows2
namespace Go.TwoRows
open Go.RowKit
variable {w0 w : World} {e : TypeId} {v1 v2 : Value} {xs ys : List Value}
theorem list_append {P : Program} {ops : Array Oper} {rest : List Oper} {o : Oper} {a : Act} {Q : Exit → Act → World → Prop}
    (hgd : o.guard = none) (s x : Operand) (t : TypeId) (ho : o.op = .call { callee := .builtin .append, args := #[s, x], argTypes := #[t, t] })
    (i : TypeInfo) (z : Value) (bytes : Nat) (ht : P.underlying t = some (.slice e)) (hi : P.info? e = some i) (hz : i.zero = some z)
    (hsize : i.size = 1) (hby : i.bytes = bytes) (hzs : z.cells.size = 1)
    (hs : a.eval s = v1) (h2 : Two w0 e w v1 xs v2 ys) (g c : Nat) (u : Value) (hx : a.eval x = .slice (some ⟨g, 0, none⟩) 1 c) (hu : w.cell? ⟨g, 0, none⟩ = some u) (h1 : u.oneCell' = true)
    (hlen : (xs.length + 1) * bytes ≤ 140737488355328) (h63 : xs.length + 1 ≤ maxLen)
    (h : ∀ v' w', Two w0 e w' v' (xs ++ [u]) v2 ys → w.grownBy w' v1.ownBlock → wpList P ops Q rest (a.put o.dst v') w') : wpList P ops Q (o :: rest) a w := by
  have hw : Region.wanted o (yielded ops a.tmps) = true := by simp [Region.wanted, hgd]
  have := step_append (ops := ops) (Q := Q) (E := True) hgd s x t ho i z bytes ht hi hz hsize hby hzs hs h2 g c u hx hu h1 hlen h63 h
  unfold wpList
  rw [if_pos hw] at this ⊢
  exact .inl this
theorem own_mono {base base' n : Nat} {v : Value} (h : w.ownsRow base e 1 v n xs) (hb : base' ≤ base) : w.ownsRow base' e 1 v n xs := by
  refine ⟨h.1, ?_⟩
  rcases h.2 with h | ⟨g, cap, cur, h1, h2, h3⟩
  · exact .inl h
  · exact .inr ⟨g, cap, cur, h1, Nat.le_trans hb h2, h3⟩
end Go.TwoRows
namespace Go.Chunk
theorem chunks_few (l : Bs) : 32 * (chunks l).length ≤ l.length + 31 := by
  refine chunks_ind (P := fun l => 32 * (chunks l).length ≤ l.length + 31) (by decide) (fun l h ih => ?_) l
  have hp := List.length_pos_iff.2 h
  rw [chunks_step l h, List.length_cons]
  rw [List.length_drop] at ih
  by_cases hc : cut l < l.length
  · have := cut_min l hc; omega
  · have he : l.drop (cut l) = [] := List.drop_eq_nil_iff.2 (by omega)
    rw [he]
    show 32 * (0 + 1) ≤ _
    omega
theorem chunks_most (l : Bs) : l.length ≤ 512 * (chunks l).length := by
  refine chunks_ind (P := fun l => l.length ≤ 512 * (chunks l).length) (Nat.zero_le _) (fun l h ih => ?_) l
  have := (cut_is l).most
  rw [chunks_step l h, List.length_cons]
  rw [List.length_drop] at ih
  omega
theorem texts_few (s : ByteArray) : 32 * (texts s).length ≤ s.size + 31 := by
  have := chunks_few s.data.toList
  unfold texts
  rw [List.length_map]
  simpa using this
theorem texts_most (s : ByteArray) : s.size ≤ 512 * (texts s).length := by
  have := chunks_most s.data.toList
  unfold texts
  rw [List.length_map]
  simpa using this
theorem texts_size (s : ByteArray) : ∀ x ∈ texts s, x.size ≤ 512 := by
  unfold texts
  refine chunks_ind (P := fun l => ∀ x ∈ (chunks l).map txt, x.size ≤ 512) (fun x hx => by rw [show chunks [] = [] from rfl] at hx; cases hx) (fun l h ih => ?_) s.data.toList
  intro x hx
  rw [chunks_step l h, List.map_cons] at hx
  rcases List.mem_cons.1 hx with rfl | hx
  · have := (cut_is l).most
    show (l.take (cut l)).toArray.size ≤ 512
    rw [List.size_toArray, List.length_take]
    omega
  · exact ih x hx
end Go.Chunk
namespace Go.Proofs.YtoopaeahhbkncaaDoor
open Go.RowKit Go.Shelf Go.Wire Go.Mk Go.Chunk
attribute [local go_sem] Oper.semAt_some
set_option maxHeartbeats 1000000 in
theorem of_many (s : ByteArray) (w : World) (hs : 8192 < s.size) :
    Calls Tryd.prog 9 #[.string s] w fun e w' => e = .returned (.tuple #[.agg #[.int .i64 0, .slice none 0 0], .int .i64 3]) ∧ Below w.heap.size w w' := by
  have hs' : (8192 : Int) < s.size := by omega
  have hb := (Below.refl _ w).alloc (Nat.le_refl _) (.cells #[.int .i64 0, .slice none 0 0] 26)
  have hr : (w.alloc (.cells #[.int .i64 0, .slice none 0 0] 26)).heap[w.heap.size]? = some (.cells #[.int .i64 0, .slice none 0 0] 26 (0, 0)) := heap_alloc_new _ _
  have HB := hide (And.intro hb hr)
  clear hb hr
  refine (callsIn_wide (n := 9)).1 ?_
  refine callsIn_of_wp_marks Tryd.func9 rfl trivial ?_ rfl
  simp only [Tryd.ntmps9, List.size_toArray, List.length_cons, List.length_nil, Nat.reduceAdd, Nat.reduceSub, Array.replicate_succ, Array.replicate_zero, List.push_toArray, List.append_toArray, List.nil_append, List.cons_append]
  gi_wp2_with (fail)
  exact ⟨_, results_cell2_row Tryd.results9 _ _ w.heap.size _ _ (0, 0) _ rfl HB.out.2 Tryd.underlying26 rfl infoMan, rfl, HB.out.1⟩
set_option maxHeartbeats 1000000 in
theorem few9_any (s : ByteArray) (seed n : Int) (w : World) :
    Calls Tryd.prog 8 #[.string s, .int .u64 seed, .int .i64 n] w fun e w' => (∃ t : ByteArray, t.size ≤ 8193 ∧ e = .returned (.string t)) ∧ Below w.heap.size w w' := by
  obtain ⟨q, hq⟩ : ∃ q : Nat, (n.tmod 8194 + 8194).tmod 8194 = q := by
    have h1 := Int.tmod_lt_of_pos n (show (0 : Int) < 8194 by decide)
    have h2 := Int.lt_tmod_of_pos n (show (0 : Int) < 8194 by decide)
    have h3 := Int.tmod_nonneg (a := n.tmod 8194 + 8194) 8194 (by omega)
    exact ⟨((n.tmod 8194 + 8194).tmod 8194).toNat, by omega⟩
  have hq2 : q < 8194 := by
    have := Int.tmod_lt_of_pos (n.tmod 8194 + 8194) (show (0 : Int) < 8194 by decide)
    omega
  have HT := hide (fun (w' : World) => ctext_any seed q w' (by omega))
  have hw : wrap64 (n.tmod 8194 + 8194) = n.tmod 8194 + 8194 := by
    have h1 := Int.tmod_lt_of_pos n (show (0 : Int) < 8194 by decide)
    have h2 := Int.lt_tmod_of_pos n (show (0 : Int) < 8194 by decide)
    unfold wrap64; omega
  by_cases h5 : (500 : Int) < s.size
  · go_enter Tryd.func8, Tryd.ntmps8
    go_wp2_with fail
    refine (HT.out _).mono ?_
    rintro e w1 ⟨⟨t, ht, rfl⟩, hb⟩
    have HB := hide hb
    clear hb
    have hA : (s.extract 0 500).size ≤ 500 := by simp; omega
    generalize s.extract 0 500 = A at *
    have hAt : (A ++ t).size = A.size + q := by rw [Sha.app_size, ht]
    by_cases h8 : (8193 : Int) < ((A ++ t).size : Nat)
    · have h8' : 8193 < (A ++ t).size := by omega
      have hx : ((A ++ t).extract 0 8193).size = 8193 := by simp at h8' ⊢; omega
      have HX := hide hx
      clear hx
      go_wp2_with fail
      go_ret
      exact ⟨⟨_, Nat.le_of_eq HX.out, rfl⟩, HB.out⟩
    · have h8' : (A ++ t).size ≤ 8193 := by omega
      go_wp2_with fail
      go_ret
      exact ⟨⟨_, h8', rfl⟩, HB.out⟩
  · go_enter Tryd.func8, Tryd.ntmps8
    go_wp2_with fail
    refine (HT.out _).mono ?_
    rintro e w1 ⟨⟨t, ht, rfl⟩, hb⟩
    have HB := hide hb
    clear hb
    have hA : s.size ≤ 500 := by omega
    generalize s = A at *
    have hAt : (A ++ t).size = A.size + q := by rw [Sha.app_size, ht]
    by_cases h8 : (8193 : Int) < ((A ++ t).size : Nat)
    · have h8' : 8193 < (A ++ t).size := by omega
      have hx : ((A ++ t).extract 0 8193).size = 8193 := by simp at h8' ⊢; omega
      have HX := hide hx
      clear hx
      go_wp2_with fail
      go_ret
      exact ⟨⟨_, Nat.le_of_eq HX.out, rfl⟩, HB.out⟩
    · have h8' : (A ++ t).size ≤ 8193 := by omega
      go_wp2_with fail
      go_ret
      exact ⟨⟨_, h8', rfl⟩, HB.out⟩
theorem same9_any (xs : List ByteArray) (u v : Value) (w : World) (hu : StrRow.Reads w u xs) (hv : StrRow.Reads w v xs) (hn : xs.length ≤ 256) :
    Calls Tryd.prog 12 #[u, v] w fun e w' => e = .returned (.bool true) ∧ Below w.heap.size w w' := by
  obtain ⟨a, c, rfl⟩ := hu.form
  obtain ⟨b, d, rfl⟩ := hv.form
  have HU := hide hu
  have HV := hide hv
  clear hu hv
  have hn' : (xs.length : Int) ≤ 256 := by omega
  go_enter Tryd.func12, Tryd.ntmps12
  go_wp2_with fail
  go_loopw [5] (fun vi wr => ∃ i : Nat, i ≤ xs.length ∧ vi = .int .i64 i ∧ Hid (Below w.heap.size w wr)) (fun vi _ => 256 - (intOf vi).toNat)
  case atStart => exact ⟨0, Nat.zero_le _, rfl, Below.refl _ _⟩
  case round =>
    obtain ⟨i, hi, rfl, HB⟩ := hrel
    by_cases hlt : i < xs.length
    · have hlt' : (i : Int) < xs.length := by omega
      have hne : xs ≠ [] := by intro h; rw [h] at hlt; simp at hlt
      obtain ⟨bu, ou, cu, hvu, hcu, hbu⟩ := HU.out.at hne
      obtain ⟨bv, ov, cv, hvv, hcv, hbv⟩ := HV.out.at hne
      simp only [Value.slice.injEq, true_and] at hvu hvv
      obtain ⟨rfl, rfl⟩ := hvu
      obtain ⟨rfl, rfl⟩ := hvv
      obtain ⟨s, hs⟩ : ∃ s, xs[i]? = some s := ⟨_, List.getElem?_eq_getElem hlt⟩
      have c1 : wr.cell? ⟨bu, ou + i, none⟩ = some (.string s) := (HB.out.cell (p := ⟨bu, ou + i, none⟩) hbu).trans (HU.out.cell hs)
      have c2 : wr.cell? ⟨bv, ov + i, none⟩ = some (.string s) := (HB.out.cell (p := ⟨bv, ov + i, none⟩) hbv).trans (HV.out.cell hs)
      have r1 := cell_regrown c1
      have r2 := cell_regrown c2
      have hi0 : (0 : Int) ≤ i := by omega
      clear hs
      go_wp2_with fail
      refine QuietCalls.region (by kernel_rfl) (by kernel_rfl) ?_
      iterate 9 first | go_big_quiet_step (fail) | quiet_step (fail)
      refine wpQuiet_nil ?_
      intro w2 hb2
      have HB2 := hide (HB.out.trans (hb2.mono HB.out.size))
      clear hb2 r1 r2 c1 c2
      go_wp2_with fail
      go_roundw
      case rel => exact ⟨i + 1, by omega, by go_num, HB2.out⟩
      case measure => simp [intOf]; omega
    · have hlt' : ¬ ((i : Int) < xs.length) := by omega
      go_wp2_with fail
      go_ret
      exact ⟨rfl, HB.out⟩
theorem rfile_any (size : Nat) (xs : List ByteArray) (v : Value) (w : World) (hsz : size ≤ 100000) (hr : StrRow.Reads w v xs) (hn : xs.length ≤ 256) (hx : ∀ s ∈ xs, s.size = 32) :
    Calls Tryd.prog 16 #[.int .i64 size, v] w fun e w' => e = .returned (.string (named size xs.length (root xs))) ∧ Below w.heap.size w w' := by
  obtain ⟨a, c, rfl⟩ := hr.form
  have hz := root_size xs hx
  have HR := hide (rroot_any xs _ w hr hn hx)
  have HN := hide (fun (w' : World) => rnamed_any size xs.length (root xs) w' hsz (by omega) (by omega))
  clear hr hx
  generalize root xs = R at *
  go_enter Tryd.func16, Tryd.ntmps16
  go_wp2_with fail
  refine HR.out.mono ?_
  rintro e w1 ⟨rfl, hb1⟩
  have HB := hide hb1
  clear hb1
  go_wp2_with fail
  refine (HN.out _).mono ?_
  rintro e w2 ⟨rfl, hb2⟩
  have HB2 := hide (HB.out.trans (hb2.mono HB.out.size))
  clear hb2
  go_wp2_with fail
  go_ret
  exact ⟨rfl, HB2.out⟩
theorem two_below {w0 w w' : World} {e : TypeId} {v1 v2 : Value} {xs ys : List Value} (h : TwoRows.Two w0 e w v1 xs v2 ys) (hb : Below w.heap.size w w') : TwoRows.Two w0 e w' v1 xs v2 ys :=
  ⟨own_below h.1 hb, own_below h.2.1 hb, h.2.2.1, h.2.2.2.trans (hb.mono h.2.2.2.size)⟩
set_option maxHeartbeats 1000000 in
set_option maxRecDepth 100000 in
theorem rof_any (s : ByteArray) (w : World) (hs : s.size ≤ 8192) :
    Calls Tryd.prog 11 #[.string s] w fun e w' => ∃ v, e = .returned v ∧ w'.ownsRow w.heap.size 9 1 v (texts s).length (((texts s).map digest).map Value.string) ∧ Below w.heap.size w w' := by
  obtain ⟨i9, hi9, hz0, hz1, hz2⟩ := info_parts ciInfo9
  have htl := texts_length s
  have hts := texts_size s
  have HL := hide (fun (w' : World) => rlist_any s w' (by omega))
  have HD := hide (fun (x : ByteArray) (w' : World) (hx : x ∈ texts s) => rdigest_any x w' (by have := hts x hx; omega))
  clear hts
  generalize texts s = xs at *
  obtain ⟨DD, HDD, HDL⟩ : ∃ DD : Nat → List Value, Hid (∀ i, DD i = ((xs.take i).map digest).map Value.string) ∧ Hid (∀ i, i ≤ xs.length → (DD i).length = i) := ⟨fun i => ((xs.take i).map digest).map Value.string, fun _ => rfl, fun i hi => by show (((xs.take i).map digest).map Value.string).length = i; rw [List.length_map, List.length_map, List.length_take_of_le hi]⟩
  obtain ⟨DF, HDF⟩ : ∃ DF : List Value, Hid (DF = (xs.map digest).map Value.string) := ⟨_, rfl⟩
  rw [← HDF.out]
  obtain ⟨XV, HXV⟩ : ∃ XV : List Value, Hid (XV = xs.map Value.string) := ⟨_, rfl⟩
  rw [← HXV.out] at HL
  go_enter Tryd.func11, Tryd.ntmps11
  go_wp2_with (go_at_call 39; refine (HL.out _).mono ?_; rintro e w1 ⟨v, rfl, hown, hb⟩; obtain ⟨va, vc, rfl⟩ := own_slice hown
               have HT0 := hide (show TwoRows.Two w 9 w1 (.slice (some ⟨w.heap.size, 0, none⟩) 0 0) [] (.slice va xs.length vc) XV from ⟨own_below (World.ownsRow_made w #[] 0 (Nat.le_refl _) (Nat.zero_le _) rfl) hb, (by have := TwoRows.own_mono hown (base' := w.heap.size) (by simp); rw [HXV.out, List.length_map]; rw [HXV.out] at this; exact this), .inr (fun e => by have := own_base hown e.symm; simp at this; omega), ((Below.refl _ w).alloc (Nat.le_refl _) _).trans (hb.mono (by simp))⟩)
               clear hown hb)
  go_loopw [3, 5] (fun vo vi wr => ∃ i : Nat, i ≤ xs.length ∧ vi = .int .i64 i ∧ Hid (TwoRows.Two w 9 wr vo (DD i) (.slice va xs.length vc) XV)) (fun _ vi _ => 8192 - (intOf vi).toNat)
  case atStart => exact ⟨0, Nat.zero_le _, rfl, by rw [HDD.out 0]; exact HT0.out⟩
  case round =>
    clear HT0
    obtain ⟨i, hi, rfl, HH⟩ := hrel
    have hdi := HDL.out i hi
    have hso := HH.out.1
    rw [hdi] at hso
    obtain ⟨oa, oc, hvo⟩ := own_slice hso
    subst hvo
    clear hso
    by_cases hlt : i < xs.length
    · have hlt' : (i : Int) < xs.length := by omega
      have hrd := StrRow.Reads.of_own (xs := xs) (show wr.ownsRow w.heap.size 9 1 (.slice va xs.length vc) XV.length (xs.map Value.string) from HXV.out ▸ HH.out.2.1)
      obtain ⟨b, off, cap, hv, hcap, hbl⟩ := hrd.at (by intro h; rw [h] at hlt; simp at hlt)
      simp only [Value.slice.injEq, true_and] at hv
      obtain ⟨rfl, rfl⟩ := hv
      obtain ⟨x, hx⟩ : ∃ x, xs[i]? = some x := ⟨_, List.getElem?_eq_getElem hlt⟩
      have hcell := hrd.cell hx
      have HDx := hide (fun (w' : World) => HD.out x w' (List.mem_of_getElem? hx))
      have HT : Hid (DD (i + 1) = DD i ++ [.string (digest x)]) := by show _ = _; rw [HDD.out, HDD.out, List.take_add_one, hx]; simp
      clear hx hrd
      generalize digest x = D at *
      go_wp2_with (first
        | (go_at_call 19; refine (HDx.out _).mono ?_; rintro e w2 ⟨rfl, hb2⟩; have HB2 := hide (two_below HH.out hb2); clear hb2)
        | (at_builtin; refine TwoRows.list_append rfl _ _ 24 rfl i9 (.string ⟨#[]⟩) 16 ciUnder24 hi9 hz0 hz1 hz2 rfl rfl (HB2.out.alloc _) w2.heap.size 1 (.string D) rfl (TwoRows.cell_new w2 _ _) rfl (by rw [hdi]; omega) (by rw [hdi]; unfold maxLen; omega) ?_))
      intro v' w3 h2 _
      have H3 := hide h2
      clear h2
      rw [← HT.out] at H3
      go_wp2
      go_roundw
      case rel => exact ⟨i + 1, by omega, by go_num, H3.out⟩
      case measure => simp [intOf]; omega
    · have hlt' : ¬ ((i : Int) < xs.length) := by omega
      have hin : i = xs.length := by omega
      subst hin
      have HF : Hid (wr.ownsRow w.heap.size 9 1 (.slice oa xs.length oc) xs.length DF ∧ Below w.heap.size w wr) := by
        have h1 := HH.out.1
        rw [hdi, HDD.out, List.take_of_length_le (Nat.le_refl _), ← HDF.out] at h1
        exact ⟨h1, HH.out.2.2.2⟩
      go_wp2_with fail
      go_ret
      exact ⟨_, rfl, HF.out.1, HF.out.2⟩
theorem check_ok (size : Nat) (xs : List ByteArray) (v : Value) (w : World) (hr : StrRow.Reads w v xs) (hz : Sized size xs.length) (hx : ∀ s ∈ xs, s.size = 32) :
    Calls Tryd.prog 17 #[.agg #[.int .i64 size, v]] w fun e w' => e = .returned (.int .i64 0) ∧ Below w.heap.size w w' := by
  obtain ⟨a, c, rfl⟩ := hr.form
  have hb := (Below.refl _ w).alloc (Nat.le_refl _) (.cells #[.int .i64 size, .slice a xs.length c] 26)
  have hrow : (w.alloc (.cells #[.int .i64 size, .slice a xs.length c] 26)).heap[w.heap.size]? = some (.cells #[.int .i64 size, .slice a xs.length c] 26 (0, 0)) := heap_alloc_new _ _
  have HS := hide (fun w => sized_yes size xs.length w (by omega) hz)
  have hn : xs.length ≤ 256 := by have := hz.1; omega
  have hn' : (xs.length : Int) ≤ 256 := by omega
  have HR := hide (hr.below hb (Nat.le_refl _))
  have HX := hide hx
  clear hr hx hz
  go_enter Tryd.func17, Tryd.ntmps17
  go_upto_region 1 with fail
  generalize w.alloc (.cells #[.int .i64 size, .slice a xs.length c] 26) = W at *
  have c0 : W.cell? ⟨w.heap.size, 0, none⟩ = some (.int .i64 size) := by rw [cell_of_row _ _ _ _ _ _ hrow]; rfl
  have c1 : W.cell? ⟨w.heap.size, 1, none⟩ = some (.slice a xs.length c) := by rw [cell_of_row _ _ _ _ _ _ hrow]; rfl
  have HB := hide hb
  clear hb hrow
  go_wp2_with (go_at_call 47; refine (HS.out _).mono ?_; rintro e w2 ⟨rfl, hw⟩; subst hw)
  go_loopw [15] (fun vi wr => ∃ j : Nat, j ≤ xs.length ∧ vi = .int .i64 j ∧ Hid (wr = w2)) (fun vi _ => 256 - (intOf vi).toNat)
  case atStart => exact ⟨0, by omega, rfl, rfl⟩
  case round =>
    obtain ⟨j, hj, rfl, HE⟩ := hrel
    have he := HE.out
    subst he
    clear HE
    by_cases hlt : j < xs.length
    · obtain ⟨b, off, cap, hv, hcap, hbl⟩ := HR.out.at (by intro h; rw [h] at hlt; simp at hlt)
      simp only [Value.slice.injEq, true_and] at hv
      obtain ⟨rfl, rfl⟩ := hv
      obtain ⟨x, hx⟩ : ∃ x, xs[j]? = some x := ⟨_, List.getElem?_eq_getElem hlt⟩
      have hss : x.size = 32 := HX.out x (List.mem_of_getElem? hx)
      have hcell := HR.out.cell hx
      have hlt2 : (j : Int) < xs.length := by omega
      clear hx
      go_wp2_with fail
      go_roundw
      case rel => exact ⟨j + 1, by omega, by go_num, trivial⟩
      case measure => simp [intOf]; omega
    · have hlt2 : ¬ ((j : Int) < xs.length) := by omega
      go_wp2_with fail
      go_ret
      exact ⟨rfl, HB.out⟩
/-- The manifest in its block, its digests and the document's. -/
structure Mf (W : World) (B : Nat) (cs : Array Value) (T : TypeId) (u v : Value) (ds : List ByteArray) (w : World) : Prop where
  box : Bx W B cs T w
  one : StrRow.Reads w u ds
  two : StrRow.Reads w v ds
theorem Mf.step {W : World} {B : Nat} {cs : Array Value} {T : TypeId} {u v : Value} {ds : List ByteArray} {w w' : World} (h : Mf W B cs T u v ds w) (k : Below w.heap.size w w') : Mf W B cs T u v ds w' :=
  ⟨h.box.step k, h.one.below k (Nat.le_refl _), h.two.below k (Nat.le_refl _)⟩
set_option maxHeartbeats 2000000 in
set_option maxRecDepth 100000 in
theorem merkleFiles_any (s : ByteArray) (seed n : Int) (W : World) (hst : Steps W) :
    Calls Tryd.prog 3 #[.string s, .int .u64 seed, .int .i64 n] W fun e w' => e = .returned (.bool true) ∧ Below W.heap.size W w' := by
  have HF := hide (few9_any s seed n W)
  have HST := hide hst
  clear hst
  go_enter Tryd.func3, Tryd.ntmps3
  go_wp2_with fail
  refine HF.out.mono ?_
  rintro e w1 ⟨⟨t, ht, rfl⟩, hb1⟩
  have HB1 := hide hb1
  clear hb1 HF
  have HA := hide (fun (w' : World) (h : Below W.heap.size W w') => awake9_any w' (HST.out.kept h))
  by_cases h8 : 8192 < t.size
  · have HO := hide (of_many t w1 h8)
    have h8' : (8192 : Int) < t.size := by omega
    go_wp2_with (first
      | (go_at_call 9; refine HO.out.mono ?_; rintro e w2 ⟨rfl, hb2⟩; have HB2 := hide (HB1.out.trans (hb2.mono HB1.out.size)); clear hb2)
      | (go_at_call 10; refine (HA.out _ (HB2.out.alloc HB2.out.size _)).mono ?_; rintro e w3 ⟨rfl, hb3⟩
         have I := hide (show Bx W w2.heap.size _ _ w3 from Bx.step ⟨heap_alloc_new w2 (.cells #[.int .i64 0, .slice none 0 0] 26), HB2.out.alloc HB2.out.size _⟩ hb3)
         have c1 : w3.cell? ⟨w2.heap.size, 1, none⟩ = some (.slice none 0 0) := (by rw [cell_of_row _ _ _ _ _ _ I.out.row]; rfl)
         clear hb3))
    go_ret
    exact ⟨rfl, I.out.below⟩
  · have hs8 : t.size ≤ 8192 := by omega
    have h8' : ¬ ((8192 : Int) < t.size) := by omega
    have HO := hide (fun (w' : World) (h : Below W.heap.size W w') => of_any t w' hs8 (HST.out.kept h))
    have HRO := hide (fun (w' : World) => rof_any t w' hs8)
    have hfw := texts_few t
    have hmo := texts_most t
    have htl := texts_length t
    have hn256 : (texts t).length ≤ 256 := by omega
    have hdl : ((texts t).map digest).length = (texts t).length := List.length_map _
    have hd32 : ∀ x ∈ (texts t).map digest, x.size = 32 := fun x hx => by obtain ⟨y, _, rfl⟩ := List.mem_map.1 hx; exact digest_size y
    have HSA := hide (fun (u v : Value) (w' : World) (hu : StrRow.Reads w' u ((texts t).map digest)) (hv : StrRow.Reads w' v ((texts t).map digest)) => same9_any ((texts t).map digest) u v w' hu hv (by omega))
    have HRT := hide (fun (v : Value) (w' : World) (h : Below W.heap.size W w') (hv : StrRow.Reads w' v ((texts t).map digest)) => root_any ((texts t).map digest) v w' hv (by omega) hd32 (HST.out.kept h))
    have HRR := hide (fun (v : Value) (w' : World) (hv : StrRow.Reads w' v ((texts t).map digest)) => rroot_any ((texts t).map digest) v w' hv (by omega) hd32)
    have HFI := hide (fun (v : Value) (w' : World) (h : Below W.heap.size W w') (hv : StrRow.Reads w' v ((texts t).map digest)) => file_any t.size ((texts t).map digest) v w' (by omega) hv (by omega) hd32 (HST.out.kept h))
    have HRF := hide (fun (v : Value) (w' : World) (hv : StrRow.Reads w' v ((texts t).map digest)) => rfile_any t.size ((texts t).map digest) v w' (by omega) hv (by omega) hd32)
    have HCK := hide (fun (v : Value) (w' : World) (hv : StrRow.Reads w' v ((texts t).map digest)) => check_ok t.size ((texts t).map digest) v w' hv (by rw [hdl]; exact ⟨by omega, by omega, by omega, by omega⟩) hd32)
    have HDG := hide (fun (w' : World) (h : Below W.heap.size W w') => digest_any t w' (by omega) (HST.out.kept h))
    have HRD := hide (fun (w' : World) => rdigest_any t w' (by omega))
    have HM : Hid ((texts t).map (fun x => Value.string (digest x)) = ((texts t).map digest).map Value.string) := by show _ = _; rw [List.map_map]; rfl
    rw [hdl] at HFI HRF
    rw [HM.out] at HO
    clear hd32 hfw hmo HM
    generalize (texts t).length = N at *
    generalize (texts t).map digest = ds at *
    generalize named t.size N (root ds) = NM at *
    generalize root ds = RT at *
    generalize digest t = DT at *
    go_wp2_with (first
      | (go_at_call 9; refine (HO.out _ HB1.out).mono ?_; rintro e w2 ⟨v, rfl, hown, hb2⟩; obtain ⟨va, vc, rfl⟩ := own_slice hown; have HB2 := hide (And.intro (HB1.out.trans (hb2.mono HB1.out.size)) (StrRow.Reads.of_own hown)); clear hb2 hown)
      | (go_at_call 10; refine (HA.out _ (HB2.out.1.alloc HB2.out.1.size _)).mono ?_; rintro e w3 ⟨rfl, hb3⟩
         have I := hide (show Bx W w2.heap.size _ _ w3 from Bx.step ⟨heap_alloc_new w2 (.cells #[.int .i64 t.size, .slice va N vc] 26), HB2.out.1.alloc HB2.out.1.size _⟩ hb3)
         have HR3 := hide ((HB2.out.2.below ((Below.refl _ w2).alloc (Nat.le_refl _) (.cells #[.int .i64 t.size, .slice va N vc] 26)) (Nat.le_refl _)).below hb3 (Nat.le_refl _))
         clear hb3)
      | (go_at_call 11; refine (HRO.out _).mono ?_; rintro e w4 ⟨u, rfl, hown, hb4⟩; obtain ⟨ua, uc, rfl⟩ := own_slice hown; have J := hide (Mf.mk (I.out.step hb4) (HR3.out.below hb4 (Nat.le_refl _)) (StrRow.Reads.of_own hown))
         have c0 : w4.cell? ⟨w2.heap.size, 0, none⟩ = some (.int .i64 t.size) := (by rw [cell_of_row _ _ _ _ _ _ J.out.box.row]; rfl)
         have c1 : w4.cell? ⟨w2.heap.size, 1, none⟩ = some (.slice va N vc) := (by rw [cell_of_row _ _ _ _ _ _ J.out.box.row]; rfl)
         clear hb4 hown)
      | (go_at_call 12; refine (HSA.out _ _ _ J.out.one J.out.two).mono ?_; rintro e wq ⟨rfl, hq⟩; replace J := hide (J.out.step hq); clear hq c0 c1; have c0 : wq.cell? ⟨w2.heap.size, 0, none⟩ = some (.int .i64 t.size) := (by rw [cell_of_row _ _ _ _ _ _ J.out.box.row]; rfl); have c1 : wq.cell? ⟨w2.heap.size, 1, none⟩ = some (.slice va N vc) := (by rw [cell_of_row _ _ _ _ _ _ J.out.box.row]; rfl))
      | (go_at_call 13; refine (HRT.out _ _ J.out.box.below J.out.two).mono ?_; rintro e wq ⟨rfl, hq⟩; replace J := hide (J.out.step hq); clear hq c0 c1; have c0 : wq.cell? ⟨w2.heap.size, 0, none⟩ = some (.int .i64 t.size) := (by rw [cell_of_row _ _ _ _ _ _ J.out.box.row]; rfl); have c1 : wq.cell? ⟨w2.heap.size, 1, none⟩ = some (.slice va N vc) := (by rw [cell_of_row _ _ _ _ _ _ J.out.box.row]; rfl))
      | (go_at_call 14; refine (HRR.out _ _ J.out.two).mono ?_; rintro e wq ⟨rfl, hq⟩; replace J := hide (J.out.step hq); clear hq c0 c1; have c0 : wq.cell? ⟨w2.heap.size, 0, none⟩ = some (.int .i64 t.size) := (by rw [cell_of_row _ _ _ _ _ _ J.out.box.row]; rfl); have c1 : wq.cell? ⟨w2.heap.size, 1, none⟩ = some (.slice va N vc) := (by rw [cell_of_row _ _ _ _ _ _ J.out.box.row]; rfl))
      | (go_at_call 15; refine (HFI.out _ _ J.out.box.below J.out.one).mono ?_; rintro e wq ⟨rfl, hq⟩; replace J := hide (J.out.step hq); clear hq c0 c1; have c0 : wq.cell? ⟨w2.heap.size, 0, none⟩ = some (.int .i64 t.size) := (by rw [cell_of_row _ _ _ _ _ _ J.out.box.row]; rfl); have c1 : wq.cell? ⟨w2.heap.size, 1, none⟩ = some (.slice va N vc) := (by rw [cell_of_row _ _ _ _ _ _ J.out.box.row]; rfl))
      | (go_at_call 16; refine (HRF.out _ _ J.out.two).mono ?_; rintro e wq ⟨rfl, hq⟩; replace J := hide (J.out.step hq); clear hq c0 c1; have c0 : wq.cell? ⟨w2.heap.size, 0, none⟩ = some (.int .i64 t.size) := (by rw [cell_of_row _ _ _ _ _ _ J.out.box.row]; rfl); have c1 : wq.cell? ⟨w2.heap.size, 1, none⟩ = some (.slice va N vc) := (by rw [cell_of_row _ _ _ _ _ _ J.out.box.row]; rfl))
      | (go_at_call 17; refine (HCK.out _ _ J.out.one).mono ?_; rintro e wq ⟨rfl, hq⟩; replace J := hide (J.out.step hq); clear hq c0 c1; have c0 : wq.cell? ⟨w2.heap.size, 0, none⟩ = some (.int .i64 t.size) := (by rw [cell_of_row _ _ _ _ _ _ J.out.box.row]; rfl); have c1 : wq.cell? ⟨w2.heap.size, 1, none⟩ = some (.slice va N vc) := (by rw [cell_of_row _ _ _ _ _ _ J.out.box.row]; rfl))
      | (go_at_call 18; refine (HDG.out _ J.out.box.below).mono ?_; rintro e wq ⟨rfl, hq⟩; replace J := hide (J.out.step hq); clear hq c0 c1; have c0 : wq.cell? ⟨w2.heap.size, 0, none⟩ = some (.int .i64 t.size) := (by rw [cell_of_row _ _ _ _ _ _ J.out.box.row]; rfl); have c1 : wq.cell? ⟨w2.heap.size, 1, none⟩ = some (.slice va N vc) := (by rw [cell_of_row _ _ _ _ _ _ J.out.box.row]; rfl))
      | (go_at_call 19; refine (HRD.out _).mono ?_; rintro e wq ⟨rfl, hq⟩; replace J := hide (J.out.step hq); clear hq c0 c1; have c0 : wq.cell? ⟨w2.heap.size, 0, none⟩ = some (.int .i64 t.size) := (by rw [cell_of_row _ _ _ _ _ _ J.out.box.row]; rfl); have c1 : wq.cell? ⟨w2.heap.size, 1, none⟩ = some (.slice va N vc) := (by rw [cell_of_row _ _ _ _ _ _ J.out.box.row]; rfl))
      | (refine wpList_load_row rfl 26 _ rfl _ rfl _ _ _ _ J.out.box.row Tryd.underlying26 rfl infoMan ?_))
    go_ret
    exact ⟨by simp, J.out.box.below⟩
end Go.Proofs.YtoopaeahhbkncaaDoor
