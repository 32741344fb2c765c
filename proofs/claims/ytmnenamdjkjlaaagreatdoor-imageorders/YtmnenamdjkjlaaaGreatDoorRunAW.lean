/- Several texts in one: ImageOrdersWalk, NameFrame. -/
import Derived.Test.YtmnenamdjkjlaaaGreatDoorRunAU
import Derived.Test.YtmnenamdjkjlaaaGreatDoorRunAV
import Derived.Deep.CutBlock
import Derived.Test.YtmnenamdjkjlaaaGreatDoorRunAO
import Derived.ProofKit
import Derived.LaidMore
import Derived.OpenShut
import Derived.ShutString
import Derived.Lib.LaidTab
import Derived.Stop.LaidErr
/- The walk: paths are ordered name by name; images are the same by paths, folders and digests. -/
namespace Go.Proofs.YtmnenamdjkjlaaaGreatDoor
open Go.RowKit Go.Img Go.Shelf Go.Rws
attribute [local go_sem] Oper.semAt_some
theorem fi_bs (P : ByteArray) (d : Bool) (i : Int) (g : ByteArray) (z : Int) : (⟨P.data.toList, d, i, g, z⟩ : Fi).cs = [.string P, .bool d, .int .u64 i, .string g, .int .i64 z] := by
  unfold Fi.cs
  rfl
theorem rows_one {w : World} {g : Nat} {f : Fi} (h : w.heap[g]? = some (.cells f.cs.toArray 36 (0, 0))) : RowsAt Fi.cs 5 w (.slice (some ⟨g, 0, none⟩) 1 1) [f] := by
  refine .inr ⟨g, 0, 1, rfl, (Array.getElem?_eq_some_iff.1 h).1, Nat.le_refl _, fun i x hx j u hu => ?_⟩
  cases i with
  | zero =>
    cases hx
    rw [cell_of_row _ _ _ _ _ _ h, List.getElem?_toArray]
    simpa using hu
  | succ i => cases hx
set_option maxHeartbeats 8000000 in
set_option maxRecDepth 100000 in
theorem imageOrders_any (ap : ByteArray) (ad : Bool) (ai : Int) (ag : ByteArray) (az : Int) (bp : ByteArray) (bd : Bool) (bi : Int) (bg : ByteArray) (bz : Int) (w : World) (hv : Vt w) :
    Calls Tryz.prog 5 #[.agg #[.string ap, .bool ad, .int .u64 ai, .string ag, .int .i64 az], .agg #[.string bp, .bool bd, .int .u64 bi, .string bg, .int .i64 bz]] w fun r w' => r = .returned (.bool true) ∧ Below w.heap.size w w' := by
  have HV := hide hv
  clear hv
  go_enter Tryz.func5, Tryz.ntmps5
  have cA : Hid (Below w.heap.size w ((w.alloc (.cells #[.string ap, .bool ad, .int .u64 ai, .string ag, .int .i64 az] 36)).alloc (.cells #[.string bp, .bool bd, .int .u64 bi, .string bg, .int .i64 bz] 36)) ∧ ((w.alloc (.cells #[.string ap, .bool ad, .int .u64 ai, .string ag, .int .i64 az] 36)).alloc (.cells #[.string bp, .bool bd, .int .u64 bi, .string bg, .int .i64 bz] 36)).heap[w.heap.size]? = some (.cells #[.string ap, .bool ad, .int .u64 ai, .string ag, .int .i64 az] 36 (0, 0)) ∧ ((w.alloc (.cells #[.string ap, .bool ad, .int .u64 ai, .string ag, .int .i64 az] 36)).alloc (.cells #[.string bp, .bool bd, .int .u64 bi, .string bg, .int .i64 bz] 36)).heap[w.heap.size + 1]? = some (.cells #[.string bp, .bool bd, .int .u64 bi, .string bg, .int .i64 bz] 36 (0, 0))) :=
    ⟨((Below.refl _ w).alloc (Nat.le_refl _) _).alloc (by simp) _, (heap_alloc_old _ _ (by simp)).trans (heap_alloc_new w _), new_at (by simp) _⟩
  go_upto_region 1 with fail
  generalize (w.alloc (.cells #[.string ap, .bool ad, .int .u64 ai, .string ag, .int .i64 az] 36)).alloc (.cells #[.string bp, .bool bd, .int .u64 bi, .string bg, .int .i64 bz] 36) = W1 at *
  have c0 : W1.cell? ⟨w.heap.size, 0, none⟩ = some (.string ap) := (cell_of_row _ _ _ _ _ _ cA.out.2.1).trans rfl
  have f0 : W1.frozen? ⟨w.heap.size, 0, none⟩ = false := frozen_of_row _ _ _ _ _ cA.out.2.1
  go_upto_if 10 with fail
  go_cut [] (fun wx => ∃ P : ByteArray, P.size ≤ 250 ∧ Hid (Below w.heap.size w wx ∧ wx.heap[w.heap.size]? = some (.cells #[.string P, .bool ad, .int .u64 ai, .string ag, .int .i64 az] 36 (0, 0)) ∧ wx.heap[w.heap.size + 1]? = some (.cells #[.string bp, .bool bd, .int .u64 bi, .string bg, .int .i64 bz] 36 (0, 0))))
  case first =>
    rcases Nat.lt_or_ge 250 ap.size with hA | hA
    · have hAI : (250 : Int) < ap.size := by omega
      go_wp2_with fail
      go_meet
      exact ⟨ap.extract 0 250, by rw [ByteArray.size_extract]; omega, cA.out.1.setCell (p := ⟨w.heap.size, 0, none⟩) (Nat.le_refl _) _, heap_setCell_same _ _ _ _ _ _ cA.out.2.1, (heap_setCell_other _ _ _ _ (by show w.heap.size + 1 ≠ w.heap.size; omega)).trans cA.out.2.2⟩
    · have hAI : ¬ (250 : Int) < ap.size := by omega
      go_wp2_with fail
      go_meet
      exact ⟨ap, hA, cA.out⟩
  clear c0 f0 cA
  obtain ⟨P, hP, HX⟩ := hcut
  rename World => W2
  have c1 : W2.cell? ⟨w.heap.size + 1, 0, none⟩ = some (.string bp) := (cell_of_row _ _ _ _ _ _ HX.out.2.2).trans rfl
  have f1 : W2.frozen? ⟨w.heap.size + 1, 0, none⟩ = false := frozen_of_row _ _ _ _ _ HX.out.2.2
  go_upto_if 18 with fail
  go_cut [] (fun wx => ∃ Q : ByteArray, Q.size ≤ 250 ∧ Hid (Below w.heap.size w wx ∧ wx.heap[w.heap.size]? = some (.cells #[.string P, .bool ad, .int .u64 ai, .string ag, .int .i64 az] 36 (0, 0)) ∧ wx.heap[w.heap.size + 1]? = some (.cells #[.string Q, .bool bd, .int .u64 bi, .string bg, .int .i64 bz] 36 (0, 0))))
  case first =>
    rcases Nat.lt_or_ge 250 bp.size with hA | hA
    · have hAI : (250 : Int) < bp.size := by omega
      go_wp2_with fail
      go_meet
      exact ⟨bp.extract 0 250, by rw [ByteArray.size_extract]; omega, HX.out.1.setCell (p := ⟨w.heap.size + 1, 0, none⟩) (Nat.le_succ _) _, (heap_setCell_other _ _ _ _ (by show w.heap.size ≠ w.heap.size + 1; omega)).trans HX.out.2.1, heap_setCell_same _ _ _ _ _ _ HX.out.2.2⟩
    · have hAI : ¬ (250 : Int) < bp.size := by omega
      go_wp2_with fail
      go_meet
      exact ⟨bp, hA, HX.out⟩
  clear c1 f1 HX
  obtain ⟨Q, hQ, HX⟩ := hcut
  rename World => W3
  obtain ⟨x, hx⟩ : ∃ x : Fi, x = ⟨P.data.toList, ad, ai, ag, az⟩ := ⟨_, rfl⟩
  obtain ⟨y, hy⟩ : ∃ y : Fi, y = ⟨Q.data.toList, bd, bi, bg, bz⟩ := ⟨_, rfl⟩
  have hxc : x.cs = [.string P, .bool ad, .int .u64 ai, .string ag, .int .i64 az] := by rw [hx]; exact fi_bs P ad ai ag az
  have hyc : y.cs = [.string Q, .bool bd, .int .u64 bi, .string bg, .int .i64 bz] := by rw [hy]; exact fi_bs Q bd bi bg bz
  have hxp : x.path.length ≤ 250 := by rw [hx]; simpa using hP
  have hyp : y.path.length ≤ 250 := by rw [hy]; simpa using hQ
  obtain ⟨C, hC⟩ : ∃ C : Int, C = cmpF x y := ⟨_, rfl⟩
  have HCp : Hid (∀ v, Calls Tryz.prog 17 #[.agg #[.string P, .bool ad, .int .u64 ai, .string ag, .int .i64 az], .agg #[.string Q, .bool bd, .int .u64 bi, .string bg, .int .i64 bz]] v fun e w' => e = .returned (.int .i64 C) ∧ Below v.heap.size v w') := fun v => by
    have h9 := fcompare_any x y v (by omega) (by omega)
    rw [hxc, hyc, ← hC] at h9
    refine h9.mono ?_
    rintro e w' ⟨he, n, hw⟩
    refine ⟨he, ?_⟩
    rw [hw]
    exact (((Below.refl _ v).alloc (Nat.le_refl _) _).alloc (by simp) _).trans ⟨rfl, rfl, rfl, Nat.le_refl _, fun _ _ => rfl⟩
  have hsw : cmpP y.path x.path = -C := by rw [hC]; exact cmpP_swap _ _
  have HBa : Hid (∀ v, Calls Tryz.prog 18 #[.string P, .string Q] v fun e w' => e = .returned (.bool (decide (C < 0))) ∧ Below v.heap.size v w') := fun v => by
    have h9 := rbefore15_any x.path y.path v (by omega) (by omega)
    have e1 : (⟨x.path.toArray⟩ : ByteArray) = P := by rw [hx]
    have e2 : (⟨y.path.toArray⟩ : ByteArray) = Q := by rw [hy]
    rw [e1, e2] at h9
    rw [hC]
    exact h9
  have HBb : Hid (∀ v, Calls Tryz.prog 18 #[.string Q, .string P] v fun e w' => e = .returned (.bool (decide (0 < C))) ∧ Below v.heap.size v w') := fun v => by
    have h9 := rbefore15_any y.path x.path v (by omega) (by omega)
    have e1 : (⟨x.path.toArray⟩ : ByteArray) = P := by rw [hx]
    have e2 : (⟨y.path.toArray⟩ : ByteArray) = Q := by rw [hy]
    rw [e1, e2, hsw] at h9
    have e3 : decide (-C < 0) = decide (0 < C) := by rw [decide_eq_decide]; omega
    rw [e3] at h9
    exact h9
  obtain ⟨S, hS⟩ : ∃ S, S = alikeB x y := ⟨_, rfl⟩
  have hSe : S = ((P.toList == Q.toList) && (ad == bd) && (ag.toList == bg.toList)) := by
    rw [hS, hx, hy]
    unfold alikeB
    rw [ByteArray.toList_eq P, ByteArray.toList_eq Q]
  have HSa : Hid (∀ (g1 g2 : Nat) (v : World), v.heap[g1]? = some (.cells #[.string P, .bool ad, .int .u64 ai, .string ag, .int .i64 az] 36 (0, 0)) → v.heap[g2]? = some (.cells #[.string Q, .bool bd, .int .u64 bi, .string bg, .int .i64 bz] 36 (0, 0)) → Calls Tryz.prog 19 #[.slice (some ⟨g1, 0, none⟩) 1 1, .slice (some ⟨g2, 0, none⟩) 1 1] v fun e w' => e = .returned (.bool S) ∧ Below v.heap.size v w') := fun g1 g2 v h1 h2 => by
    have r1 : RowsAt Fi.cs 5 v (.slice (some ⟨g1, 0, none⟩) 1 1) [x] := rows_one (by rw [hxc]; exact h1)
    have r2 : RowsAt Fi.cs 5 v (.slice (some ⟨g2, 0, none⟩) 1 1) [y] := rows_one (by rw [hyc]; exact h2)
    have h9 := same15_any [x] [y] _ _ v r1 r2 (by simp)
    have e1 : sameB [x] [y] = S := by rw [hS]; unfold sameB; simp
    rw [e1] at h9
    exact h9
  have HSn : Hid (∀ (g1 : Nat) (v : World), v.heap[g1]? = some (.cells #[.string P, .bool ad, .int .u64 ai, .string ag, .int .i64 az] 36 (0, 0)) → Calls Tryz.prog 19 #[.slice (some ⟨g1, 0, none⟩) 1 1, .slice none 0 0] v fun e w' => e = .returned (.bool false) ∧ Below v.heap.size v w') := fun g1 v h1 => by
    have r1 : RowsAt Fi.cs 5 v (.slice (some ⟨g1, 0, none⟩) 1 1) [x] := rows_one (by rw [hxc]; exact h1)
    exact same15_any [x] [] _ _ v r1 (.inl ⟨⟨none, 0, rfl⟩, rfl⟩) (by simp)
  have HA := hide (fun v (h : Vt v) => awake15_any v h)
  have HSE := hide hSe
  clear hx hy hxc hyc hxp hyp hC hsw hS hSe hP hQ
  go_upto_region 6 with (first
    | (refine wpList_load_row rfl 36 _ rfl _ rfl _ _ _ _ HX.out.2.1 Tryz.underlying36 rfl infoFi5 ?_)
    | (refine wpList_load_row rfl 36 _ rfl _ rfl _ _ _ _ HX.out.2.2 Tryz.underlying36 rfl infoFi5 ?_)
    | (go_at_call 17; refine (HCp.out _).mono ?_; rintro e w5 ⟨rfl, k5⟩; have K5 := hide k5; clear k5 HCp))
  have hX5 : Hid (Below w.heap.size w w5 ∧ w5.heap[w.heap.size]? = some (.cells #[.string P, .bool ad, .int .u64 ai, .string ag, .int .i64 az] 36 (0, 0)) ∧ w5.heap[w.heap.size + 1]? = some (.cells #[.string Q, .bool bd, .int .u64 bi, .string bg, .int .i64 bz] 36 (0, 0))) := ⟨HX.out.1.trans (K5.out.mono HX.out.1.size), (K5.out.block _ (Array.getElem?_eq_some_iff.1 HX.out.2.1).1).trans HX.out.2.1, (K5.out.block _ (Array.getElem?_eq_some_iff.1 HX.out.2.2).1).trans HX.out.2.2⟩
  clear K5 HX
  have q0 : ∀ k u, #[Value.string P, .bool ad, .int .u64 ai, .string ag, .int .i64 az][k]? = some u → w5.cell? ⟨w.heap.size, k, none⟩ = some u := fun k u h => (cell_of_row _ _ _ _ _ _ hX5.out.2.1).trans h
  have q1 : ∀ k u, #[Value.string Q, .bool bd, .int .u64 bi, .string bg, .int .i64 bz][k]? = some u → w5.cell? ⟨w.heap.size + 1, k, none⟩ = some u := fun k u h => (cell_of_row _ _ _ _ _ _ hX5.out.2.2).trans h
  have a0 := q0 0 _ rfl
  have a1 := q0 1 _ rfl
  have a3 := q0 3 _ rfl
  have b0 := q1 0 _ rfl
  have b1 := q1 1 _ rfl
  have b3 := q1 3 _ rfl
  clear q0 q1
  go_cut [6] (fun v6 wx => v6 = .bool S ∧ wx = w5)
  case first =>
    obtain ⟨p, hp⟩ : ∃ p, (P.toList == Q.toList) = p := ⟨_, rfl⟩
    obtain ⟨q, hq⟩ : ∃ q, (ad == bd) = q := ⟨_, rfl⟩
    obtain ⟨r, hr⟩ : ∃ r, (ag.toList == bg.toList) = r := ⟨_, rfl⟩
    have HSE2 : Hid (S = (p && q && r)) := by
      show _ = _
      rw [HSE.out, hp, hq, hr]
    cases p
    · go_wp2
      go_meet
      exact ⟨by rw [HSE2.out]; rfl, rfl⟩
    · cases q
      · go_wp2
        go_meet
        exact ⟨by rw [HSE2.out]; rfl, rfl⟩
      · cases r
        · go_wp2
          go_meet
          exact ⟨by rw [HSE2.out]; rfl, rfl⟩
        · go_wp2
          go_meet
          exact ⟨by rw [HSE2.out]; rfl, rfl⟩
  case rest =>
    obtain ⟨rfl, hwc⟩ := hcut
    replace hwc := hwc.symm
    subst hwc
    clear a0 a1 a3 b0 b1 b3
    have ext : ∀ u, Below w5.heap.size w5 u → Hid (Below w.heap.size w u ∧ u.heap[w.heap.size]? = some (.cells #[.string P, .bool ad, .int .u64 ai, .string ag, .int .i64 az] 36 (0, 0)) ∧ u.heap[w.heap.size + 1]? = some (.cells #[.string Q, .bool bd, .int .u64 bi, .string bg, .int .i64 bz] 36 (0, 0))) := fun u k => ⟨hX5.out.1.trans (k.mono hX5.out.1.size), (k.block _ (Array.getElem?_eq_some_iff.1 hX5.out.2.1).1).trans hX5.out.2.1, (k.block _ (Array.getElem?_eq_some_iff.1 hX5.out.2.2).1).trans hX5.out.2.2⟩
    have cel : ∀ u, Hid (Below w.heap.size w u ∧ u.heap[w.heap.size]? = some (.cells #[.string P, .bool ad, .int .u64 ai, .string ag, .int .i64 az] 36 (0, 0)) ∧ u.heap[w.heap.size + 1]? = some (.cells #[.string Q, .bool bd, .int .u64 bi, .string bg, .int .i64 bz] 36 (0, 0))) → u.cell? ⟨w.heap.size, 0, none⟩ = some (.string P) ∧ u.cell? ⟨w.heap.size + 1, 0, none⟩ = some (.string Q) := fun u h => ⟨(cell_of_row _ _ _ _ _ _ h.out.2.1).trans rfl, (cell_of_row _ _ _ _ _ _ h.out.2.2).trans rfl⟩
    have cel5 : ∀ u, Hid (Below w.heap.size w u ∧ u.heap[w.heap.size]? = some (.cells #[.string P, .bool ad, .int .u64 ai, .string ag, .int .i64 az] 36 (0, 0)) ∧ u.heap[w.heap.size + 1]? = some (.cells #[.string Q, .bool bd, .int .u64 bi, .string bg, .int .i64 bz] 36 (0, 0))) → u.cell? ⟨w.heap.size, 1, none⟩ = some (.bool ad) ∧ u.cell? ⟨w.heap.size, 2, none⟩ = some (.int .u64 ai) ∧ u.cell? ⟨w.heap.size, 3, none⟩ = some (.string ag) ∧ u.cell? ⟨w.heap.size, 4, none⟩ = some (.int .i64 az) ∧ u.cell? ⟨w.heap.size + 1, 1, none⟩ = some (.bool bd) ∧ u.cell? ⟨w.heap.size + 1, 2, none⟩ = some (.int .u64 bi) ∧ u.cell? ⟨w.heap.size + 1, 3, none⟩ = some (.string bg) ∧ u.cell? ⟨w.heap.size + 1, 4, none⟩ = some (.int .i64 bz) ∧ w.heap.size ≠ u.heap.size ∧ w.heap.size + 1 ≠ u.heap.size ∧ w.heap.size ≠ u.heap.size + 1 ∧ w.heap.size + 1 ≠ u.heap.size + 1 := fun u h =>
      have e := (Array.getElem?_eq_some_iff.1 h.out.2.2).1
      ⟨(cell_of_row _ _ _ _ _ _ h.out.2.1).trans rfl, (cell_of_row _ _ _ _ _ _ h.out.2.1).trans rfl, (cell_of_row _ _ _ _ _ _ h.out.2.1).trans rfl, (cell_of_row _ _ _ _ _ _ h.out.2.1).trans rfl, (cell_of_row _ _ _ _ _ _ h.out.2.2).trans rfl, (cell_of_row _ _ _ _ _ _ h.out.2.2).trans rfl, (cell_of_row _ _ _ _ _ _ h.out.2.2).trans rfl, (cell_of_row _ _ _ _ _ _ h.out.2.2).trans rfl, by omega, by omega, by omega, by omega⟩
    have X5 := hX5
    have c5 := (cel _ X5).1
    have d5 := (cel _ X5).2
    clear hX5
    go_wp2_with (first
      | (go_at_call 9; refine (HA.out w5 (HV.out.below HV.out.size X5.out.1)).mono ?_; rintro e w6 ⟨rfl, k⟩; have X6 : Hid (Below w.heap.size w w6 ∧ w6.heap[w.heap.size]? = some (.cells #[.string P, .bool ad, .int .u64 ai, .string ag, .int .i64 az] 36 (0, 0)) ∧ w6.heap[w.heap.size + 1]? = some (.cells #[.string Q, .bool bd, .int .u64 bi, .string bg, .int .i64 bz] 36 (0, 0))) := ⟨X5.out.1.trans (k.mono X5.out.1.size), (k.block _ (Array.getElem?_eq_some_iff.1 X5.out.2.1).1).trans X5.out.2.1, (k.block _ (Array.getElem?_eq_some_iff.1 X5.out.2.2).1).trans X5.out.2.2⟩; have c6 := (cel _ X6).1; have d6 := (cel _ X6).2; clear k c5 d5 X5; clear HA HV)
      | (go_at_call 18; refine (HBa.out w6).mono ?_; rintro e w7 ⟨rfl, k⟩; have X7 : Hid (Below w.heap.size w w7 ∧ w7.heap[w.heap.size]? = some (.cells #[.string P, .bool ad, .int .u64 ai, .string ag, .int .i64 az] 36 (0, 0)) ∧ w7.heap[w.heap.size + 1]? = some (.cells #[.string Q, .bool bd, .int .u64 bi, .string bg, .int .i64 bz] 36 (0, 0))) := ⟨X6.out.1.trans (k.mono X6.out.1.size), (k.block _ (Array.getElem?_eq_some_iff.1 X6.out.2.1).1).trans X6.out.2.1, (k.block _ (Array.getElem?_eq_some_iff.1 X6.out.2.2).1).trans X6.out.2.2⟩; have c7 := (cel _ X7).1; have d7 := (cel _ X7).2; clear k c6 d6 X6; clear HBa)
      | (go_at_call 18; refine (HBb.out w7).mono ?_; rintro e w8 ⟨rfl, k⟩; have X8 : Hid (Below w.heap.size w w8 ∧ w8.heap[w.heap.size]? = some (.cells #[.string P, .bool ad, .int .u64 ai, .string ag, .int .i64 az] 36 (0, 0)) ∧ w8.heap[w.heap.size + 1]? = some (.cells #[.string Q, .bool bd, .int .u64 bi, .string bg, .int .i64 bz] 36 (0, 0))) := ⟨X7.out.1.trans (k.mono X7.out.1.size), (k.block _ (Array.getElem?_eq_some_iff.1 X7.out.2.1).1).trans X7.out.2.1, (k.block _ (Array.getElem?_eq_some_iff.1 X7.out.2.2).1).trans X7.out.2.2⟩; have c8 := (cel _ X8).1; have d8 := (cel _ X8).2; clear k c7 d7 X7; clear HBb; have gs8 := cel5 _ X8; obtain ⟨g1, g2, g3, g4, -⟩ := gs8; have X9 : Hid (Below w.heap.size w (w8.alloc (.cells #[.string P, .bool ad, .int .u64 ai, .string ag, .int .i64 az] 36)) ∧ (w8.alloc (.cells #[.string P, .bool ad, .int .u64 ai, .string ag, .int .i64 az] 36)).heap[w.heap.size]? = some (.cells #[.string P, .bool ad, .int .u64 ai, .string ag, .int .i64 az] 36 (0, 0)) ∧ (w8.alloc (.cells #[.string P, .bool ad, .int .u64 ai, .string ag, .int .i64 az] 36)).heap[w.heap.size + 1]? = some (.cells #[.string Q, .bool bd, .int .u64 bi, .string bg, .int .i64 bz] 36 (0, 0))) := ⟨X8.out.1.trans (((Below.refl _ w8).alloc (Nat.le_refl _) _).mono X8.out.1.size), (heap_alloc_old _ _ (Array.getElem?_eq_some_iff.1 X8.out.2.1).1).trans X8.out.2.1, (heap_alloc_old _ _ (Array.getElem?_eq_some_iff.1 X8.out.2.2).1).trans X8.out.2.2⟩; have gs9 := cel5 _ X9; have c9 := (cel _ X9).2; obtain ⟨-, -, -, -, g5, g6, g7, g8, -⟩ := gs9; have N9 := new_at (w := w8) rfl (.cells #[.string P, .bool ad, .int .u64 ai, .string ag, .int .i64 az] 36))
      | fail)
    go_at_call 19

    have z1 := HSa.out w8.heap.size (w8.heap.size + 1) ((w8.alloc (.cells #[.string P, .bool ad, .int .u64 ai, .string ag, .int .i64 az] 36)).alloc (.cells #[.string Q, .bool bd, .int .u64 bi, .string bg, .int .i64 bz] 36)) ((heap_alloc_old _ _ (Array.getElem?_eq_some_iff.1 N9).1).trans N9) (new_at (by simp) _)

    refine z1.mono ?_

    rintro e w9 ⟨rfl, k⟩
    have hB8 := (Array.getElem?_eq_some_iff.1 X8.out.2.2).1
    have k2 := ((Below.refl _ (w8.alloc (.cells #[.string P, .bool ad, .int .u64 ai, .string ag, .int .i64 az] 36))).alloc (Nat.le_refl _) (.cells #[.string Q, .bool bd, .int .u64 bi, .string bg, .int .i64 bz] 36)).trans (k.mono (by simp))
    have X10 : Hid (Below w.heap.size w w9 ∧ w9.heap[w.heap.size]? = some (.cells #[.string P, .bool ad, .int .u64 ai, .string ag, .int .i64 az] 36 (0, 0)) ∧ w9.heap[w.heap.size + 1]? = some (.cells #[.string Q, .bool bd, .int .u64 bi, .string bg, .int .i64 bz] 36 (0, 0))) := ⟨X9.out.1.trans (k2.mono X9.out.1.size), (k.block _ (by simp; omega)).trans ((heap_alloc_old _ _ (Array.getElem?_eq_some_iff.1 X9.out.2.1).1).trans X9.out.2.1), (k.block _ (by simp; omega)).trans ((heap_alloc_old _ _ (Array.getElem?_eq_some_iff.1 X9.out.2.2).1).trans X9.out.2.2)⟩
    clear k k2 c9 g1 g2 g3 g4 g5 g6 g7 g8 N9 X9 c8 d8 X8 HSa z1 hB8
    have gsA := cel5 _ X10
    have cA := (cel _ X10).1
    obtain ⟨g1, g2, g3, g4, -⟩ := gsA
    clear cel cel5 ext
    go_wp2_with fail

    go_at_call 19
    have z2 := HSn.out w9.heap.size (w9.alloc (.cells #[.string P, .bool ad, .int .u64 ai, .string ag, .int .i64 az] 36)) (new_at rfl _)
    refine z2.mono ?_

    rintro e wt ⟨rfl, k⟩
    have KZ := hide (X10.out.1.trans ((((Below.refl _ w9).alloc (Nat.le_refl _) (.cells #[.string P, .bool ad, .int .u64 ai, .string ag, .int .i64 az] 36)).trans (k.mono (by simp))).mono X10.out.1.size))
    clear k z2 HSn X10 g1 g2 g3 g4 cA
    go_wp2_with fail
    go_ret
    exact ⟨rfl, KZ.out⟩

end Go.Proofs.YtmnenamdjkjlaaaGreatDoor
/- What the listed tables give the walks of name, and the start that fits. -/
namespace Go.Proofs.YtmnenamdjkjlaaaGreatDoor
open Go.ChangeShapes Go.WideShapes Go.ChangeAt Go.RowKit
theorem own : ownKnob Tryz.prog.godebug = none := by kernel_rfl
theorem laidOut : laidOutB Tryz.prog = true := by kernel_rfl
theorem tPow : (Tryz.prog.globals[1]?).map (·.type) = some 204 := by kernel_rfl
theorem uPow : Tryz.prog.underlying 204 = some (.array 20 31) := by kernel_rfl
theorem cPow : Tryz.prog.cellsOf 204 = 20 := by kernel_rfl
theorem cU64 : Tryz.prog.cellsOf 31 = 1 := by kernel_rfl
def laidName : List (String × DataW Unit) := [("math/bits.deBruijn32tab", Rows.laid_math_bits_deBruijn32tab), ("math/bits.deBruijn64tab", Rows.laid_math_bits_deBruijn64tab), ("internal/strconv.uint64pow10", Rows.laid_internal_strconv_uint64pow10)]
theorem pow_tab : (Rows.laid_internal_strconv_uint64pow10 : DataW Unit) = Lib.tabData .u64 Lib.pow10Tab := by rfl
theorem laid_lt {P : Program} {W : World} {name : String} {d : DataW Unit} {rest : List (String × DataW Unit)} {g : Nat} (hg : P.globalNamed name = some g) (h : laidMet P ((name, d) :: rest) W) : g < W.heap.size := by
  obtain ⟨ps, ⟨g', t', cs, fuel, p, q, hg', ht', hvar, hd, _, _⟩, _⟩ := h
  simp only [World.var?, hg, Option.bind_some] at hvar
  split at hvar
  · rename_i hh
    exact (Array.getElem?_eq_some_iff.1 hh).1
  · cases hvar
theorem gTab : Tryz.prog.globalNamed "math/bits.deBruijn64tab" = some 3 := by kernel_rfl
theorem of_laid {W : World} (h : laidMetH Tryz.prog laidName W) : Vt W := by
  rw [MakeChecks.laidMetH_plain _ _ _ (by kernel_rfl)] at h
  have hs : 4 ≤ W.heap.size := laid_lt gTab h.tail
  have h2 : laidMet Tryz.prog [("internal/strconv.uint64pow10", Lib.tabData .u64 Lib.pow10Tab)] W := by
    rw [← pow_tab]
    exact h.tail.tail
  exact ⟨Lib.tabIs_of_head gPow tPow uPow Tryz.underlying31 cU64 cPow h2, hs⟩
set_option maxRecDepth 100000 in
/-- The door's own heap meets the condition. -/
theorem door_met (os : Os) (args : Array Value) : laidMetH Tryz.prog laidName ((World.doorLaid Tryz.prog 24 os).forCall (fun _ _ => 0) ⟨#[], args, []⟩).memory :=
  laidMetH_of_parts3 (fuel := 8) (laidMet_of_run' 8 (by kernel_rfl) (by kernel_rfl)) (by kernel_rfl) (by kernel_rfl)
end Go.Proofs.YtmnenamdjkjlaaaGreatDoor
