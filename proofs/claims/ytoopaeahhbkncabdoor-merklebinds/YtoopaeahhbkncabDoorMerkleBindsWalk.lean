/- The walk of MerkleBinds. -/
import Derived.Test.YtoopaeahhbkncabDoorMerkleBindsPart
import Derived.Test.YtoopaeahhbkncabDoorMerkleVerifiesWalk
import Derived.Test.YtoopaeahhbkncabDoorWirePure
import Derived.Deep.DeepCutAuto
import Derived.Deep.CutBlock
namespace Go.Proofs.YtoopaeahhbkncabDoor
open Go.RowKit Go.Shelf Go.Wire Go.Mk Go.Chunk
attribute [local go_sem] Oper.semAt_some
theorem _root_.Go.RegionOwn.Holds.below {w w' : World} {v : Value} {k n : Nat} {xs : List Value} (h : RegionOwn.Holds w v k n xs) (hb : Below w.heap.size w w') : RegionOwn.Holds w' v k n xs := by
  refine ⟨h.1, ?_⟩
  rcases h.2 with h1 | ⟨ad, cap, h1, h2⟩
  · exact .inl h1
  · refine .inr ⟨ad, cap, h1, fun j u hj => ?_⟩
    have hc := h2 j u hj
    rw [hb.cell (block_lt_of_cell hc)]
    exact hc
set_option maxHeartbeats 4000000 in
set_option maxRecDepth 100000 in
theorem merkleBinds_any (seed kind at_ : Int) (W : World) (hs : 0 ≤ seed ∧ seed ≤ 18446744073709551615) (hst : Steps W) :
    Calls Tryd.prog 3 #[.int .u64 seed, .int .i64 kind, .int .i64 at_] W fun e w' => e = .returned (.bool true) ∧ Below W.heap.size W w' := by
  obtain ⟨m, hm⟩ : ∃ m : Nat, seed.tmod 1800 = m := ⟨(seed.tmod 1800).toNat, by have := Int.tmod_nonneg (a := seed) 1800 hs.1; omega⟩
  have hm2 : m < 1800 := by have := Int.tmod_lt_of_pos seed (show (0 : Int) < 1800 by decide); omega
  have hm3 : (m : Int) < 1800 := by omega
  have HF := hide (few9_none seed (200 + m) W (by omega))
  rw [show ((200 + m : Nat) : Int) = 200 + (m : Int) by omega] at HF
  have HST := hide hst
  clear hst hs
  go_enter Tryd.func3, Tryd.ntmps3
  go_wp2_with fail
  refine HF.out.mono ?_
  rintro e w1 ⟨⟨t, ht, rfl⟩, hb1⟩
  have HB1 := hide hb1
  have HA := hide (fun (w' : World) (h : Below W.heap.size W w') => awake9_any w' (HST.out.kept h))
  clear hb1 HF
  have hs8 : t.size ≤ 8192 := by omega
  have HRO := hide (fun (w' : World) => rof_any t w' hs8)
  have hfw := texts_few t
  have hmo := texts_most t
  have hN1 : 1 ≤ (texts t).length := by omega
  have hN2 : (texts t).length ≤ 256 := by omega
  obtain ⟨k, hk⟩ : ∃ k : Nat, (at_.tmod (texts t).length + (texts t).length).tmod (texts t).length = k := by
    have h1 := Int.lt_tmod_of_pos at_ (show (0 : Int) < (texts t).length by omega)
    have h3 := Int.tmod_nonneg (a := at_.tmod (texts t).length + (texts t).length) (texts t).length (by omega)
    exact ⟨((at_.tmod (texts t).length + (texts t).length).tmod (texts t).length).toNat, by omega⟩
  have hk2 : k < (texts t).length := by have := Int.tmod_lt_of_pos (at_.tmod (texts t).length + (texts t).length) (show (0 : Int) < (texts t).length by omega); omega
  obtain ⟨ck, hck⟩ : ∃ ck, (texts t)[k]? = some ck := ⟨_, List.getElem?_eq_getElem hk2⟩
  have HSH := hide (fun (w' : World) (h : Below W.heap.size W w') => show_own t k ck w' hs8 hN2 hck (HST.out.kept h))
  have hok := shown_ok t k ck hs8 hck
  have hpl : (path ((texts t).map digest) k).length ≤ 8 := by rw [path_length, List.length_map]; exact way_eight _ _ hN1 hN2
  have hcs := texts_size t ck (List.mem_of_getElem? hck)
  have hcs1 := texts_some t ck (List.mem_of_getElem? hck)
  have HV := hide (fun (pv : Value) (w' : World) (h : Below W.heap.size W w') (hr : StrRow.Reads w' pv (path ((texts t).map digest) k)) => verify_any ⟨named t.size (texts t).length (root ((texts t).map digest)), t.size, (texts t).length, k, ck, path ((texts t).map digest) k⟩ pv w' hr (HST.out.kept h))
  rw [hok] at HV
  have hw2 : wrap64 (at_.tmod (texts t).length + (texts t).length) = at_.tmod (texts t).length + (texts t).length := by
    have h1 := Int.lt_tmod_of_pos at_ (show (0 : Int) < (texts t).length by omega)
    have h2 := Int.tmod_lt_of_pos at_ (show (0 : Int) < (texts t).length by omega)
    unfold wrap64; omega
  have hN0 : ¬ (((texts t).length : Int) = 0) := by omega
  dsimp only [Sh.v] at HV HSH
  clear hok hck hfw hmo
  generalize named t.size (texts t).length (root ((texts t).map digest)) = DG at *
  generalize path ((texts t).map digest) k = PA at *
  generalize (texts t).length = N at *
  have hZ : t.size ≤ 1999 := by omega
  have hZ' : (t.size : Int) ≤ 1999 := by omega
  clear ht
  generalize t.size = Z at *
  go_upto_region 6 with (first
    | (go_at_call 6; refine (HRO.out _).mono ?_; rintro e w2 ⟨v, rfl, hown, hb2⟩; obtain ⟨va, vc, rfl⟩ := own_slice hown; have HB2 := hide (HB1.out.trans (hb2.mono HB1.out.size)); clear hb2 hown)
    | (go_at_call 7; refine (HSH.out _ HB2.out).mono ?_; rintro e w3 ⟨pv, rfl, hr, hh, hb3⟩; obtain ⟨pa, pc, rfl⟩ := hr.form; have HB3 := hide (And.intro (HB2.out.trans (hb3.mono HB2.out.size)) (And.intro hr hh)); clear hr hh hb3)
    | (go_at_call 8; refine (HA.out _ (HB3.out.1.alloc HB3.out.1.size _)).mono ?_; rintro e w4 ⟨rfl, hb4⟩
       have I := hide (show Bx W w3.heap.size _ _ w4 from Bx.step ⟨heap_alloc_new w3 (.cells #[.string DG, .int .i64 Z, .int .i64 N, .int .i64 k, .string ck, .slice pa PA.length pc] 27), HB3.out.1.alloc HB3.out.1.size _⟩ hb4)
       have R := hide (And.intro ((HB3.out.2.1.below ((Below.refl _ w3).alloc (Nat.le_refl _) (.cells #[.string DG, .int .i64 Z, .int .i64 N, .int .i64 k, .string ck, .slice pa PA.length pc] 27)) (Nat.le_refl _)).below hb4 (Nat.le_refl _)) ((HB3.out.2.2.below ((Below.refl _ w3).alloc (Nat.le_refl _) (.cells #[.string DG, .int .i64 Z, .int .i64 N, .int .i64 k, .string ck, .slice pa PA.length pc] 27))).below hb4))
       obtain ⟨c0, c1, c2, c3, c4, c5⟩ := cells6 I.out.row
       clear hb4)
    | (go_at_call 9; refine (HV.out _ _ I.out.below R.out.1).mono ?_; rintro e w5 ⟨rfl, hb5⟩; replace I := hide (I.out.step hb5); replace R := hide (And.intro (R.out.1.below hb5 (Nat.le_refl _)) (R.out.2.below hb5)); clear hb5 c0 c1 c2 c3 c4 c5; obtain ⟨c0, c1, c2, c3, c4, c5⟩ := cells6 I.out.row))
  obtain ⟨i9, hi9, hz0, hz1, hz2⟩ := info_parts ciInfo9
  have hX : w3.heap.size < w5.heap.size := (Array.getElem?_eq_some_iff.1 I.out.row).1
  have HO0 : Hid (((w5.alloc (.cells #[.string DG, .int .i64 Z, .int .i64 N, .int .i64 k, .string ck, .slice pa PA.length pc] 27)).alloc (.cells #[] 9)).ownsRow (w5.heap.size + 1) 9 1 (.slice (some ⟨w5.heap.size + 1, 0, none⟩) 0 0) 0 []) := by
    have h := World.ownsRow_made (w5.alloc (.cells #[.string DG, .int .i64 Z, .int .i64 N, .int .i64 k, .string ck, .slice pa PA.length pc] 27)) (e := 9) (size := 1) #[] 0 (Nat.le_refl _) (Nat.zero_le _) rfl
    rw [World.size_alloc] at h
    exact h
  have HO1 := hide ((R.out.2.below ((Below.refl _ w5).alloc (Nat.le_refl _) (.cells #[.string DG, .int .i64 Z, .int .i64 N, .int .i64 k, .string ck, .slice pa PA.length pc] 27))).below ((Below.refl _ _).alloc (Nat.le_refl _) (.cells #[] 9)))
  have d5 : ((w5.alloc (.cells #[.string DG, .int .i64 Z, .int .i64 N, .int .i64 k, .string ck, .slice pa PA.length pc] 27)).alloc (.cells #[] 9)).cell? ⟨w3.heap.size, 5, none⟩ = some (.slice pa PA.length pc) := by
    rw [((Below.refl _ w5).alloc (Nat.le_refl _) _ |>.alloc (by simp) _).cell (p := ⟨w3.heap.size, 5, none⟩) hX]; exact c5
  have HBW := hide ((I.out.below.alloc I.out.below.size (.cells #[.string DG, .int .i64 Z, .int .i64 N, .int .i64 k, .string ck, .slice pa PA.length pc] 27)).alloc (by have := I.out.below.size; simp; omega) (.cells #[] 9))
  have HRG := hide (show ((w5.alloc (.cells #[.string DG, .int .i64 Z, .int .i64 N, .int .i64 k, .string ck, .slice pa PA.length pc] 27)).alloc (.cells #[] 9)).heap[w5.heap.size]? = some (.cells #[.string DG, .int .i64 Z, .int .i64 N, .int .i64 k, .string ck, .slice pa PA.length pc] 27 (0, 0)) from kept_alloc (heap_alloc_new _ _) _)
  have hWs := I.out.below.size
  go_upto_region 8 with (first
    | (at_builtin
       refine RegionOwn.list_append_holds (n := 0) (k := PA.length) rfl _ _ 24 rfl i9 (.string ⟨#[]⟩) 1 16 9 ciUnder24 hi9 hz0 hz1 hz2 rfl (by decide) rfl rfl HO0.out (by simp) HO1.out (by intro u hu; obtain ⟨y, _, rfl⟩ := List.mem_map.1 hu; rfl) (by unfold maxLen; omega) (by omega) ?_
       intro v' w8 hown hgrow
       rw [Nat.zero_add, List.nil_append] at hown
       obtain ⟨ya, yc, hv'⟩ := RegionOwn.own_form hown
       subst hv'
       have r8 := row_kept HRG.out hgrow (show some w5.heap.size ≠ some (w5.heap.size + 1) from fun e => (by injection e with e; omega))
       have q8 := row_kept (kept_alloc (kept_alloc I.out.row (.cells #[.string DG, .int .i64 Z, .int .i64 N, .int .i64 k, .string ck, .slice pa PA.length pc] 27)) (.cells #[] 9)) hgrow (show some w3.heap.size ≠ some (w5.heap.size + 1) from fun e => (by injection e with e; omega))
       have b8 := HBW.out.grown hgrow HBW.out.size (fun j ej => (by replace ej : some (w5.heap.size + 1) = some j := ej; injection ej with ej; omega))
       have e5 : w8.cell? ⟨w5.heap.size, 5, none⟩ = some (.slice pa PA.length pc) := (by rw [cell_of_row _ _ _ _ _ _ r8]; rfl)
       have f5 : w8.frozen? ⟨w5.heap.size, 5, none⟩ = false := frozen_of_row _ _ _ _ _ r8
       have H8 := hide (And.intro r8 (And.intro b8 (And.intro hown q8)))
       clear q8 r8 b8 hown hgrow))
  have H9 : Hid (∃ w9, w9 = w8.setCell ⟨w5.heap.size, 5, none⟩ (.slice ya PA.length yc) ∧ w9.heap[w5.heap.size]? = some (.cells #[.string DG, .int .i64 Z, .int .i64 N, .int .i64 k, .string ck, .slice ya PA.length yc] 27 (0, 0)) ∧ w9.ownsRow (w5.heap.size + 1) 9 1 (.slice ya PA.length yc) PA.length (PA.map Value.string) ∧ w9.heap[w3.heap.size]? = some (.cells #[.string DG, .int .i64 Z, .int .i64 N, .int .i64 k, .string ck, .slice pa PA.length pc] 27 (0, 0)) ∧ Below W.heap.size W w9) := by
    obtain ⟨r8, b8, o8, q8⟩ := H8.out
    refine ⟨_, rfl, by rw [heap_setCell_same _ _ _ _ _ _ r8]; rfl, ?_, ?_, b8.setCell (p := ⟨w5.heap.size, 5, none⟩) hWs _⟩
    · exact o8.kept (grown_set _ _ _ _) (by
        cases ho : (Value.slice ya PA.length yc).ownBlock with
        | none => exact .inl rfl
        | some j => exact .inr fun e => by have := own_base o8 ho; injection e with e; omega)
    · exact (Below.heap_setCell _ ⟨w5.heap.size, 5, none⟩ _ w3.heap.size (by show w3.heap.size ≠ w5.heap.size; omega)).trans q8
  obtain ⟨w9, hw9, y9, o9, x9, b9⟩ := H9.out
  rw [← hw9]
  have Y := hide (And.intro y9 (And.intro o9 (And.intro x9 b9)))
  clear hw9 y9 o9 x9 b9 H9 H8 HBW HRG HO0 HO1 d5 e5 f5 c0 c1 c2 c3 c4 c5 I R HSH HRO HA HV HB1 HB2 HB3
  obtain ⟨kd, hkd, hkk⟩ := Wire.and_small kind 7 (by decide)
  rw [show ((7 : Nat) : Int) = 7 from rfl] at hkk
  have hN' : (N : Int) ≤ 256 := by omega
  have hk' : (k : Int) < N := by omega
  have hc1 : (1 : Int) ≤ ck.size := by omega
  have hc2 : (ck.size : Int) ≤ 512 := by omega
  have hpl' : (PA.length : Int) ≤ 8 := by omega
  clear hm hm2 hm3 hs8 hN1 hN2 hw2 hk hk2 hZ hN0
  go_upto_block 0 with fail
  go_cut [6] (fun _ wx => ∃ (x : Sh) (xa : Option Addr) (xc : Nat), Hid (wx.heap[w5.heap.size]? = some (.cells #[.string x.dg, .int .i64 x.sz, .int .i64 x.mn, .int .i64 x.at_, .string x.ck, .slice xa x.pa.length xc] 27 (0, 0)) ∧ StrRow.Reads wx (.slice xa x.pa.length xc) x.pa ∧ x.pa.length ≤ 9 ∧ Below W.heap.size W wx))
  case first =>
    have hR9 := StrRow.Reads.of_own Y.out.2.1
    have HR9 := hide hR9
    obtain ⟨c0, c1, c2, c3, c4, c5⟩ := cells6 Y.out.1
    obtain ⟨x0, x1, x2, x3, x4, x5⟩ := cells6 Y.out.2.2.1
    have f0 : w9.frozen? ⟨w5.heap.size, 0, none⟩ = false := frozen_of_row _ _ _ _ _ Y.out.1
    have f1 : w9.frozen? ⟨w5.heap.size, 1, none⟩ = false := frozen_of_row _ _ _ _ _ Y.out.1
    have f2 : w9.frozen? ⟨w5.heap.size, 2, none⟩ = false := frozen_of_row _ _ _ _ _ Y.out.1
    have f3 : w9.frozen? ⟨w5.heap.size, 3, none⟩ = false := frozen_of_row _ _ _ _ _ Y.out.1
    have f4 : w9.frozen? ⟨w5.heap.size, 4, none⟩ = false := frozen_of_row _ _ _ _ _ Y.out.1
    have f5 : w9.frozen? ⟨w5.heap.size, 5, none⟩ = false := frozen_of_row _ _ _ _ _ Y.out.1
    have HS : Hid (∀ (j : Nat) (u : Value) (cs : Array Value), (w9.setCell ⟨w5.heap.size, j, none⟩ u).heap[w5.heap.size]? = some (.cells cs 27 (0, 0)) → StrRow.Reads (w9.setCell ⟨w5.heap.size, j, none⟩ u) (.slice ya PA.length yc) PA ∧ Below W.heap.size W (w9.setCell ⟨w5.heap.size, j, none⟩ u)) := fun j u cs _ =>
      ⟨StrRow.Reads.of_own (Y.out.2.1.kept (grown_set _ _ _ _) (by
        cases ho : (Value.slice ya PA.length yc).ownBlock with
        | none => exact .inl rfl
        | some j => exact .inr fun e => by have := own_base Y.out.2.1 ho; injection e with e; omega)), Y.out.2.2.2.setCell (p := ⟨w5.heap.size, j, none⟩) hWs _⟩
    have HNE : Hid (some w5.heap.size ≠ (Value.slice ya PA.length yc).ownBlock) := by
      intro e
      have := own_base Y.out.2.1 e.symm
      omega
    clear hR9
    have h8 : kd = 0 ∨ kd = 1 ∨ kd = 2 ∨ kd = 3 ∨ kd = 4 ∨ kd = 5 ∨ kd = 6 ∨ kd = 7 := by omega
    clear hkd
    rcases h8 with rfl | rfl | rfl | rfl | rfl | rfl | rfl | rfl
    · go_wp2_with fail
      go_meet
      have e : (w9.setCell ⟨w5.heap.size, 4, none⟩ (.string (ck ++ ⟨#[120]⟩))).heap[w5.heap.size]? = some (.cells #[.string DG, .int .i64 Z, .int .i64 N, .int .i64 k, .string (ck ++ ⟨#[120]⟩), .slice ya PA.length yc] 27 (0, 0)) := by rw [heap_setCell_same _ _ _ _ _ _ Y.out.1]; rfl
      obtain ⟨h1, h2⟩ := HS.out 4 _ _ e
      exact ⟨⟨DG, Z, N, k, (ck ++ ⟨#[120]⟩), PA⟩, ya, yc, e, h1, by show PA.length ≤ 9; omega, h2⟩
    · go_wp2_with fail
      go_meet
      have e : (w9.setCell ⟨w5.heap.size, 1, none⟩ (.int .i64 (Z + 1))).heap[w5.heap.size]? = some (.cells #[.string DG, .int .i64 (Z + 1), .int .i64 N, .int .i64 k, .string ck, .slice ya PA.length yc] 27 (0, 0)) := by rw [heap_setCell_same _ _ _ _ _ _ Y.out.1]; rfl
      obtain ⟨h1, h2⟩ := HS.out 1 _ _ e
      exact ⟨⟨DG, (Z + 1), N, k, ck, PA⟩, ya, yc, e, h1, by show PA.length ≤ 9; omega, h2⟩
    · go_wp2_with fail
      go_meet
      have e : (w9.setCell ⟨w5.heap.size, 2, none⟩ (.int .i64 (N + 1))).heap[w5.heap.size]? = some (.cells #[.string DG, .int .i64 Z, .int .i64 (N + 1), .int .i64 k, .string ck, .slice ya PA.length yc] 27 (0, 0)) := by rw [heap_setCell_same _ _ _ _ _ _ Y.out.1]; rfl
      obtain ⟨h1, h2⟩ := HS.out 2 _ _ e
      exact ⟨⟨DG, Z, (N + 1), k, ck, PA⟩, ya, yc, e, h1, by show PA.length ≤ 9; omega, h2⟩
    · go_wp2_with fail
      go_meet
      have e : (w9.setCell ⟨w5.heap.size, 3, none⟩ (.int .i64 (k + 1))).heap[w5.heap.size]? = some (.cells #[.string DG, .int .i64 Z, .int .i64 N, .int .i64 (k + 1), .string ck, .slice ya PA.length yc] 27 (0, 0)) := by rw [heap_setCell_same _ _ _ _ _ _ Y.out.1]; rfl
      obtain ⟨h1, h2⟩ := HS.out 3 _ _ e
      exact ⟨⟨DG, Z, N, (k + 1), ck, PA⟩, ya, yc, e, h1, by show PA.length ≤ 9; omega, h2⟩
    · go_wp2_with fail
      go_meet
      have e : (w9.setCell ⟨w5.heap.size, 0, none⟩ (.string ⟨#[49, 50, 51, 52, 53, 54, 55, 56, 57, 48, 49, 50, 51, 52, 53, 54, 55, 56, 57, 48, 49, 50, 51, 52, 53, 54, 55, 56, 57, 48, 49, 50]⟩)).heap[w5.heap.size]? = some (.cells #[.string ⟨#[49, 50, 51, 52, 53, 54, 55, 56, 57, 48, 49, 50, 51, 52, 53, 54, 55, 56, 57, 48, 49, 50, 51, 52, 53, 54, 55, 56, 57, 48, 49, 50]⟩, .int .i64 Z, .int .i64 N, .int .i64 k, .string ck, .slice ya PA.length yc] 27 (0, 0)) := by rw [heap_setCell_same _ _ _ _ _ _ Y.out.1]; rfl
      obtain ⟨h1, h2⟩ := HS.out 0 _ _ e
      exact ⟨⟨⟨#[49, 50, 51, 52, 53, 54, 55, 56, 57, 48, 49, 50, 51, 52, 53, 54, 55, 56, 57, 48, 49, 50, 51, 52, 53, 54, 55, 56, 57, 48, 49, 50]⟩, Z, N, k, ck, PA⟩, ya, yc, e, h1, by show PA.length ≤ 9; omega, h2⟩
    · go_wp2_with (first
        | (at_builtin
           refine wpList_append_own _ rfl _ _ 24 rfl (w5.heap.size + 1) 9 i9 (.string ⟨#[]⟩) 1 16 ciUnder24 hi9 hz0 hz1 hz2 rfl (by decide) _ _ _ rfl (Y.out.2.1.alloc _) ⟨w9.heap.size, 0, none⟩ 1 1 [.string DG] rfl rfl (cell_one_new _ _ _) (by intro u hu; simp at hu; subst hu; rfl) (by unfold maxLen; omega) (by omega) (by have := (Array.getElem?_eq_some_iff.1 Y.out.1).1; simp; omega) ?_
           intro v' w10 hown hgrow _
           obtain ⟨za, zc, hv'⟩ := RegionOwn.own_form hown
           subst hv'
           replace hgrow : (w9.alloc (.cells #[.string DG] 9)).grownBy w10 (Value.slice ya PA.length yc).ownBlock := hgrow
           have r10 := row_kept (kept_alloc Y.out.1 (.cells #[.string DG] 9)) hgrow HNE.out
           have b10 := (Y.out.2.2.2.alloc Y.out.2.2.2.size (.cells #[.string DG] 9)).grown hgrow (Y.out.2.2.2.alloc Y.out.2.2.2.size (.cells #[.string DG] 9)).size (fun j ej => (by have := own_base Y.out.2.1 ej; omega))
           have g5 : w10.cell? ⟨w5.heap.size, 5, none⟩ = some (.slice ya PA.length yc) := (by rw [cell_of_row _ _ _ _ _ _ r10]; rfl)
           have k5 : w10.frozen? ⟨w5.heap.size, 5, none⟩ = false := frozen_of_row _ _ _ _ _ r10
           have HZ := hide (And.intro r10 (And.intro b10 hown))
           clear r10 b10 hown hgrow))
      go_meet
      obtain ⟨r10, b10, o10⟩ := HZ.out
      have e : (w10.setCell ⟨w5.heap.size, 5, none⟩ (.slice za (PA.length + 1) zc)).heap[w5.heap.size]? = some (.cells #[.string DG, .int .i64 Z, .int .i64 N, .int .i64 k, .string ck, .slice za (PA.length + 1) zc] 27 (0, 0)) := by rw [heap_setCell_same _ _ _ _ _ _ r10]; rfl
      have hl : (PA ++ [DG]).length = PA.length + 1 := by simp
      refine ⟨⟨DG, Z, N, k, ck, PA ++ [DG]⟩, za, zc, by rw [hl]; exact e, ?_, by rw [hl]; omega, b10.setCell (p := ⟨w5.heap.size, 5, none⟩) hWs _⟩
      show StrRow.Reads _ (.slice za (PA ++ [DG]).length zc) (PA ++ [DG])
      rw [hl]
      refine StrRow.Reads.of_own (base := w5.heap.size + 1) (e := 9) (n := PA.length + 1) ?_
      rw [List.map_append]
      exact o10.kept (grown_set _ _ _ _) (by
        cases ho : (Value.slice za (PA.length + 1) zc).ownBlock with
        | none => exact .inl rfl
        | some j => exact .inr fun e => by have := own_base o10 ho; injection e with e; omega)
    · by_cases h0 : PA.length = 0
      · have hnil : PA = [] := List.length_eq_zero_iff.1 h0
        subst hnil
        have HB9 := hide Y.out.2.2.2
        dsimp only [List.length_nil] at *
        go_wp2_with fail
        go_ret
        exact ⟨rfl, HB9.out⟩
      · have h0' : ¬ ((PA.length : Int) = 0) := by omega
        have h1' : (1 : Int) ≤ PA.length := by omega
        have hnn : ¬ PA = [] := fun h => by rw [h] at h0; simp at h0
        obtain ⟨yb, yoff, ycap, hv, hcap, hbl⟩ := HR9.out.at (by intro h; rw [h] at h0; simp at h0)
        simp only [Value.slice.injEq, true_and] at hv
        obtain ⟨rfl, rfl⟩ := hv
        have hcap' : (PA.length : Int) ≤ yc := by omega
        have hdl : (PA.drop 1).length = PA.length - 1 := by rw [List.length_drop]
        by_cases hy1 : yc = 1
        · have hd0 : PA.drop 1 = [] := List.drop_eq_nil_iff.2 (by omega)
          go_wp2_with fail
          go_meet
          have e : (w9.setCell ⟨w5.heap.size, 5, none⟩ (.slice (some ⟨yb, yoff, none⟩) (PA.length - 1) 0)).heap[w5.heap.size]? = some (.cells #[.string DG, .int .i64 Z, .int .i64 N, .int .i64 k, .string ck, .slice (some ⟨yb, yoff, none⟩) (PA.length - 1) 0] 27 (0, 0)) := by rw [heap_setCell_same _ _ _ _ _ _ Y.out.1]; rfl
          obtain ⟨h1, h2⟩ := HS.out 5 _ _ e
          refine ⟨⟨DG, Z, N, k, ck, PA.drop 1⟩, some ⟨yb, yoff, none⟩, 0, by rw [hdl]; exact e, ?_, by rw [hdl]; omega, h2⟩
          show StrRow.Reads _ (.slice _ (PA.drop 1).length 0) (PA.drop 1)
          rw [hd0]
          exact .inl ⟨⟨_, _, rfl⟩, rfl⟩
        · go_wp2_with fail
          go_meet
          have e : (w9.setCell ⟨w5.heap.size, 5, none⟩ (.slice (some ⟨yb, yoff + 1, none⟩) (PA.length - 1) (yc - 1))).heap[w5.heap.size]? = some (.cells #[.string DG, .int .i64 Z, .int .i64 N, .int .i64 k, .string ck, .slice (some ⟨yb, yoff + 1, none⟩) (PA.length - 1) (yc - 1)] 27 (0, 0)) := by rw [heap_setCell_same _ _ _ _ _ _ Y.out.1]; rfl
          obtain ⟨h1, h2⟩ := HS.out 5 _ _ e
          refine ⟨⟨DG, Z, N, k, ck, PA.drop 1⟩, some ⟨yb, yoff + 1, none⟩, yc - 1, by rw [hdl]; exact e, ?_, by rw [hdl]; omega, h2⟩
          show StrRow.Reads _ (.slice _ (PA.drop 1).length _) (PA.drop 1)
          rw [hdl]
          by_cases hl1 : 1 < PA.length
          · exact reads_drop h1 1 hl1
          · have hd0 : PA.drop 1 = [] := List.drop_eq_nil_iff.2 (by omega)
            rw [hd0, show PA.length - 1 = 0 by omega]
            exact .inl ⟨⟨_, _, rfl⟩, rfl⟩
    · go_wp2_with fail
      go_meet
      have e : (w9.setCell ⟨w5.heap.size, 4, none⟩ (.string (ck.extract 1 ck.size))).heap[w5.heap.size]? = some (.cells #[.string DG, .int .i64 Z, .int .i64 N, .int .i64 k, .string (ck.extract 1 ck.size), .slice ya PA.length yc] 27 (0, 0)) := by rw [heap_setCell_same _ _ _ _ _ _ Y.out.1]; rfl
      obtain ⟨h1, h2⟩ := HS.out 4 _ _ e
      exact ⟨⟨DG, Z, N, k, (ck.extract 1 ck.size), PA⟩, ya, yc, e, h1, by show PA.length ≤ 9; omega, h2⟩
  case rest =>
    obtain ⟨x, xa, xc, I⟩ := hcut
    clear Y
    have HV := hide (fun (w' : World) (h : Below wc.heap.size wc w') => verify_any x _ w' (I.out.2.1.below h (Nat.le_refl _)) (HST.out.kept (I.out.2.2.2.trans (h.mono I.out.2.2.2.size))))
    have HR := hide (fun (w' : World) (h : Below wc.heap.size wc w') => ref9_any x xa xc w' (I.out.2.1.below h (Nat.le_refl _)) (by have := I.out.2.2.1; unfold maxLen; omega))
    have HW := hide (fun (w' : World) (h : Below wc.heap.size wc w') => rverify_any x.few (.slice xa (min x.pa.length 21) xc) w' (reads_few (I.out.2.1.below h (Nat.le_refl _))))
    rw [x.few_verdict] at HW
    generalize x.verdict = V at *
    obtain ⟨dg, sz, mn, yat, yck, ypa⟩ := x
    dsimp only [Sh.v, Sh.few] at HV HR HW I
    have HT : Hid (∀ w', Below wc.heap.size wc w' → Below wc.heap.size wc w') := fun w' h => h
    go_upto_region 26 with fail
    by_cases hV : V = 0
    · subst hV
      refine QuietCalls.region (by kernel_rfl) (by kernel_rfl) ?_
      refine QuietCalls.load rfl 27 _ rfl _ rfl _ _ _ _ I.out.1 Tryd.underlying27 rfl infoShare ?_; simp only [Act.put, List.setIfInBounds_toArray, List.set_cons_succ, List.set_cons_zero]
      refine QuietCalls.call1 rfl rfl Tryd.call9 (fun w h => HV.out w (HT.out w h)) rfl ?_; simp only [Act.put, List.setIfInBounds_toArray, List.set_cons_succ, List.set_cons_zero]
      refine QuietCalls.load rfl 27 _ rfl _ rfl _ _ _ _ I.out.1 Tryd.underlying27 rfl infoShare ?_; simp only [Act.put, List.setIfInBounds_toArray, List.set_cons_succ, List.set_cons_zero]
      refine QuietCalls.call1 rfl rfl Tryd.call11 (fun w h => HR.out w (HT.out w h)) rfl ?_; simp only [Act.put, List.setIfInBounds_toArray, List.set_cons_succ, List.set_cons_zero]
      refine QuietCalls.call1 rfl rfl Tryd.call10 (fun w h => HW.out w (HT.out w h)) rfl ?_; simp only [Act.put, List.setIfInBounds_toArray, List.set_cons_succ, List.set_cons_zero]
      iterate 2 first | go_big_quiet_step (fail) | quiet_step (fail)
      refine QuietCalls.load rfl 27 _ rfl _ rfl _ _ _ _ I.out.1 Tryd.underlying27 rfl infoShare ?_; simp only [Act.put, List.setIfInBounds_toArray, List.set_cons_succ, List.set_cons_zero]
      refine QuietCalls.call1 rfl rfl Tryd.call9 (fun w h => HV.out w (HT.out w h)) rfl ?_; simp only [Act.put, List.setIfInBounds_toArray, List.set_cons_succ, List.set_cons_zero]
      iterate 2 first | go_big_quiet_step (fail) | quiet_step (fail)
      refine QuietCalls.load rfl 27 _ rfl _ rfl _ _ _ _ I.out.1 Tryd.underlying27 rfl infoShare ?_; simp only [Act.put, List.setIfInBounds_toArray, List.set_cons_succ, List.set_cons_zero]
      refine QuietCalls.call1 rfl rfl Tryd.call11 (fun w h => HR.out w (HT.out w h)) rfl ?_; simp only [Act.put, List.setIfInBounds_toArray, List.set_cons_succ, List.set_cons_zero]
      refine QuietCalls.call1 rfl rfl Tryd.call10 (fun w h => HW.out w (HT.out w h)) rfl ?_; simp only [Act.put, List.setIfInBounds_toArray, List.set_cons_succ, List.set_cons_zero]
      iterate 4 first | go_big_quiet_step (fail) | quiet_step (fail)
      refine wpQuiet_nil ?_
      intro w2 hb2
      have HB := hide (I.out.2.2.2.trans (hb2.mono I.out.2.2.2.size))
      clear hb2
      go_wp2_with fail
      go_ret
      exact ⟨by simp, HB.out⟩
    · have hV0 : (V == 0) = false := beq_eq_false_iff_ne.2 hV
      refine QuietCalls.region (by kernel_rfl) (by kernel_rfl) ?_
      refine QuietCalls.load rfl 27 _ rfl _ rfl _ _ _ _ I.out.1 Tryd.underlying27 rfl infoShare ?_; simp only [Act.put, List.setIfInBounds_toArray, List.set_cons_succ, List.set_cons_zero]
      refine QuietCalls.call1 rfl rfl Tryd.call9 (fun w h => HV.out w (HT.out w h)) rfl ?_; simp only [Act.put, List.setIfInBounds_toArray, List.set_cons_succ, List.set_cons_zero]
      refine QuietCalls.load rfl 27 _ rfl _ rfl _ _ _ _ I.out.1 Tryd.underlying27 rfl infoShare ?_; simp only [Act.put, List.setIfInBounds_toArray, List.set_cons_succ, List.set_cons_zero]
      refine QuietCalls.call1 rfl rfl Tryd.call11 (fun w h => HR.out w (HT.out w h)) rfl ?_; simp only [Act.put, List.setIfInBounds_toArray, List.set_cons_succ, List.set_cons_zero]
      refine QuietCalls.call1 rfl rfl Tryd.call10 (fun w h => HW.out w (HT.out w h)) rfl ?_; simp only [Act.put, List.setIfInBounds_toArray, List.set_cons_succ, List.set_cons_zero]
      iterate 2 first | go_big_quiet_step (fail) | quiet_step (fail)
      refine QuietCalls.load rfl 27 _ rfl _ rfl _ _ _ _ I.out.1 Tryd.underlying27 rfl infoShare ?_; simp only [Act.put, List.setIfInBounds_toArray, List.set_cons_succ, List.set_cons_zero]
      refine QuietCalls.call1 rfl rfl Tryd.call9 (fun w h => HV.out w (HT.out w h)) rfl ?_; simp only [Act.put, List.setIfInBounds_toArray, List.set_cons_succ, List.set_cons_zero]
      iterate 9 first | go_big_quiet_step (fail) | quiet_step (fail)
      refine wpQuiet_nil ?_
      intro w2 hb2
      have HB := hide (I.out.2.2.2.trans (hb2.mono I.out.2.2.2.size))
      clear hb2
      go_wp2_with fail
      go_ret
      exact ⟨by simp, HB.out⟩
end Go.Proofs.YtoopaeahhbkncabDoor
