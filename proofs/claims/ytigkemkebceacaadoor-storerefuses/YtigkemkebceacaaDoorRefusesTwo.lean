/- Several texts in one: StoreRefusesWalk. -/
import Derived.Test.YtigkemkebceacaaDoorRefusesOne
import Derived.Test.YtigkemkebceacaaDoorChunkTwo
import Derived.Deep.DeepCutAuto
import Derived.Deep.CutBlock
/- The walk of StoreRefuses. -/
namespace Go.Proofs.YtigkemkebceacaaDoor
open Go.RowKit Go.Shelf Go.Wire Go.Mk Go.Chunk Go.MapFun Go.St10
attribute [local go_sem] Oper.semAt_some
theorem reads_most {w : World} {a : Option Addr} {c : Nat} {xs : List ByteArray} (k : Nat) (h : StrRow.Reads w (.slice a xs.length c) xs) : StrRow.Reads w (.slice a (min xs.length k) c) (xs.take k) := by
  rcases h with ⟨⟨a', cap, h⟩, rfl⟩ | ⟨b, off, cap, h1, h2, h3, h4⟩
  · exact .inl ⟨⟨a, c, by simp⟩, by simp⟩
  · cases h1
    have hl : (xs.take k).length = min xs.length k := by rw [List.length_take]; omega
    refine .inr ⟨b, off, c, by rw [hl], h2, by omega, fun j s hj => ?_⟩
    have hjk : j < min xs.length k := by rw [← hl]; exact (List.getElem?_eq_some_iff.1 hj).1
    rw [List.getElem?_take_of_lt (by omega)] at hj
    exact h4 j s hj
/-- A manifest in its block, and a new store behind it. -/
structure Rf (w : World) (cs : Array Value) (W : World) : Prop where
  row : W.heap[w.heap.size]? = some (.cells cs 24 (0, 0))
  st : StX Tryd.prog 55 (w.heap.size + 1) 0 (w.heap.size + 1) 1048576 0 (fun _ => none) (fun _ => none) W
  below : Below w.heap.size w W
theorem _root_.Go.St10.StX.aside {P : Program} {S base K b : Nat} {q u : Int} {C : ByteArray → Option Pc} {F : ByteArray → Option Mn} {w : World} (h : StX P S base K b q u C F w) {X : Nat} (hX : X < base) (j : Nat) (v : Value) : StX P S base K b q u C F (w.setCell ⟨X, j, none⟩ v) := by
  obtain ⟨cm, fm, h, hb, hc, hf⟩ := h
  refine ⟨cm, fm, ⟨?_, ?_, ?_, h.apart⟩, hb, hc, hf⟩
  · rw [Below.heap_setCell _ _ _ _ (by dsimp only; omega)]
    exact h.row
  · exact h.ch.kept fun y e => Below.heap_setCell _ _ _ _ (by have := hc y e; dsimp only; omega)
  · exact h.fi.kept fun y e => Below.heap_setCell _ _ _ _ (by have := hf y e; dsimp only; omega)
theorem Rf.set {w W : World} {x y : Value} (h : Rf w #[x, y] W) (z : Value) : Rf w #[x, z] (W.setCell ⟨w.heap.size, 1, none⟩ z) :=
  ⟨by rw [heap_setCell_same _ _ _ _ _ _ h.row]; rfl, h.st.aside (Nat.lt_succ_self _) _ _, h.below.setCell (Nat.le_refl _) _⟩
theorem and_three (n : Int) : ∃ m : Nat, m ≤ 3 ∧ bits .and .i64 n 3 = (m : Int) := by
  have e : bits .and .i64 n 3 = IntKind.i64.wrap ((BitVec.ofInt 64 n &&& BitVec.ofInt 64 3).toNat : Int) := rfl
  have hle : (BitVec.ofInt 64 n &&& BitVec.ofInt 64 3).toNat ≤ 3 := by
    rw [BitVec.toNat_and]
    exact Nat.le_trans Nat.and_le_right (by decide)
  refine ⟨_, hle, ?_⟩
  rw [e]
  exact Sha.wrap_i64 _ (by omega) (by omega)
/-- A file of at most 8192 bytes added to a store with much room: it answers OK. -/
theorem addR {base K b : Nat} {C : ByteArray → Option Pc} {F : ByteArray → Option Mn} (s : ByteArray) (w : World) (hs : s.size ≤ 8192) (h : StX Tryd.prog 55 base K b 1048576 0 C F w) (hst : Steps w) (hb0 : 0 < base) (hK : K ≤ 0 + 301) (hu : ∀ x, 0 ≤ (pc C x).u ∧ (pc C x).u ≤ 1300) :
    Calls Tryd.prog 7 #[.pointer (some ⟨b, 0, none⟩), .string s] w fun e w' => (∃ g, e = .returned (.tuple #[.string g, .int .i64 0])) ∧ Trn base b w w' := by
  have h1 := texts_few s
  have h2 := sumAt_le (texts_size s) (lackTo C ((texts s).map digest) (texts s).length)
  have h3 := lackTo_le C ((texts s).map digest) (texts s).length
  refine (add_any s w h hs (by omega) (texts_size s) hst hb0 (by omega) (by omega) (by omega) (by omega) (by unfold maxLen; omega) (fun x => by have := hu x; omega)).mono ?_
  rintro e w' ⟨rfl, ht, -⟩
  exact ⟨⟨_, rfl⟩, ht⟩
set_option maxRecDepth 100000 in
set_option maxHeartbeats 4000000 in
theorem storeRefuses_any (size : Int) (xs : List ByteArray) (v : Value) (n : Int) (W : World) (hr : StrRow.Reads W v xs) (hm : xs.length ≤ maxLen) (hst : Steps W) :
    Calls Tryd.prog 3 #[.agg #[.int .i64 size, v], .int .i64 n] W fun e w' => e = .returned (.bool true) ∧ Below W.heap.size W w' := by
  obtain ⟨a, c, rfl⟩ := hr.form
  have HST := hide hst
  have HR := hide (reads_most 300 hr)
  have hcap : xs.length ≤ c := by
    rcases hr with ⟨⟨_, _, _⟩, rfl⟩ | ⟨_, _, _, h1, _, h3, _⟩
    · exact Nat.zero_le _
    · cases h1; exact h3
  have ha : 300 < xs.length → ∃ b off, a = some ⟨b, off, none⟩ := fun hl => by
    rcases hr with ⟨⟨_, _, _⟩, rfl⟩ | ⟨b, off, _, h1, _, _, _⟩
    · simp at hl
    · cases h1; exact ⟨b, off, rfl⟩
  have HNW := hide (newStore_any 1048576 (W.alloc (.cells #[.int .i64 size, .slice a xs.length c] 24)) (by decide))
  clear hst hr
  go_enter Tryd.func3, Tryd.ntmps3
  go_upto_region 2 with (go_at_call 5; refine HNW.out.mono ?_; rintro e w1 ⟨rfl, hs1, hb1⟩; have H1 := hide (And.intro hs1 hb1); clear hs1 hb1)
  have HI : Hid (Rf W #[.int .i64 size, .slice a xs.length c] w1) := by
    have k1 : Below W.heap.size W (W.alloc (.cells #[.int .i64 size, .slice a xs.length c] 24)) := (Below.refl _ W).alloc (Nat.le_refl _) _
    refine ⟨(H1.out.2.block _ (by simp)).trans (heap_alloc_new _ _), ?_, k1.trans (H1.out.2.mono k1.size)⟩
    have := H1.out.1
    rw [World.size_alloc] at this
    refine ⟨none, none, this, Nat.le_refl _, ⟨?_, ?_⟩⟩ <;> (intro x h; cases h)
  clear HNW H1
  have c1 : w1.cell? ⟨W.heap.size, 1, none⟩ = some (.slice a xs.length c) := by rw [cell_of_row _ _ _ _ _ _ HI.out.row]; rfl
  have f1 : w1.frozen? ⟨W.heap.size, 1, none⟩ = false := frozen_of_row _ _ _ _ _ HI.out.row
  go_upto_if 19 with fail
  go_cut [] (fun wx => Hid (Rf W #[.int .i64 size, .slice a (min xs.length 300) c] wx))
  case first =>
    by_cases h3 : 300 < xs.length
    · obtain ⟨b, off, rfl⟩ := ha h3
      have h3' : (300 : Int) < xs.length := by omega
      have hc' : (300 : Int) ≤ c := by omega
      have HN : Hid (min xs.length 300 = 300) := by show _ = _; omega
      go_wp2_with fail
      go_meet
      rw [HN.out]
      exact HI.out.set _
    · have h3' : ¬ ((300 : Int) < xs.length) := by omega
      have HN : Hid (min xs.length 300 = xs.length) := by show _ = _; omega
      go_wp2_with fail
      go_meet
      rw [HN.out]
      exact HI.out
  obtain ⟨ys, hys⟩ : ∃ ys, ys = xs.take 300 := ⟨_, rfl⟩
  have hyl : min xs.length 300 = ys.length := by rw [hys, List.length_take]; omega
  have hy3 : ys.length ≤ 300 := by omega
  rw [← hys, hyl] at HR
  rw [hyl] at hcut
  clear hyl hys HI hcap ha hm c1 f1
  have HKW := hide (knowSt_any size ys _ wc hcut.out.st (HR.out.below hcut.out.below (Nat.le_refl _)) hy3 (HST.out.kept hcut.out.below) (Nat.succ_pos _) (by unfold maxLen; omega) (fun s => by simp [pc, Pc.zero]))
  obtain ⟨x0, x1, -, -⟩ := two_cells hcut.out.row
  go_upto_region 6 with (go_at_call 6; refine HKW.out.mono ?_; rintro e w2 ⟨⟨bb, rfl⟩, ht2, hk2⟩; have H2 := hide (And.intro ht2 hk2); clear ht2 hk2)
  obtain ⟨m, hm3, hand⟩ := and_three n
  rw [hand]
  have hwr : wrap64 (8190 + (m : Int)) = ((8190 + m : Nat) : Int) := by
    have : wrap64 (8190 + (m : Int)) = 8190 + (m : Int) := by unfold wrap64; omega
    rw [this]
    omega
  rw [hwr]
  obtain ⟨k, hk⟩ : ∃ k, k = 8190 + m := ⟨_, rfl⟩
  have hk1 : 8190 ≤ k := by omega
  have hk2 : k ≤ 8193 := by omega
  rw [← hk]
  clear hwr hand hk hm3
  have k2 : Below W.heap.size W w2 := hcut.out.below.trans (H2.out.1.below.mono (Nat.le_succ _))
  have r2 : w2.heap[W.heap.size]? = some (.cells #[.int .i64 size, .slice a ys.length c] 24 (0, 0)) := (H2.out.1.below.block _ (Nat.lt_succ_self _)).trans hcut.out.row
  have HT := hide (ctext_any 5 k w2 (by omega))
  obtain ⟨K', C', F', hK', hu', hs2⟩ := H2.out.2
  have H3 := hide (And.intro k2 (And.intro r2 (And.intro hK' (And.intro hu' hs2))))
  have CH := chk_two size ys
  obtain ⟨ck, hck⟩ : ∃ ck, ck = chk size ys := ⟨_, rfl⟩
  rw [← hck] at CH ⊢
  have HCK := hide hck
  clear k2 r2 hK' hu' hs2 H2 HKW hck x0 x1
  have hk1' : (8190 : Int) ≤ k := by omega
  have hk2' : (k : Int) ≤ 8193 := by omega
  by_cases hle : k ≤ 8192
  · have hle' : (k : Int) ≤ 8192 := by omega
    go_upto_region 7 with (first
      | (go_at_call 8; refine HT.out.mono ?_; rintro e w3 ⟨⟨t, ht, rfl⟩, hb3⟩; have H4 := hide (And.intro ht hb3); clear ht hb3)
      | (go_at_call 7; refine (addR t _ (by rw [H4.out.1]; omega) (H3.out.2.2.2.2.below H4.out.2) (HST.out.kept (H3.out.1.trans (H4.out.2.mono H3.out.1.size))) (Nat.succ_pos _) H3.out.2.2.1 H3.out.2.2.2.1).mono ?_; rintro e w4 ⟨⟨g, rfl⟩, ht4⟩; have H5 := hide ht4; clear ht4))
    have K4 : Below W.heap.size W w4 := ((H3.out.1.trans (H4.out.2.mono H3.out.1.size)).trans (H5.out.below.mono (Nat.le_succ _)))
    have R4 : w4.heap[W.heap.size]? = some (.cells #[.int .i64 size, .slice a ys.length c] 24 (0, 0)) := (H5.out.below.block _ (Nat.lt_succ_self _)).trans ((H4.out.2.block _ (Array.getElem?_eq_some_iff.1 H3.out.2.1).1).trans H3.out.2.1)
    have HAW := hide (awake10_any w4 (HST.out.kept K4))
    have H6 := hide (And.intro K4 R4)
    clear K4 R4 H5 H4 H3 HT
    go_wp2_with (first
      | (go_at_call 9; refine HAW.out.mono ?_; rintro e w5 ⟨rfl, hb5⟩; obtain ⟨y0, y1, -, -⟩ := two_cells ((hb5.block _ (Array.getElem?_eq_some_iff.1 H6.out.2).1).trans H6.out.2); have H7 : Hid (Below W.heap.size W w5) := H6.out.1.trans (hb5.mono H6.out.1.size); clear hb5)
      | (go_at_call 10; refine (rcheck_any size ys _ _ (HR.out.below H7.out (Nat.le_refl _)) (by omega)).mono ?_; rw [← HCK.out]; rintro e w6 ⟨rfl, hb6⟩; have H8 := hide hb6; clear hb6))
    go_ret
    exact ⟨rfl, H7.out.trans (H8.out.mono H7.out.size)⟩
  · have hle' : ¬ ((k : Int) ≤ 8192) := by omega
    go_upto_region 7 with (first
      | (go_at_call 8; refine HT.out.mono ?_; rintro e w3 ⟨⟨t, ht, rfl⟩, hb3⟩; have H4 := hide (And.intro ht hb3); clear ht hb3)
      | (go_at_call 7; refine (addSt_many _ t _ (by rw [H4.out.1]; omega)).mono ?_; rintro e w4 ⟨rfl, hb4⟩; have H5 := hide hb4; clear hb4))
    have K4 : Below W.heap.size W w4 := ((H3.out.1.trans (H4.out.2.mono H3.out.1.size)).trans (H5.out.mono (H3.out.1.trans (H4.out.2.mono H3.out.1.size)).size))
    have R4 : w4.heap[W.heap.size]? = some (.cells #[.int .i64 size, .slice a ys.length c] 24 (0, 0)) := (H5.out.block _ (Nat.lt_of_lt_of_le (Array.getElem?_eq_some_iff.1 H3.out.2.1).1 H4.out.2.size)).trans ((H4.out.2.block _ (Array.getElem?_eq_some_iff.1 H3.out.2.1).1).trans H3.out.2.1)
    have HAW := hide (awake10_any w4 (HST.out.kept K4))
    have H6 := hide (And.intro K4 R4)
    clear K4 R4 H5 H4 H3 HT
    go_wp2_with (first
      | (go_at_call 9; refine HAW.out.mono ?_; rintro e w5 ⟨rfl, hb5⟩; obtain ⟨y0, y1, -, -⟩ := two_cells ((hb5.block _ (Array.getElem?_eq_some_iff.1 H6.out.2).1).trans H6.out.2); have H7 : Hid (Below W.heap.size W w5) := H6.out.1.trans (hb5.mono H6.out.1.size); clear hb5)
      | (go_at_call 10; refine (rcheck_any size ys _ _ (HR.out.below H7.out (Nat.le_refl _)) (by omega)).mono ?_; rw [← HCK.out]; rintro e w6 ⟨rfl, hb6⟩; have H8 := hide hb6; clear hb6))
    go_ret
    refine ⟨?_, H7.out.trans (H8.out.mono H7.out.size)⟩
    simp [hle']
end Go.Proofs.YtigkemkebceacaaDoor
