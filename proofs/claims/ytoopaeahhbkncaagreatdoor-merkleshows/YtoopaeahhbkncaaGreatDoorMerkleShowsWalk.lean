/- The walk of MerkleShows. -/
import Derived.Test.YtoopaeahhbkncaaGreatDoorMerkleTake
import Derived.Test.YtoopaeahhbkncaaGreatDoorMerkleBindsPart
import Derived.Test.YtoopaeahhbkncaaGreatDoorMerklePath
import Derived.Test.YtoopaeahhbkncaaGreatDoorMerkleShowNo
import Derived.Test.YtoopaeahhbkncaaGreatDoorRegionGuard
namespace Go.Mk
open Go.RowKit Go.Wire
theorem climb_sizes {t ck : ByteArray} {k : Nat} (hs : t.size ≤ 8192) (hck : (Chunk.texts t)[k]? = some ck) : Tells ⟨named t.size (Chunk.texts t).length (root ((Chunk.texts t).map digest)), t.size, (Chunk.texts t).length, k, ck, path ((Chunk.texts t).map digest) k⟩ := by
  have hm := List.mem_of_getElem? hck
  have h1 := Chunk.texts_few t
  have hkl := (List.getElem?_eq_some_iff.1 hck).1
  have h4 := Chunk.texts_size t ck hm
  have hd32 : ∀ x ∈ (Chunk.texts t).map digest, x.size = 32 := fun x hx => by obtain ⟨y, _, rfl⟩ := List.mem_map.1 hx; exact digest_size y
  refine ⟨tag_size _ _, ⟨by show (0 : Int) ≤ (t.size : Int); omega, by show (t.size : Int) < _; omega⟩, ⟨by show (0 : Int) ≤ ((Chunk.texts t).length : Int); omega, by show ((Chunk.texts t).length : Int) < _; omega⟩, ⟨by show (0 : Int) ≤ (k : Int); omega, by show (k : Int) < _; omega⟩, by show ck.size < _; omega, ?_, path_sizes _ _ hd32⟩
  show (path ((Chunk.texts t).map digest) k).length < 256
  rw [path_length, List.length_map]
  have := way_eight k (Chunk.texts t).length (by omega) (by omega)
  omega
/-- A share in its block, its digests, the chunks, the document's digests. -/
structure Sx (S X : Nat) (cs : Array Value) (pv lv dv : Value) (ps ls ds : List ByteArray) (W w : World) : Prop where
  row : w.heap[X]? = some (.cells cs S (0, 0))
  one : StrRow.Reads w pv ps
  two : StrRow.Reads w lv ls
  three : StrRow.Reads w dv ds
  below : Below W.heap.size W w
theorem Sx.step {S X : Nat} {cs : Array Value} {pv lv dv : Value} {ps ls ds : List ByteArray} {W w w' : World} (i : Sx S X cs pv lv dv ps ls ds W w) (k : Below w.heap.size w w') : Sx S X cs pv lv dv ps ls ds W w' :=
  ⟨kept_block i.row k, i.one.below k (Nat.le_refl _), i.two.below k (Nat.le_refl _), i.three.below k (Nat.le_refl _), i.below.trans (k.mono i.below.size)⟩
theorem below_of_rd {R b : Nat} {q : St} {w w' : World} (h : Rd R b q w) (h' : Rd R b q w') (k : Kept b w w') : Below w.heap.size w w' :=
  ⟨k.below.os, k.below.tape, k.below.output, k.below.size, fun j hj => by
    by_cases e : j = b
    · subst e; exact (show w'.heap[j]? = _ from h').trans (show w.heap[j]? = _ from h).symm
    · exact k.other j e hj⟩
end Go.Mk
namespace Go.Proofs.YtoopaeahhbkncaaGreatDoor
open Go.RowKit Go.Shelf Go.Wire Go.Mk Go.Chunk
attribute [local go_sem] Oper.semAt_some
set_option maxRecDepth 100000 in
set_option maxHeartbeats 8000000 in
theorem merkleShows_any (s : ByteArray) (seed at_ : Int) (W : World) (hs : 0 ≤ seed ∧ seed ≤ 18446744073709551615) (hst : Steps W) :
    Calls Tryz.prog 3 #[.string s, .int .u64 seed, .int .i64 at_] W fun e w' => e = .returned (.bool true) ∧ Below W.heap.size W w' := by
  obtain ⟨m, hm⟩ : ∃ m : Nat, seed.tmod 1500 = m := ⟨(seed.tmod 1500).toNat, by have := Int.tmod_nonneg (a := seed) 1500 hs.1; omega⟩
  have hm2 : m < 1500 := by have := Int.tmod_lt_of_pos seed (show (0 : Int) < 1500 by decide); omega
  have hm3 : (m : Int) < 1500 := by omega
  have HF := hide (few9_any s seed m W)
  have HST := hide hst
  clear hst hs
  go_enter Tryz.func3, Tryz.ntmps3
  go_wp2_with fail
  refine HF.out.mono ?_
  rintro e w1 ⟨⟨t, ht, rfl⟩, hb1⟩
  have HB1 := hide hb1
  have HA := hide (fun (w' : World) (h : Below W.heap.size W w') => awake9_any w' (HST.out.kept h))
  have HL := hide (fun (w' : World) => rlist_any t w' (by omega))
  clear hb1 HF hm2 hm3 hm
  by_cases h8 : 8192 < t.size
  · have HS := hide (fun (w' : World) => show_many t at_ w' h8)
    have h8' : (8192 : Int) < t.size := by omega
    generalize (texts t).map Value.string = tv at *
    generalize (texts t).length = N at *
    go_wp2_with (first
      | (go_at_call 5; refine (HL.out _).mono ?_; rintro e w2 ⟨v, rfl, hown, hb2⟩; obtain ⟨va, vc, rfl⟩ := own_slice hown; have HB2 := hide (HB1.out.trans (hb2.mono HB1.out.size)); clear hb2 hown)
      | (go_at_call 6; refine (HS.out _).mono ?_; rintro e w3 ⟨rfl, hb3⟩; have HB3 := hide ((HB2.out.trans (hb3.mono HB2.out.size)).alloc (Nat.le_trans HB2.out.size hb3.size) (.cells #[.string ⟨#[]⟩, .int .i64 0, .int .i64 0, .int .i64 0, .string ⟨#[]⟩, .slice none 0 0] 27)); clear hb3)
      | (go_at_call 7; refine (HA.out _ HB3.out).mono ?_; rintro e w4 ⟨rfl, hb4⟩; have HB4 := hide (HB3.out.trans (hb4.mono HB3.out.size)); clear hb4))
    go_ret
    exact ⟨rfl, HB4.out⟩
  · have hs8 : t.size ≤ 8192 := by omega
    have h8' : ¬ ((8192 : Int) < t.size) := by omega
    by_cases hk : at_ < 0 ∨ ((texts t).length : Int) ≤ at_
    · have HS := hide (fun (w' : World) (h : Below W.heap.size W w') => show_none t at_ w' hs8 hk (HST.out.kept h))
      generalize (texts t).map Value.string = tv at *
      generalize (texts t).length = N at *
      have hk2 : (at_ < 0) ∨ (¬ at_ < 0 ∧ (N : Int) ≤ at_) := by omega
      clear hk
      rcases hk2 with h0 | ⟨h0, h1⟩
      all_goals (
        go_wp2_with (first
          | (go_at_call 5; refine (HL.out _).mono ?_; rintro e w2 ⟨v, rfl, hown, hb2⟩; obtain ⟨va, vc, rfl⟩ := own_slice hown; have HB2 := hide (HB1.out.trans (hb2.mono HB1.out.size)); clear hb2 hown)
          | (go_at_call 6; refine (HS.out _ HB2.out).mono ?_; rintro e w3 ⟨rfl, hb3⟩; have HB3 := hide (show Bx W w3.heap.size #[.string ⟨#[]⟩, .int .i64 0, .int .i64 0, .int .i64 0, .string ⟨#[]⟩, .slice none 0 0] 27 (w3.alloc (.cells #[.string ⟨#[]⟩, .int .i64 0, .int .i64 0, .int .i64 0, .string ⟨#[]⟩, .slice none 0 0] 27)) from ⟨heap_alloc_new _ _, (HB2.out.trans (hb3.mono HB2.out.size)).alloc (Nat.le_trans HB2.out.size hb3.size) _⟩); clear hb3)
          | (go_at_call 7; refine (HA.out _ HB3.out.below).mono ?_; rintro e w4 ⟨rfl, hb4⟩; have HB4 := hide (HB3.out.step hb4); clear hb4; obtain ⟨c0, c1, c2, c3, c4, c5⟩ := cells6 HB4.out.row))
        go_ret
        exact ⟨rfl, HB4.out.below⟩)
    · obtain ⟨k, rfl⟩ : ∃ k : Nat, at_ = k := ⟨at_.toNat, by omega⟩
      have hk1 : k < (texts t).length := by omega
      have hk2 : ¬ ((k : Int) < 0) := by omega
      have hk3 : (k : Int) < (texts t).length := by omega
      clear hk
      have hfw := texts_few t
      have hN2 : (texts t).length ≤ 256 := by omega
      obtain ⟨ck, hck⟩ : ∃ ck, (texts t)[k]? = some ck := ⟨_, List.getElem?_eq_getElem hk1⟩
      have hdl : ((texts t).map digest).length = (texts t).length := List.length_map _
      have hd32 : ∀ x ∈ (texts t).map digest, x.size = 32 := fun x hx => by obtain ⟨y, _, rfl⟩ := List.mem_map.1 hx; exact digest_size y
      have hok := shown_ok t k ck hs8 hck
      have htl := climb_sizes hs8 hck
      have hpl : (path ((texts t).map digest) k).length ≤ 8 := by rw [path_length, List.length_map]; exact way_eight _ _ (by omega) hN2
      have HSH := hide (fun (w' : World) (h : Below W.heap.size W w') => show_any t k ck w' hs8 hN2 hck (HST.out.kept h))
      have HRO := hide (fun (w' : World) => rof_any t w' hs8)
      have HV0 := hide (fun (pv : Value) (w' : World) (h : Below W.heap.size W w') (hr : StrRow.Reads w' pv (path ((texts t).map digest) k)) => verify_any ⟨named t.size (texts t).length (root ((texts t).map digest)), t.size, (texts t).length, k, ck, path ((texts t).map digest) k⟩ pv w' hr (HST.out.kept h))
      rw [hok] at HV0
      have HF0 := hide (fun (v : Value) (w' : World) (hv : StrRow.Reads w' v ((texts t).map digest)) => rfile_any t.size ((texts t).map digest) v w' (by omega) hv (by omega) hd32)
      rw [hdl] at HF0
      have HP0 := hide (fun (v : Value) (w' : World) (hv : StrRow.Reads w' v ((texts t).map digest)) => rpath_any ((texts t).map digest) k v w' hv (by omega) (.inl (by omega)) hd32)
      have HSA := hide (fun (u v : Value) (w' : World) (hu : StrRow.Reads w' u (path ((texts t).map digest) k)) (hv : StrRow.Reads w' v (path ((texts t).map digest) k)) => same9_any (path ((texts t).map digest) k) u v w' hu hv (by omega))
      have HPU := hide (fun (pv : Value) (B : Nat) (w' : World) (h : Wr 59 B B [] w') (hB : B ≤ w'.heap.size) (hR : ∀ w'', Below B w' w'' → StrRow.Reads w'' pv (path ((texts t).map digest) k)) =>
        show Calls Tryz.prog 10 #[.pointer (some ⟨B, 0, none⟩), Sh.v ⟨named t.size (texts t).length (root ((texts t).map digest)), t.size, (texts t).length, k, ck, path ((texts t).map digest) k⟩ pv] w' fun e w2 => e = .returned (.tuple #[]) ∧ Wr 59 B B (shBytes ⟨named t.size (texts t).length (root ((texts t).map digest)), t.size, (texts t).length, k, ck, path ((texts t).map digest) k⟩) w2 ∧ Below B w' w2 from
        (put9_any B (.pointer (some ⟨B, 0, none⟩)) pv [] _ w' (.inr ⟨B, rfl, h⟩) (by decide) hB htl hR).mono fun e w2 ⟨a, b, c⟩ => ⟨a, by
          rcases b with b | ⟨b', b, hr⟩
          · cases b
          · obtain rfl : B = b' := by simpa using b
            exact hr, c⟩)
      have hsa := share_at (q := ⟨⟨(shBytes ⟨named t.size (texts t).length (root ((texts t).map digest)), t.size, (texts t).length, k, ck, path ((texts t).map digest) k⟩).toArray⟩, 0, 0⟩) (A := []) (C := []) htl ⟨by simp, rfl, rfl⟩
      have hbl : (shBytes ⟨named t.size (texts t).length (root ((texts t).map digest)), t.size, (texts t).length, k, ck, path ((texts t).map digest) k⟩).length ≤ 5000 := by
        have h1 := htl.dg
        have h2 := cat_length _ htl.pa
        have h4 := texts_size t ck (List.mem_of_getElem? hck)
        unfold shBytes
        simp only [List.length_append, num_length, ← size_list] at h1 h2 ⊢
        rw [h1, h2]
        omega
      generalize hXS : shBytes ⟨named t.size (texts t).length (root ((texts t).map digest)), t.size, (texts t).length, k, ck, path ((texts t).map digest) k⟩ = XS at *
      clear hXS
      have HTK := hide (fun (b : Nat) (w' : World) (h : Rd 65 b ⟨⟨XS.toArray⟩, 0, 0⟩ w') => take9_any b ⟨⟨XS.toArray⟩, 0, 0⟩ w' h (Nat.zero_le _) (by rw [size_list]; unfold maxLen; simp; omega))
      rw [hsa] at HTK
      have HE0 := hide (fun (b : Nat) (w' : World) (h : Rd 65 b ((St.mk ⟨XS.toArray⟩ 0 0).on XS.length) w') => show Calls Tryz.prog 18 #[.pointer (some ⟨b, 0, none⟩)] w' fun e w'' => e = .returned (.int .i64 0) ∧ Below w'.heap.size w' w'' from by
        have hfin : ((St.mk ⟨XS.toArray⟩ 0 0).on XS.length).fin = (St.mk ⟨XS.toArray⟩ 0 0).on XS.length := St.fin_end _ (by show ¬ 0 < (((⟨XS.toArray⟩ : ByteArray).size : Nat) : Int) - ((0 + XS.length : Nat) : Int); rw [size_list]; simp)
        have := end_any b ((St.mk ⟨XS.toArray⟩ 0 0).on XS.length) w' h (by show 0 + XS.length ≤ (⟨XS.toArray⟩ : ByteArray).size; rw [size_list]; simp) (by show (⟨XS.toArray⟩ : ByteArray).size ≤ maxLen; rw [size_list]; unfold maxLen; simp; omega)
        rw [hfin] at this
        exact this.mono fun e w'' ⟨a, b', c⟩ => ⟨a, below_of_rd h b' c⟩)
      have HAll := hide (fun (B : Nat) (w' : World) (hB : B ≤ w'.heap.size) (h : Wr 59 B B XS w') => (wall_any B B XS w' hB h).mono fun e w2 h => (⟨h.1, h.2.2⟩ : e = .returned (.string ⟨XS.toArray⟩) ∧ Below B w' w2))
      have HCK := hide hck
      clear hok htl hsa hd32 hfw hck hdl hbl
      dsimp only [Sh.v] at HV0 HSH HPU HTK
      generalize (St.mk ⟨XS.toArray⟩ 0 0).on XS.length = q at *
      generalize named t.size (texts t).length (root ((texts t).map digest)) = DG at *
      generalize path ((texts t).map digest) k = PA at *
      generalize hds : (texts t).map digest = ds at *
      generalize htx : texts t = ls at *
      clear hds htx
      obtain ⟨N, hN⟩ : ∃ N, N = ls.length := ⟨_, rfl⟩
      have hpl' : (PA.length : Int) ≤ 8 := by omega
      rw [← hN] at HL HRO HSH HV0 HPU HTK hk1 hk3 hN2
      have HN := hide hN
      clear hN
      go_upto_region 14 with (first
        | (go_at_call 5; refine (HL.out _).mono ?_; rintro e w2 ⟨v, rfl, hown, hb2⟩; obtain ⟨la, lc, rfl⟩ := own_slice hown; have HB2 := hide (And.intro (HB1.out.trans (hb2.mono HB1.out.size)) (StrRow.Reads.of_own hown)); clear hb2 hown)
        | (go_at_call 6; refine (HSH.out _ HB2.out.1).mono ?_; rintro e w3 ⟨pv, rfl, hr, hb3⟩; obtain ⟨pa, pc, rfl⟩ := hr.form
           have J := hide (show Sx 27 w3.heap.size #[.string DG, .int .i64 t.size, .int .i64 N, .int .i64 k, .string ck, .slice pa PA.length pc] (.slice pa PA.length pc) (.slice la N lc) (.slice none 0 0) PA ls [] W (w3.alloc (.cells #[.string DG, .int .i64 t.size, .int .i64 N, .int .i64 k, .string ck, .slice pa PA.length pc] 27)) from Sx.mk (heap_alloc_new _ _) (hr.below ((Below.refl _ w3).alloc (Nat.le_refl _) _) (Nat.le_refl _)) ((HB2.out.2.below hb3 (Nat.le_refl _)).below ((Below.refl _ w3).alloc (Nat.le_refl _) _) (Nat.le_refl _)) (.inl ⟨⟨_, _, rfl⟩, rfl⟩) ((HB2.out.1.trans (hb3.mono HB2.out.1.size)).alloc (Nat.le_trans HB2.out.1.size hb3.size) _))
           clear hr hb3)
        | (go_at_call 7; refine (HA.out _ J.out.below).mono ?_; rintro e w4 ⟨rfl, hb4⟩; replace J := hide (J.out.step hb4); clear hb4)
        | (go_at_call 8; refine (HRO.out _).mono ?_; rintro e w5 ⟨v, rfl, hown, hb5⟩; obtain ⟨da, dc, rfl⟩ := own_slice hown; replace J := hide (show Sx 27 w3.heap.size #[.string DG, .int .i64 t.size, .int .i64 N, .int .i64 k, .string ck, .slice pa PA.length pc] (.slice pa PA.length pc) (.slice la N lc) (.slice da N dc) PA ls ds W w5 from Sx.mk (J.out.step hb5).row (J.out.step hb5).one (J.out.step hb5).two (StrRow.Reads.of_own hown) (J.out.step hb5).below); clear hb5 hown)
        | (go_at_call 9; refine (newWriter_any _).mono ?_; rintro e w6 ⟨rfl, h6, k6⟩; have K := hide (And.intro h6 k6); clear h6 k6)
        | (refine wpList_load_row rfl 27 _ rfl _ rfl _ _ _ _ (J.out.step K.out.2).row Tryz.underlying27 rfl infoShare ?_)
        | (go_at_call 10; refine (HPU.out _ _ _ K.out.1 K.out.2.size (fun w'' k => (J.out.step (K.out.2.trans k)).one)).mono ?_; rintro e w7 ⟨rfl, h7, k7⟩; replace K := hide (And.intro h7 (K.out.2.trans k7)); clear h7 k7)
        | (go_at_call 12; refine (HAll.out _ _ K.out.2.size K.out.1).mono ?_; rintro e w8 ⟨rfl, k8⟩; have L := hide (J.out.step (K.out.2.trans k8)); clear k8)
        | (go_at_call 11; refine (newReader_any _ _).mono ?_; rintro e w9 ⟨rfl, h9, k9⟩; have M := hide (And.intro h9 k9); clear h9 k9))
      go_wp2_with (first
        | (go_at_call 13; refine (HTK.out _ _ M.out.1).mono ?_; rintro e w10 ⟨yv, rfl, hown, h10, k10⟩; obtain ⟨ya, yc, rfl⟩ := own_slice hown
           have U := hide (And.intro (L.out.step (M.out.2.trans k10.below)) (And.intro h10 (StrRow.Reads.of_own hown)))
           clear hown h10 k10))
      have V := hide (And.intro (U.out.1.step ((Below.refl _ w10).alloc (Nat.le_refl _) (.cells #[.string DG, .int .i64 t.size, .int .i64 N, .int .i64 k, .string ck, .slice ya PA.length yc] 27))) (And.intro (U.out.2.1.of_heap (heap_alloc_old w10 (.cells #[.string DG, .int .i64 t.size, .int .i64 N, .int .i64 k, .string ck, .slice ya PA.length yc] 27) U.out.2.1.lt)) (And.intro (U.out.2.2.below ((Below.refl _ w10).alloc (Nat.le_refl _) (.cells #[.string DG, .int .i64 t.size, .int .i64 N, .int .i64 k, .string ck, .slice ya PA.length yc] 27)) (Nat.le_refl _)) (heap_alloc_new w10 (.cells #[.string DG, .int .i64 t.size, .int .i64 N, .int .i64 k, .string ck, .slice ya PA.length yc] 27)))))
      clear U M L K J HB2 HTK HPU HAll HSH HRO HL HA HB1
      generalize w10.alloc (.cells #[.string DG, .int .i64 t.size, .int .i64 N, .int .i64 k, .string ck, .slice ya PA.length yc] 27) = Wg at *
      generalize w10.heap.size = Y at *
      generalize w8.heap.size = b at *
      generalize w3.heap.size = X at *
      obtain ⟨lb, lo, lcap, hlv, hlc, _⟩ := V.out.1.two.at (by intro h; rw [h] at HCK; have := HCK.out; simp at this)
      simp only [Value.slice.injEq] at hlv
      obtain ⟨rfl, hNl, rfl⟩ := hlv
      clear hNl
      have HCX : Hid (∀ x', Below Wg.heap.size Wg x' → _) := fun x' h => cells6 (kept_block V.out.1.row h)
      have HCY : Hid (∀ x', Below Wg.heap.size Wg x' → _) := fun x' h => cells6 (kept_block V.out.2.2.2 h)
      have HCL : Hid (∀ x', Below Wg.heap.size Wg x' → x'.cell? ⟨lb, lo + k, none⟩ = some (.string ck)) := fun x' h => (V.out.1.two.below h (Nat.le_refl _)).cell HCK.out
      have HFI := hide (fun (x' : World) (h : Below Wg.heap.size Wg x') => HF0.out _ x' (V.out.1.three.below h (Nat.le_refl _)))
      have HPA := hide (fun (x' : World) (h : Below Wg.heap.size Wg x') => HP0.out _ x' (V.out.1.three.below h (Nat.le_refl _)))
      have HRX := hide (fun (x' : World) (h : Below Wg.heap.size Wg x') => V.out.1.one.below h (Nat.le_refl _))
      have HRY := hide (fun (x' : World) (h : Below Wg.heap.size Wg x') => V.out.2.2.1.below h (Nat.le_refl _))
      have HVX := hide (fun (x' : World) (h : Below Wg.heap.size Wg x') => HV0.out _ x' (V.out.1.below.trans (h.mono V.out.1.below.size)) (HRX.out x' h))
      have HVY := hide (fun (x' : World) (h : Below Wg.heap.size Wg x') => HV0.out _ x' (V.out.1.below.trans (h.mono V.out.1.below.size)) (HRY.out x' h))
      have HEN := hide (fun (x' : World) (h : Below Wg.heap.size Wg x') => HE0.out b x' (V.out.2.1.of_heap (h.block _ V.out.2.1.lt)))
      have HBG := hide V.out.1.below
      clear V HV0 HF0 HP0 HE0 HCK HN hN2 hlc hk1
      refine RegionOwn.regionK 77 139 9 1 (fun i => match i with
        | 0 => RegionOwn.val (.int .i64 0)
        | 1 => RegionOwn.val (.bool true)
        | 2 => RegionOwn.val (.bool true)
        | 3 => RegionOwn.val (.pointer (some ⟨X, 0, none⟩))
        | 4 => RegionOwn.val (.string DG)
        | 5 => RegionOwn.val (.string t)
        | 6 => RegionOwn.val (.int .i64 t.size)
        | 7 => RegionOwn.val (.slice da N dc)
        | 8 => RegionOwn.val (.string DG)
        | 9 => RegionOwn.val (.bool true)
        | 10 => RegionOwn.val (.bool true)
        | 11 => RegionOwn.val (.bool true)
        | 12 => RegionOwn.val (.pointer (some ⟨X, 1, none⟩))
        | 13 => RegionOwn.val (.int .i64 t.size)
        | 14 => RegionOwn.val (.string t)
        | 15 => RegionOwn.val (.int .i64 t.size)
        | 16 => RegionOwn.val (.bool true)
        | 17 => RegionOwn.val (.bool true)
        | 18 => RegionOwn.val (.bool true)
        | 19 => RegionOwn.val (.pointer (some ⟨X, 2, none⟩))
        | 20 => RegionOwn.val (.int .i64 N)
        | 21 => RegionOwn.val (.slice (some ⟨lb, lo, none⟩) N lc)
        | 22 => RegionOwn.val (.int .i64 N)
        | 23 => RegionOwn.val (.bool true)
        | 24 => RegionOwn.val (.bool true)
        | 25 => RegionOwn.val (.bool true)
        | 26 => RegionOwn.val (.pointer (some ⟨X, 3, none⟩))
        | 27 => RegionOwn.val (.int .i64 k)
        | 28 => RegionOwn.val (.int .i64 k)
        | 29 => RegionOwn.val (.bool true)
        | 30 => RegionOwn.val (.bool true)
        | 31 => RegionOwn.val (.bool true)
        | 32 => RegionOwn.val (.pointer (some ⟨X, 4, none⟩))
        | 33 => RegionOwn.val (.string ck)
        | 34 => RegionOwn.val (.slice (some ⟨lb, lo, none⟩) N lc)
        | 35 => RegionOwn.val (.int .i64 k)
        | 36 => RegionOwn.val (.pointer (some ⟨lb, lo + k, none⟩))
        | 37 => RegionOwn.val (.string ck)
        | 38 => RegionOwn.val (.bool true)
        | 39 => RegionOwn.val (.bool true)
        | 40 => RegionOwn.val (.bool true)
        | 41 => RegionOwn.val (.pointer (some ⟨X, 5, none⟩))
        | 42 => RegionOwn.val (.slice pa PA.length pc)
        | 43 => RegionOwn.val (.slice da N dc)
        | 44 => RegionOwn.val (.int .i64 k)
        | 45 => RegionOwn.fact (fun x v => StrRow.Reads x v PA)
        | 46 => RegionOwn.val (.bool true)
        | 47 => RegionOwn.val (.bool true)
        | 48 => RegionOwn.val (.bool true)
        | 49 => RegionOwn.val (.agg #[.string DG, .int .i64 t.size, .int .i64 N, .int .i64 k, .string ck, .slice pa PA.length pc])
        | 50 => RegionOwn.val (.int .i64 0)
        | 51 => RegionOwn.val (.bool true)
        | 52 => RegionOwn.val (.bool true)
        | 53 => RegionOwn.val (.bool true)
        | 54 => RegionOwn.val (.pointer (some ⟨b, 0, none⟩))
        | 55 => RegionOwn.val (.int .i64 0)
        | 56 => RegionOwn.val (.bool true)
        | 57 => RegionOwn.val (.bool true)
        | 58 => RegionOwn.val (.bool true)
        | 59 => RegionOwn.val (.agg #[.string DG, .int .i64 t.size, .int .i64 N, .int .i64 k, .string ck, .slice ya PA.length yc])
        | 60 => RegionOwn.val (.int .i64 0)
        | 61 => RegionOwn.val (.bool true)
        | 62 => RegionOwn.val (.bool true)
        | 63 => RegionOwn.val (.bool true)
        | 64 => RegionOwn.val (.pointer (some ⟨Y, 4, none⟩))
        | 65 => RegionOwn.val (.string ck)
        | 66 => RegionOwn.val (.pointer (some ⟨X, 4, none⟩))
        | 67 => RegionOwn.val (.string ck)
        | 68 => RegionOwn.val (.bool true)
        | 69 => RegionOwn.val (.bool true)
        | 70 => RegionOwn.val (.bool true)
        | 71 => RegionOwn.val (.pointer (some ⟨X, 5, none⟩))
        | 72 => RegionOwn.val (.slice pa PA.length pc)
        | 73 => RegionOwn.val (.pointer (some ⟨Y, 5, none⟩))
        | 74 => RegionOwn.val (.slice ya PA.length yc)
        | 75 => RegionOwn.val (.bool true)
        | 76 => RegionOwn.val (.bool true)
        | _ => RegionOwn.val undef) (fun _ => none) ?_ (by kernel_rfl) rfl (by kernel_rfl) ?_ ?_ ?_
      · intro i hi
        match i, hi with
        | 0, _ | 1, _ | 2, _ | 3, _ | 4, _ | 5, _ | 6, _ | 7, _ | 8, _ | 9, _ | 10, _ | 11, _ | 12, _ | 13, _ | 14, _ | 15, _ | 16, _ | 17, _ | 18, _ | 19, _ | 20, _ | 21, _ | 22, _ | 23, _ | 24, _ | 25, _ | 26, _ | 27, _ | 28, _ | 29, _ | 30, _ | 31, _ | 32, _ | 33, _ | 34, _ | 35, _ | 36, _ | 37, _ | 38, _ | 39, _ | 40, _ | 41, _ | 42, _ | 43, _ | 44, _ | 45, _ | 46, _ | 47, _ | 48, _ | 49, _ | 50, _ | 51, _ | 52, _ | 53, _ | 54, _ | 55, _ | 56, _ | 57, _ | 58, _ | 59, _ | 60, _ | 61, _ | 62, _ | 63, _ | 64, _ | 65, _ | 66, _ | 67, _ | 68, _ | 69, _ | 70, _ | 71, _ | 72, _ | 73, _ | 74, _ | 75, _ | 76, _ => rfl
        | i + 77, h => exact absurd h (by omega)
      · intro i p hi h
        refine ⟨fun _ _ => rfl, ?_⟩
        match i, hi, h with
        | 0, _, h | 1, _, h | 2, _, h | 3, _, h | 4, _, h | 5, _, h | 6, _, h | 7, _, h | 8, _, h | 9, _, h | 10, _, h | 11, _, h | 12, _, h | 13, _, h | 14, _, h | 15, _, h | 16, _, h | 17, _, h | 18, _, h | 19, _, h | 20, _, h | 21, _, h | 22, _, h | 23, _, h | 24, _, h | 25, _, h | 26, _, h | 27, _, h | 28, _, h | 29, _, h | 30, _, h | 31, _, h | 32, _, h | 33, _, h | 34, _, h | 35, _, h | 36, _, h | 37, _, h | 38, _, h | 39, _, h | 40, _, h | 41, _, h | 42, _, h | 43, _, h | 44, _, h | 46, _, h | 47, _, h | 48, _, h | 49, _, h | 50, _, h | 51, _, h | 52, _, h | 53, _, h | 54, _, h | 55, _, h | 56, _, h | 57, _, h | 58, _, h | 59, _, h | 60, _, h | 61, _, h | 62, _, h | 63, _, h | 64, _, h | 65, _, h | 66, _, h | 67, _, h | 68, _, h | 69, _, h | 70, _, h | 71, _, h | 72, _, h | 73, _, h | 74, _, h | 75, _, h | 76, _, h => cases h
        | 45, _, h => cases h; exact fun x y v h hb => h.below hb (Nat.le_refl _)
        | i + 77, h, _ => exact absurd h (by omega)
      · intro i hi y x' hfr hbx hD hO K2 hK2
        match i, hi with
        | 0, _ =>
          have e10 : RegionOwn.T y 10 = .int .i64 0 := RegionOwn.Fr.at hfr (by kernel_rfl) rfl
          refine RegionOwn.quietG rfl rfl hK2 rfl rfl ?_
          clear hK2 hD hfr hO
          unfold RegionOwn.T at e10
          go_simp
        | 1, _ =>
          have d0 : RegionOwn.T y 62 = .int .i64 0 := hD 0 62 (by decide) rfl (by kernel_rfl) (.inl rfl)
          refine RegionOwn.quietG rfl rfl hK2 rfl rfl ?_
          clear hK2 hD hfr hO
          unfold RegionOwn.T at d0
          go_simp
        | 2, _ =>
          have d1 : RegionOwn.T y 63 = .bool true := hD 1 63 (by decide) rfl (by kernel_rfl) (.inl rfl)
          refine RegionOwn.quietG rfl rfl hK2 rfl rfl ?_
          clear hK2 hD hfr hO
          unfold RegionOwn.T at d1
          go_simp
        | 3, _ =>
          have e9 : RegionOwn.T y 9 = .pointer (some ⟨X, 0, none⟩) := RegionOwn.Fr.at hfr (by kernel_rfl) rfl
          have hg : RegionOwn.T y 64 = .bool true := hD 2 64 (by decide) rfl (by kernel_rfl) (.inl rfl)
          refine RegionOwn.quietG rfl (RegionOwn.wanted_of (j := 2) (d := 64) (want := true) rfl rfl hg) hK2 rfl rfl ?_
          clear hK2 hD hfr hO hg
          unfold RegionOwn.T at e9
          go_simp
        | 4, _ =>
          have d3 : RegionOwn.T y 65 = .pointer (some ⟨X, 0, none⟩) := hD 3 65 (by decide) rfl (by kernel_rfl) (.inl rfl)
          have hg : RegionOwn.T y 64 = .bool true := hD 2 64 (by decide) rfl (by kernel_rfl) (.inl rfl)
          obtain ⟨c0, c1, c2, c3, c4, c5⟩ := HCX.out x' hbx
          refine RegionOwn.quietG rfl (RegionOwn.wanted_of (j := 2) (d := 64) (want := true) rfl rfl hg) hK2 rfl rfl ?_
          clear hK2 hD hfr hO hg
          unfold RegionOwn.T at d3
          go_simp
        | 5, _ =>
          have e7 : RegionOwn.T y 7 = .string t := RegionOwn.Fr.at hfr (by kernel_rfl) rfl
          have hg : RegionOwn.T y 64 = .bool true := hD 2 64 (by decide) rfl (by kernel_rfl) (.inl rfl)
          refine RegionOwn.quietG rfl (RegionOwn.wanted_of (j := 2) (d := 64) (want := true) rfl rfl hg) hK2 rfl rfl ?_
          clear hK2 hD hfr hO hg
          unfold RegionOwn.T at e7
          go_simp
        | 6, _ =>
          have d5 : RegionOwn.T y 67 = .string t := hD 5 67 (by decide) rfl (by kernel_rfl) (.inl rfl)
          have hg : RegionOwn.T y 64 = .bool true := hD 2 64 (by decide) rfl (by kernel_rfl) (.inl rfl)
          refine RegionOwn.quietG rfl (RegionOwn.wanted_of (j := 2) (d := 64) (want := true) rfl rfl hg) hK2 rfl rfl ?_
          clear hK2 hD hfr hO hg
          unfold RegionOwn.T at d5
          go_simp
        | 7, _ =>
          have e11 : RegionOwn.T y 11 = .slice da N dc := RegionOwn.Fr.at hfr (by kernel_rfl) rfl
          have hg : RegionOwn.T y 64 = .bool true := hD 2 64 (by decide) rfl (by kernel_rfl) (.inl rfl)
          refine RegionOwn.quietG rfl (RegionOwn.wanted_of (j := 2) (d := 64) (want := true) rfl rfl hg) hK2 rfl rfl ?_
          clear hK2 hD hfr hO hg
          unfold RegionOwn.T at e11
          go_simp
        | 8, _ =>
          have d6 : RegionOwn.T y 68 = .int .i64 t.size := hD 6 68 (by decide) rfl (by kernel_rfl) (.inl rfl)
          have d7 : RegionOwn.T y 69 = .slice da N dc := hD 7 69 (by decide) rfl (by kernel_rfl) (.inl rfl)
          have hg : RegionOwn.T y 64 = .bool true := hD 2 64 (by decide) rfl (by kernel_rfl) (.inl rfl)
          refine RegionOwn.calledG (f := 14) (args := #[.int .i64 t.size, .slice da N dc]) rfl (RegionOwn.wanted_of (j := 2) (d := 64) (want := true) rfl rfl hg) hK2 rfl ?_ ((HFI.out x' hbx).mono fun e y' h => ⟨_, h.1, h.2, rfl⟩)
          clear hK2 hD hfr hO hg
          unfold RegionOwn.T at d6 d7
          go_simp
        | 9, _ =>
          have d4 : RegionOwn.T y 66 = .string DG := hD 4 66 (by decide) rfl (by kernel_rfl) (.inl rfl)
          have d8 : RegionOwn.T y 70 = .string DG := hD 8 70 (by decide) rfl (by kernel_rfl) (.inl rfl)
          have hg : RegionOwn.T y 64 = .bool true := hD 2 64 (by decide) rfl (by kernel_rfl) (.inl rfl)
          refine RegionOwn.quietG rfl (RegionOwn.wanted_of (j := 2) (d := 64) (want := true) rfl rfl hg) hK2 rfl rfl ?_
          clear hK2 hD hfr hO hg
          unfold RegionOwn.T at d4 d8
          go_simp
        | 10, _ =>
          have d2 : RegionOwn.T y 64 = .bool true := hD 2 64 (by decide) rfl (by kernel_rfl) (.inl rfl)
          have d9 : RegionOwn.T y 71 = .bool true := hD 9 71 (by decide) rfl (by kernel_rfl) (.inl rfl)
          refine RegionOwn.quietG rfl rfl hK2 rfl rfl ?_
          clear hK2 hD hfr hO
          unfold RegionOwn.T at d2 d9
          go_simp
        | 11, _ =>
          have d10 : RegionOwn.T y 72 = .bool true := hD 10 72 (by decide) rfl (by kernel_rfl) (.inl rfl)
          refine RegionOwn.quietG rfl rfl hK2 rfl rfl ?_
          clear hK2 hD hfr hO
          unfold RegionOwn.T at d10
          go_simp
        | 12, _ =>
          have e9 : RegionOwn.T y 9 = .pointer (some ⟨X, 0, none⟩) := RegionOwn.Fr.at hfr (by kernel_rfl) rfl
          have hg : RegionOwn.T y 73 = .bool true := hD 11 73 (by decide) rfl (by kernel_rfl) (.inl rfl)
          refine RegionOwn.quietG rfl (RegionOwn.wanted_of (j := 11) (d := 73) (want := true) rfl rfl hg) hK2 rfl rfl ?_
          clear hK2 hD hfr hO hg
          unfold RegionOwn.T at e9
          go_simp
        | 13, _ =>
          have d12 : RegionOwn.T y 74 = .pointer (some ⟨X, 1, none⟩) := hD 12 74 (by decide) rfl (by kernel_rfl) (.inl rfl)
          have hg : RegionOwn.T y 73 = .bool true := hD 11 73 (by decide) rfl (by kernel_rfl) (.inl rfl)
          obtain ⟨c0, c1, c2, c3, c4, c5⟩ := HCX.out x' hbx
          refine RegionOwn.quietG rfl (RegionOwn.wanted_of (j := 11) (d := 73) (want := true) rfl rfl hg) hK2 rfl rfl ?_
          clear hK2 hD hfr hO hg
          unfold RegionOwn.T at d12
          go_simp
        | 14, _ =>
          have e7 : RegionOwn.T y 7 = .string t := RegionOwn.Fr.at hfr (by kernel_rfl) rfl
          have hg : RegionOwn.T y 73 = .bool true := hD 11 73 (by decide) rfl (by kernel_rfl) (.inl rfl)
          refine RegionOwn.quietG rfl (RegionOwn.wanted_of (j := 11) (d := 73) (want := true) rfl rfl hg) hK2 rfl rfl ?_
          clear hK2 hD hfr hO hg
          unfold RegionOwn.T at e7
          go_simp
        | 15, _ =>
          have d14 : RegionOwn.T y 76 = .string t := hD 14 76 (by decide) rfl (by kernel_rfl) (.inl rfl)
          have hg : RegionOwn.T y 73 = .bool true := hD 11 73 (by decide) rfl (by kernel_rfl) (.inl rfl)
          refine RegionOwn.quietG rfl (RegionOwn.wanted_of (j := 11) (d := 73) (want := true) rfl rfl hg) hK2 rfl rfl ?_
          clear hK2 hD hfr hO hg
          unfold RegionOwn.T at d14
          go_simp
        | 16, _ =>
          have d13 : RegionOwn.T y 75 = .int .i64 t.size := hD 13 75 (by decide) rfl (by kernel_rfl) (.inl rfl)
          have d15 : RegionOwn.T y 77 = .int .i64 t.size := hD 15 77 (by decide) rfl (by kernel_rfl) (.inl rfl)
          have hg : RegionOwn.T y 73 = .bool true := hD 11 73 (by decide) rfl (by kernel_rfl) (.inl rfl)
          refine RegionOwn.quietG rfl (RegionOwn.wanted_of (j := 11) (d := 73) (want := true) rfl rfl hg) hK2 rfl rfl ?_
          clear hK2 hD hfr hO hg
          unfold RegionOwn.T at d13 d15
          go_simp
        | 17, _ =>
          have d11 : RegionOwn.T y 73 = .bool true := hD 11 73 (by decide) rfl (by kernel_rfl) (.inl rfl)
          have d16 : RegionOwn.T y 78 = .bool true := hD 16 78 (by decide) rfl (by kernel_rfl) (.inl rfl)
          refine RegionOwn.quietG rfl rfl hK2 rfl rfl ?_
          clear hK2 hD hfr hO
          unfold RegionOwn.T at d11 d16
          go_simp
        | 18, _ =>
          have d17 : RegionOwn.T y 79 = .bool true := hD 17 79 (by decide) rfl (by kernel_rfl) (.inl rfl)
          refine RegionOwn.quietG rfl rfl hK2 rfl rfl ?_
          clear hK2 hD hfr hO
          unfold RegionOwn.T at d17
          go_simp
        | 19, _ =>
          have e9 : RegionOwn.T y 9 = .pointer (some ⟨X, 0, none⟩) := RegionOwn.Fr.at hfr (by kernel_rfl) rfl
          have hg : RegionOwn.T y 80 = .bool true := hD 18 80 (by decide) rfl (by kernel_rfl) (.inl rfl)
          refine RegionOwn.quietG rfl (RegionOwn.wanted_of (j := 18) (d := 80) (want := true) rfl rfl hg) hK2 rfl rfl ?_
          clear hK2 hD hfr hO hg
          unfold RegionOwn.T at e9
          go_simp
        | 20, _ =>
          have d19 : RegionOwn.T y 81 = .pointer (some ⟨X, 2, none⟩) := hD 19 81 (by decide) rfl (by kernel_rfl) (.inl rfl)
          have hg : RegionOwn.T y 80 = .bool true := hD 18 80 (by decide) rfl (by kernel_rfl) (.inl rfl)
          obtain ⟨c0, c1, c2, c3, c4, c5⟩ := HCX.out x' hbx
          refine RegionOwn.quietG rfl (RegionOwn.wanted_of (j := 18) (d := 80) (want := true) rfl rfl hg) hK2 rfl rfl ?_
          clear hK2 hD hfr hO hg
          unfold RegionOwn.T at d19
          go_simp
        | 21, _ =>
          have e8 : RegionOwn.T y 8 = .slice (some ⟨lb, lo, none⟩) N lc := RegionOwn.Fr.at hfr (by kernel_rfl) rfl
          have hg : RegionOwn.T y 80 = .bool true := hD 18 80 (by decide) rfl (by kernel_rfl) (.inl rfl)
          refine RegionOwn.quietG rfl (RegionOwn.wanted_of (j := 18) (d := 80) (want := true) rfl rfl hg) hK2 rfl rfl ?_
          clear hK2 hD hfr hO hg
          unfold RegionOwn.T at e8
          go_simp
        | 22, _ =>
          have d21 : RegionOwn.T y 83 = .slice (some ⟨lb, lo, none⟩) N lc := hD 21 83 (by decide) rfl (by kernel_rfl) (.inl rfl)
          have hg : RegionOwn.T y 80 = .bool true := hD 18 80 (by decide) rfl (by kernel_rfl) (.inl rfl)
          refine RegionOwn.quietG rfl (RegionOwn.wanted_of (j := 18) (d := 80) (want := true) rfl rfl hg) hK2 rfl rfl ?_
          clear hK2 hD hfr hO hg
          unfold RegionOwn.T at d21
          go_simp
        | 23, _ =>
          have d20 : RegionOwn.T y 82 = .int .i64 N := hD 20 82 (by decide) rfl (by kernel_rfl) (.inl rfl)
          have d22 : RegionOwn.T y 84 = .int .i64 N := hD 22 84 (by decide) rfl (by kernel_rfl) (.inl rfl)
          have hg : RegionOwn.T y 80 = .bool true := hD 18 80 (by decide) rfl (by kernel_rfl) (.inl rfl)
          refine RegionOwn.quietG rfl (RegionOwn.wanted_of (j := 18) (d := 80) (want := true) rfl rfl hg) hK2 rfl rfl ?_
          clear hK2 hD hfr hO hg
          unfold RegionOwn.T at d20 d22
          go_simp
        | 24, _ =>
          have d18 : RegionOwn.T y 80 = .bool true := hD 18 80 (by decide) rfl (by kernel_rfl) (.inl rfl)
          have d23 : RegionOwn.T y 85 = .bool true := hD 23 85 (by decide) rfl (by kernel_rfl) (.inl rfl)
          refine RegionOwn.quietG rfl rfl hK2 rfl rfl ?_
          clear hK2 hD hfr hO
          unfold RegionOwn.T at d18 d23
          go_simp
        | 25, _ =>
          have d24 : RegionOwn.T y 86 = .bool true := hD 24 86 (by decide) rfl (by kernel_rfl) (.inl rfl)
          refine RegionOwn.quietG rfl rfl hK2 rfl rfl ?_
          clear hK2 hD hfr hO
          unfold RegionOwn.T at d24
          go_simp
        | 26, _ =>
          have e9 : RegionOwn.T y 9 = .pointer (some ⟨X, 0, none⟩) := RegionOwn.Fr.at hfr (by kernel_rfl) rfl
          have hg : RegionOwn.T y 87 = .bool true := hD 25 87 (by decide) rfl (by kernel_rfl) (.inl rfl)
          refine RegionOwn.quietG rfl (RegionOwn.wanted_of (j := 25) (d := 87) (want := true) rfl rfl hg) hK2 rfl rfl ?_
          clear hK2 hD hfr hO hg
          unfold RegionOwn.T at e9
          go_simp
        | 27, _ =>
          have d26 : RegionOwn.T y 88 = .pointer (some ⟨X, 3, none⟩) := hD 26 88 (by decide) rfl (by kernel_rfl) (.inl rfl)
          have hg : RegionOwn.T y 87 = .bool true := hD 25 87 (by decide) rfl (by kernel_rfl) (.inl rfl)
          obtain ⟨c0, c1, c2, c3, c4, c5⟩ := HCX.out x' hbx
          refine RegionOwn.quietG rfl (RegionOwn.wanted_of (j := 25) (d := 87) (want := true) rfl rfl hg) hK2 rfl rfl ?_
          clear hK2 hD hfr hO hg
          unfold RegionOwn.T at d26
          go_simp
        | 28, _ =>
          have e2 : RegionOwn.T y 2 = .int .i64 k := RegionOwn.Fr.at hfr (by kernel_rfl) rfl
          have hg : RegionOwn.T y 87 = .bool true := hD 25 87 (by decide) rfl (by kernel_rfl) (.inl rfl)
          refine RegionOwn.quietG rfl (RegionOwn.wanted_of (j := 25) (d := 87) (want := true) rfl rfl hg) hK2 rfl rfl ?_
          clear hK2 hD hfr hO hg
          unfold RegionOwn.T at e2
          go_simp
        | 29, _ =>
          have d27 : RegionOwn.T y 89 = .int .i64 k := hD 27 89 (by decide) rfl (by kernel_rfl) (.inl rfl)
          have d28 : RegionOwn.T y 90 = .int .i64 k := hD 28 90 (by decide) rfl (by kernel_rfl) (.inl rfl)
          have hg : RegionOwn.T y 87 = .bool true := hD 25 87 (by decide) rfl (by kernel_rfl) (.inl rfl)
          refine RegionOwn.quietG rfl (RegionOwn.wanted_of (j := 25) (d := 87) (want := true) rfl rfl hg) hK2 rfl rfl ?_
          clear hK2 hD hfr hO hg
          unfold RegionOwn.T at d27 d28
          go_simp
        | 30, _ =>
          have d25 : RegionOwn.T y 87 = .bool true := hD 25 87 (by decide) rfl (by kernel_rfl) (.inl rfl)
          have d29 : RegionOwn.T y 91 = .bool true := hD 29 91 (by decide) rfl (by kernel_rfl) (.inl rfl)
          refine RegionOwn.quietG rfl rfl hK2 rfl rfl ?_
          clear hK2 hD hfr hO
          unfold RegionOwn.T at d25 d29
          go_simp
        | 31, _ =>
          have d30 : RegionOwn.T y 92 = .bool true := hD 30 92 (by decide) rfl (by kernel_rfl) (.inl rfl)
          refine RegionOwn.quietG rfl rfl hK2 rfl rfl ?_
          clear hK2 hD hfr hO
          unfold RegionOwn.T at d30
          go_simp
        | 32, _ =>
          have e9 : RegionOwn.T y 9 = .pointer (some ⟨X, 0, none⟩) := RegionOwn.Fr.at hfr (by kernel_rfl) rfl
          have hg : RegionOwn.T y 93 = .bool true := hD 31 93 (by decide) rfl (by kernel_rfl) (.inl rfl)
          refine RegionOwn.quietG rfl (RegionOwn.wanted_of (j := 31) (d := 93) (want := true) rfl rfl hg) hK2 rfl rfl ?_
          clear hK2 hD hfr hO hg
          unfold RegionOwn.T at e9
          go_simp
        | 33, _ =>
          have d32 : RegionOwn.T y 94 = .pointer (some ⟨X, 4, none⟩) := hD 32 94 (by decide) rfl (by kernel_rfl) (.inl rfl)
          have hg : RegionOwn.T y 93 = .bool true := hD 31 93 (by decide) rfl (by kernel_rfl) (.inl rfl)
          obtain ⟨c0, c1, c2, c3, c4, c5⟩ := HCX.out x' hbx
          refine RegionOwn.quietG rfl (RegionOwn.wanted_of (j := 31) (d := 93) (want := true) rfl rfl hg) hK2 rfl rfl ?_
          clear hK2 hD hfr hO hg
          unfold RegionOwn.T at d32
          go_simp
        | 34, _ =>
          have e8 : RegionOwn.T y 8 = .slice (some ⟨lb, lo, none⟩) N lc := RegionOwn.Fr.at hfr (by kernel_rfl) rfl
          have hg : RegionOwn.T y 93 = .bool true := hD 31 93 (by decide) rfl (by kernel_rfl) (.inl rfl)
          refine RegionOwn.quietG rfl (RegionOwn.wanted_of (j := 31) (d := 93) (want := true) rfl rfl hg) hK2 rfl rfl ?_
          clear hK2 hD hfr hO hg
          unfold RegionOwn.T at e8
          go_simp
        | 35, _ =>
          have e2 : RegionOwn.T y 2 = .int .i64 k := RegionOwn.Fr.at hfr (by kernel_rfl) rfl
          have hg : RegionOwn.T y 93 = .bool true := hD 31 93 (by decide) rfl (by kernel_rfl) (.inl rfl)
          refine RegionOwn.quietG rfl (RegionOwn.wanted_of (j := 31) (d := 93) (want := true) rfl rfl hg) hK2 rfl rfl ?_
          clear hK2 hD hfr hO hg
          unfold RegionOwn.T at e2
          go_simp
        | 36, _ =>
          have d34 : RegionOwn.T y 96 = .slice (some ⟨lb, lo, none⟩) N lc := hD 34 96 (by decide) rfl (by kernel_rfl) (.inl rfl)
          have d35 : RegionOwn.T y 97 = .int .i64 k := hD 35 97 (by decide) rfl (by kernel_rfl) (.inl rfl)
          have hg : RegionOwn.T y 93 = .bool true := hD 31 93 (by decide) rfl (by kernel_rfl) (.inl rfl)
          refine RegionOwn.quietG rfl (RegionOwn.wanted_of (j := 31) (d := 93) (want := true) rfl rfl hg) hK2 rfl rfl ?_
          clear hK2 hD hfr hO hg
          unfold RegionOwn.T at d34 d35
          go_simp
        | 37, _ =>
          have d36 : RegionOwn.T y 98 = .pointer (some ⟨lb, lo + k, none⟩) := hD 36 98 (by decide) rfl (by kernel_rfl) (.inl rfl)
          have hg : RegionOwn.T y 93 = .bool true := hD 31 93 (by decide) rfl (by kernel_rfl) (.inl rfl)
          have cl := HCL.out x' hbx
          refine RegionOwn.quietG rfl (RegionOwn.wanted_of (j := 31) (d := 93) (want := true) rfl rfl hg) hK2 rfl rfl ?_
          clear hK2 hD hfr hO hg
          unfold RegionOwn.T at d36
          go_simp
        | 38, _ =>
          have d33 : RegionOwn.T y 95 = .string ck := hD 33 95 (by decide) rfl (by kernel_rfl) (.inl rfl)
          have d37 : RegionOwn.T y 99 = .string ck := hD 37 99 (by decide) rfl (by kernel_rfl) (.inl rfl)
          have hg : RegionOwn.T y 93 = .bool true := hD 31 93 (by decide) rfl (by kernel_rfl) (.inl rfl)
          refine RegionOwn.quietG rfl (RegionOwn.wanted_of (j := 31) (d := 93) (want := true) rfl rfl hg) hK2 rfl rfl ?_
          clear hK2 hD hfr hO hg
          unfold RegionOwn.T at d33 d37
          go_simp
        | 39, _ =>
          have d31 : RegionOwn.T y 93 = .bool true := hD 31 93 (by decide) rfl (by kernel_rfl) (.inl rfl)
          have d38 : RegionOwn.T y 100 = .bool true := hD 38 100 (by decide) rfl (by kernel_rfl) (.inl rfl)
          refine RegionOwn.quietG rfl rfl hK2 rfl rfl ?_
          clear hK2 hD hfr hO
          unfold RegionOwn.T at d31 d38
          go_simp
        | 40, _ =>
          have d39 : RegionOwn.T y 101 = .bool true := hD 39 101 (by decide) rfl (by kernel_rfl) (.inl rfl)
          refine RegionOwn.quietG rfl rfl hK2 rfl rfl ?_
          clear hK2 hD hfr hO
          unfold RegionOwn.T at d39
          go_simp
        | 41, _ =>
          have e9 : RegionOwn.T y 9 = .pointer (some ⟨X, 0, none⟩) := RegionOwn.Fr.at hfr (by kernel_rfl) rfl
          have hg : RegionOwn.T y 102 = .bool true := hD 40 102 (by decide) rfl (by kernel_rfl) (.inl rfl)
          refine RegionOwn.quietG rfl (RegionOwn.wanted_of (j := 40) (d := 102) (want := true) rfl rfl hg) hK2 rfl rfl ?_
          clear hK2 hD hfr hO hg
          unfold RegionOwn.T at e9
          go_simp
        | 42, _ =>
          have d41 : RegionOwn.T y 103 = .pointer (some ⟨X, 5, none⟩) := hD 41 103 (by decide) rfl (by kernel_rfl) (.inl rfl)
          have hg : RegionOwn.T y 102 = .bool true := hD 40 102 (by decide) rfl (by kernel_rfl) (.inl rfl)
          obtain ⟨c0, c1, c2, c3, c4, c5⟩ := HCX.out x' hbx
          refine RegionOwn.quietG rfl (RegionOwn.wanted_of (j := 40) (d := 102) (want := true) rfl rfl hg) hK2 rfl rfl ?_
          clear hK2 hD hfr hO hg
          unfold RegionOwn.T at d41
          go_simp
        | 43, _ =>
          have e11 : RegionOwn.T y 11 = .slice da N dc := RegionOwn.Fr.at hfr (by kernel_rfl) rfl
          have hg : RegionOwn.T y 102 = .bool true := hD 40 102 (by decide) rfl (by kernel_rfl) (.inl rfl)
          refine RegionOwn.quietG rfl (RegionOwn.wanted_of (j := 40) (d := 102) (want := true) rfl rfl hg) hK2 rfl rfl ?_
          clear hK2 hD hfr hO hg
          unfold RegionOwn.T at e11
          go_simp
        | 44, _ =>
          have e2 : RegionOwn.T y 2 = .int .i64 k := RegionOwn.Fr.at hfr (by kernel_rfl) rfl
          have hg : RegionOwn.T y 102 = .bool true := hD 40 102 (by decide) rfl (by kernel_rfl) (.inl rfl)
          refine RegionOwn.quietG rfl (RegionOwn.wanted_of (j := 40) (d := 102) (want := true) rfl rfl hg) hK2 rfl rfl ?_
          clear hK2 hD hfr hO hg
          unfold RegionOwn.T at e2
          go_simp
        | 45, _ =>
          have d43 : RegionOwn.T y 105 = .slice da N dc := hD 43 105 (by decide) rfl (by kernel_rfl) (.inl rfl)
          have d44 : RegionOwn.T y 106 = .int .i64 k := hD 44 106 (by decide) rfl (by kernel_rfl) (.inl rfl)
          have hg : RegionOwn.T y 102 = .bool true := hD 40 102 (by decide) rfl (by kernel_rfl) (.inl rfl)
          refine RegionOwn.calledG (f := 16) (args := #[.slice da N dc, .int .i64 k]) rfl (RegionOwn.wanted_of (j := 40) (d := 102) (want := true) rfl rfl hg) hK2 rfl ?_ ((HPA.out x' hbx).mono fun e y' h => let ⟨pv, g1, g2, g3⟩ := h; ⟨pv, g1, g3, StrRow.Reads.of_own g2⟩)
          clear hK2 hD hfr hO hg
          unfold RegionOwn.T at d43 d44
          go_simp
        | 46, _ =>
          have d42 : RegionOwn.T y 104 = .slice pa PA.length pc := hD 42 104 (by decide) rfl (by kernel_rfl) (.inl rfl)
          have q45 := hD 45 107 (by decide) rfl (by kernel_rfl) (.inl rfl)
          have hg : RegionOwn.T y 102 = .bool true := hD 40 102 (by decide) rfl (by kernel_rfl) (.inl rfl)
          refine RegionOwn.calledG (f := 15) (args := #[.slice pa PA.length pc, y.tmps.getD 107 undef]) rfl (RegionOwn.wanted_of (j := 40) (d := 102) (want := true) rfl rfl hg) hK2 rfl ?_ ((HSA.out _ _ x' (HRX.out x' hbx) q45).mono fun e y' h => ⟨_, h.1, h.2, rfl⟩)
          clear hK2 hD hfr hO hg
          unfold RegionOwn.T at d42
          go_simp
        | 47, _ =>
          have d40 : RegionOwn.T y 102 = .bool true := hD 40 102 (by decide) rfl (by kernel_rfl) (.inl rfl)
          have d46 : RegionOwn.T y 108 = .bool true := hD 46 108 (by decide) rfl (by kernel_rfl) (.inl rfl)
          refine RegionOwn.quietG rfl rfl hK2 rfl rfl ?_
          clear hK2 hD hfr hO
          unfold RegionOwn.T at d40 d46
          go_simp
        | 48, _ =>
          have d47 : RegionOwn.T y 109 = .bool true := hD 47 109 (by decide) rfl (by kernel_rfl) (.inl rfl)
          refine RegionOwn.quietG rfl rfl hK2 rfl rfl ?_
          clear hK2 hD hfr hO
          unfold RegionOwn.T at d47
          go_simp
        | 49, _ =>
          have e9 : RegionOwn.T y 9 = .pointer (some ⟨X, 0, none⟩) := RegionOwn.Fr.at hfr (by kernel_rfl) rfl
          have hg : RegionOwn.T y 110 = .bool true := hD 48 110 (by decide) rfl (by kernel_rfl) (.inl rfl)
          obtain ⟨c0, c1, c2, c3, c4, c5⟩ := HCX.out x' hbx
          refine RegionOwn.quietG rfl (RegionOwn.wanted_of (j := 48) (d := 110) (want := true) rfl rfl hg) hK2 rfl rfl ?_
          clear hK2 hD hfr hO hg
          unfold RegionOwn.T at e9
          go_simp
        | 50, _ =>
          have d49 : RegionOwn.T y 111 = .agg #[.string DG, .int .i64 t.size, .int .i64 N, .int .i64 k, .string ck, .slice pa PA.length pc] := hD 49 111 (by decide) rfl (by kernel_rfl) (.inl rfl)
          have hg : RegionOwn.T y 110 = .bool true := hD 48 110 (by decide) rfl (by kernel_rfl) (.inl rfl)
          refine RegionOwn.calledG (f := 17) (args := #[.agg #[.string DG, .int .i64 t.size, .int .i64 N, .int .i64 k, .string ck, .slice pa PA.length pc]]) rfl (RegionOwn.wanted_of (j := 48) (d := 110) (want := true) rfl rfl hg) hK2 rfl ?_ ((HVX.out x' hbx).mono fun e y' h => ⟨_, h.1, h.2, rfl⟩)
          clear hK2 hD hfr hO hg
          unfold RegionOwn.T at d49
          go_simp
        | 51, _ =>
          have d50 : RegionOwn.T y 112 = .int .i64 0 := hD 50 112 (by decide) rfl (by kernel_rfl) (.inl rfl)
          have hg : RegionOwn.T y 110 = .bool true := hD 48 110 (by decide) rfl (by kernel_rfl) (.inl rfl)
          refine RegionOwn.quietG rfl (RegionOwn.wanted_of (j := 48) (d := 110) (want := true) rfl rfl hg) hK2 rfl rfl ?_
          clear hK2 hD hfr hO hg
          unfold RegionOwn.T at d50
          go_simp
        | 52, _ =>
          have d48 : RegionOwn.T y 110 = .bool true := hD 48 110 (by decide) rfl (by kernel_rfl) (.inl rfl)
          have d51 : RegionOwn.T y 113 = .bool true := hD 51 113 (by decide) rfl (by kernel_rfl) (.inl rfl)
          refine RegionOwn.quietG rfl rfl hK2 rfl rfl ?_
          clear hK2 hD hfr hO
          unfold RegionOwn.T at d48 d51
          go_simp
        | 53, _ =>
          have d52 : RegionOwn.T y 114 = .bool true := hD 52 114 (by decide) rfl (by kernel_rfl) (.inl rfl)
          refine RegionOwn.quietG rfl rfl hK2 rfl rfl ?_
          clear hK2 hD hfr hO
          unfold RegionOwn.T at d52
          go_simp
        | 54, _ =>
          have e13 : RegionOwn.T y 13 = .pointer (some ⟨b, 0, none⟩) := RegionOwn.Fr.at hfr (by kernel_rfl) rfl
          have hg : RegionOwn.T y 115 = .bool true := hD 53 115 (by decide) rfl (by kernel_rfl) (.inl rfl)
          refine RegionOwn.quietG rfl (RegionOwn.wanted_of (j := 53) (d := 115) (want := true) rfl rfl hg) hK2 rfl rfl ?_
          clear hK2 hD hfr hO hg
          unfold RegionOwn.T at e13
          go_simp
        | 55, _ =>
          have d54 : RegionOwn.T y 116 = .pointer (some ⟨b, 0, none⟩) := hD 54 116 (by decide) rfl (by kernel_rfl) (.inl rfl)
          have hg : RegionOwn.T y 115 = .bool true := hD 53 115 (by decide) rfl (by kernel_rfl) (.inl rfl)
          refine RegionOwn.calledG (f := 18) (args := #[.pointer (some ⟨b, 0, none⟩)]) rfl (RegionOwn.wanted_of (j := 53) (d := 115) (want := true) rfl rfl hg) hK2 rfl ?_ ((HEN.out x' hbx).mono fun e y' h => ⟨_, h.1, h.2, rfl⟩)
          clear hK2 hD hfr hO hg
          unfold RegionOwn.T at d54
          go_simp
        | 56, _ =>
          have d55 : RegionOwn.T y 117 = .int .i64 0 := hD 55 117 (by decide) rfl (by kernel_rfl) (.inl rfl)
          have hg : RegionOwn.T y 115 = .bool true := hD 53 115 (by decide) rfl (by kernel_rfl) (.inl rfl)
          refine RegionOwn.quietG rfl (RegionOwn.wanted_of (j := 53) (d := 115) (want := true) rfl rfl hg) hK2 rfl rfl ?_
          clear hK2 hD hfr hO hg
          unfold RegionOwn.T at d55
          go_simp
        | 57, _ =>
          have d53 : RegionOwn.T y 115 = .bool true := hD 53 115 (by decide) rfl (by kernel_rfl) (.inl rfl)
          have d56 : RegionOwn.T y 118 = .bool true := hD 56 118 (by decide) rfl (by kernel_rfl) (.inl rfl)
          refine RegionOwn.quietG rfl rfl hK2 rfl rfl ?_
          clear hK2 hD hfr hO
          unfold RegionOwn.T at d53 d56
          go_simp
        | 58, _ =>
          have d57 : RegionOwn.T y 119 = .bool true := hD 57 119 (by decide) rfl (by kernel_rfl) (.inl rfl)
          refine RegionOwn.quietG rfl rfl hK2 rfl rfl ?_
          clear hK2 hD hfr hO
          unfold RegionOwn.T at d57
          go_simp
        | 59, _ =>
          have e14 : RegionOwn.T y 14 = .pointer (some ⟨Y, 0, none⟩) := RegionOwn.Fr.at hfr (by kernel_rfl) rfl
          have hg : RegionOwn.T y 120 = .bool true := hD 58 120 (by decide) rfl (by kernel_rfl) (.inl rfl)
          obtain ⟨c0, c1, c2, c3, c4, c5⟩ := HCY.out x' hbx
          refine RegionOwn.quietG rfl (RegionOwn.wanted_of (j := 58) (d := 120) (want := true) rfl rfl hg) hK2 rfl rfl ?_
          clear hK2 hD hfr hO hg
          unfold RegionOwn.T at e14
          go_simp
        | 60, _ =>
          have d59 : RegionOwn.T y 121 = .agg #[.string DG, .int .i64 t.size, .int .i64 N, .int .i64 k, .string ck, .slice ya PA.length yc] := hD 59 121 (by decide) rfl (by kernel_rfl) (.inl rfl)
          have hg : RegionOwn.T y 120 = .bool true := hD 58 120 (by decide) rfl (by kernel_rfl) (.inl rfl)
          refine RegionOwn.calledG (f := 17) (args := #[.agg #[.string DG, .int .i64 t.size, .int .i64 N, .int .i64 k, .string ck, .slice ya PA.length yc]]) rfl (RegionOwn.wanted_of (j := 58) (d := 120) (want := true) rfl rfl hg) hK2 rfl ?_ ((HVY.out x' hbx).mono fun e y' h => ⟨_, h.1, h.2, rfl⟩)
          clear hK2 hD hfr hO hg
          unfold RegionOwn.T at d59
          go_simp
        | 61, _ =>
          have d60 : RegionOwn.T y 122 = .int .i64 0 := hD 60 122 (by decide) rfl (by kernel_rfl) (.inl rfl)
          have hg : RegionOwn.T y 120 = .bool true := hD 58 120 (by decide) rfl (by kernel_rfl) (.inl rfl)
          refine RegionOwn.quietG rfl (RegionOwn.wanted_of (j := 58) (d := 120) (want := true) rfl rfl hg) hK2 rfl rfl ?_
          clear hK2 hD hfr hO hg
          unfold RegionOwn.T at d60
          go_simp
        | 62, _ =>
          have d58 : RegionOwn.T y 120 = .bool true := hD 58 120 (by decide) rfl (by kernel_rfl) (.inl rfl)
          have d61 : RegionOwn.T y 123 = .bool true := hD 61 123 (by decide) rfl (by kernel_rfl) (.inl rfl)
          refine RegionOwn.quietG rfl rfl hK2 rfl rfl ?_
          clear hK2 hD hfr hO
          unfold RegionOwn.T at d58 d61
          go_simp
        | 63, _ =>
          have d62 : RegionOwn.T y 124 = .bool true := hD 62 124 (by decide) rfl (by kernel_rfl) (.inl rfl)
          refine RegionOwn.quietG rfl rfl hK2 rfl rfl ?_
          clear hK2 hD hfr hO
          unfold RegionOwn.T at d62
          go_simp
        | 64, _ =>
          have e14 : RegionOwn.T y 14 = .pointer (some ⟨Y, 0, none⟩) := RegionOwn.Fr.at hfr (by kernel_rfl) rfl
          have hg : RegionOwn.T y 125 = .bool true := hD 63 125 (by decide) rfl (by kernel_rfl) (.inl rfl)
          refine RegionOwn.quietG rfl (RegionOwn.wanted_of (j := 63) (d := 125) (want := true) rfl rfl hg) hK2 rfl rfl ?_
          clear hK2 hD hfr hO hg
          unfold RegionOwn.T at e14
          go_simp
        | 65, _ =>
          have d64 : RegionOwn.T y 126 = .pointer (some ⟨Y, 4, none⟩) := hD 64 126 (by decide) rfl (by kernel_rfl) (.inl rfl)
          have hg : RegionOwn.T y 125 = .bool true := hD 63 125 (by decide) rfl (by kernel_rfl) (.inl rfl)
          obtain ⟨c0, c1, c2, c3, c4, c5⟩ := HCY.out x' hbx
          refine RegionOwn.quietG rfl (RegionOwn.wanted_of (j := 63) (d := 125) (want := true) rfl rfl hg) hK2 rfl rfl ?_
          clear hK2 hD hfr hO hg
          unfold RegionOwn.T at d64
          go_simp
        | 66, _ =>
          have e9 : RegionOwn.T y 9 = .pointer (some ⟨X, 0, none⟩) := RegionOwn.Fr.at hfr (by kernel_rfl) rfl
          have hg : RegionOwn.T y 125 = .bool true := hD 63 125 (by decide) rfl (by kernel_rfl) (.inl rfl)
          refine RegionOwn.quietG rfl (RegionOwn.wanted_of (j := 63) (d := 125) (want := true) rfl rfl hg) hK2 rfl rfl ?_
          clear hK2 hD hfr hO hg
          unfold RegionOwn.T at e9
          go_simp
        | 67, _ =>
          have d66 : RegionOwn.T y 128 = .pointer (some ⟨X, 4, none⟩) := hD 66 128 (by decide) rfl (by kernel_rfl) (.inl rfl)
          have hg : RegionOwn.T y 125 = .bool true := hD 63 125 (by decide) rfl (by kernel_rfl) (.inl rfl)
          obtain ⟨c0, c1, c2, c3, c4, c5⟩ := HCX.out x' hbx
          refine RegionOwn.quietG rfl (RegionOwn.wanted_of (j := 63) (d := 125) (want := true) rfl rfl hg) hK2 rfl rfl ?_
          clear hK2 hD hfr hO hg
          unfold RegionOwn.T at d66
          go_simp
        | 68, _ =>
          have d65 : RegionOwn.T y 127 = .string ck := hD 65 127 (by decide) rfl (by kernel_rfl) (.inl rfl)
          have d67 : RegionOwn.T y 129 = .string ck := hD 67 129 (by decide) rfl (by kernel_rfl) (.inl rfl)
          have hg : RegionOwn.T y 125 = .bool true := hD 63 125 (by decide) rfl (by kernel_rfl) (.inl rfl)
          refine RegionOwn.quietG rfl (RegionOwn.wanted_of (j := 63) (d := 125) (want := true) rfl rfl hg) hK2 rfl rfl ?_
          clear hK2 hD hfr hO hg
          unfold RegionOwn.T at d65 d67
          go_simp
        | 69, _ =>
          have d63 : RegionOwn.T y 125 = .bool true := hD 63 125 (by decide) rfl (by kernel_rfl) (.inl rfl)
          have d68 : RegionOwn.T y 130 = .bool true := hD 68 130 (by decide) rfl (by kernel_rfl) (.inl rfl)
          refine RegionOwn.quietG rfl rfl hK2 rfl rfl ?_
          clear hK2 hD hfr hO
          unfold RegionOwn.T at d63 d68
          go_simp
        | 70, _ =>
          have d69 : RegionOwn.T y 131 = .bool true := hD 69 131 (by decide) rfl (by kernel_rfl) (.inl rfl)
          refine RegionOwn.quietG rfl rfl hK2 rfl rfl ?_
          clear hK2 hD hfr hO
          unfold RegionOwn.T at d69
          go_simp
        | 71, _ =>
          have e9 : RegionOwn.T y 9 = .pointer (some ⟨X, 0, none⟩) := RegionOwn.Fr.at hfr (by kernel_rfl) rfl
          have hg : RegionOwn.T y 132 = .bool true := hD 70 132 (by decide) rfl (by kernel_rfl) (.inl rfl)
          refine RegionOwn.quietG rfl (RegionOwn.wanted_of (j := 70) (d := 132) (want := true) rfl rfl hg) hK2 rfl rfl ?_
          clear hK2 hD hfr hO hg
          unfold RegionOwn.T at e9
          go_simp
        | 72, _ =>
          have d71 : RegionOwn.T y 133 = .pointer (some ⟨X, 5, none⟩) := hD 71 133 (by decide) rfl (by kernel_rfl) (.inl rfl)
          have hg : RegionOwn.T y 132 = .bool true := hD 70 132 (by decide) rfl (by kernel_rfl) (.inl rfl)
          obtain ⟨c0, c1, c2, c3, c4, c5⟩ := HCX.out x' hbx
          refine RegionOwn.quietG rfl (RegionOwn.wanted_of (j := 70) (d := 132) (want := true) rfl rfl hg) hK2 rfl rfl ?_
          clear hK2 hD hfr hO hg
          unfold RegionOwn.T at d71
          go_simp
        | 73, _ =>
          have e14 : RegionOwn.T y 14 = .pointer (some ⟨Y, 0, none⟩) := RegionOwn.Fr.at hfr (by kernel_rfl) rfl
          have hg : RegionOwn.T y 132 = .bool true := hD 70 132 (by decide) rfl (by kernel_rfl) (.inl rfl)
          refine RegionOwn.quietG rfl (RegionOwn.wanted_of (j := 70) (d := 132) (want := true) rfl rfl hg) hK2 rfl rfl ?_
          clear hK2 hD hfr hO hg
          unfold RegionOwn.T at e14
          go_simp
        | 74, _ =>
          have d73 : RegionOwn.T y 135 = .pointer (some ⟨Y, 5, none⟩) := hD 73 135 (by decide) rfl (by kernel_rfl) (.inl rfl)
          have hg : RegionOwn.T y 132 = .bool true := hD 70 132 (by decide) rfl (by kernel_rfl) (.inl rfl)
          obtain ⟨c0, c1, c2, c3, c4, c5⟩ := HCY.out x' hbx
          refine RegionOwn.quietG rfl (RegionOwn.wanted_of (j := 70) (d := 132) (want := true) rfl rfl hg) hK2 rfl rfl ?_
          clear hK2 hD hfr hO hg
          unfold RegionOwn.T at d73
          go_simp
        | 75, _ =>
          have d72 : RegionOwn.T y 134 = .slice pa PA.length pc := hD 72 134 (by decide) rfl (by kernel_rfl) (.inl rfl)
          have d74 : RegionOwn.T y 136 = .slice ya PA.length yc := hD 74 136 (by decide) rfl (by kernel_rfl) (.inl rfl)
          have hg : RegionOwn.T y 132 = .bool true := hD 70 132 (by decide) rfl (by kernel_rfl) (.inl rfl)
          refine RegionOwn.calledG (f := 15) (args := #[.slice pa PA.length pc, .slice ya PA.length yc]) rfl (RegionOwn.wanted_of (j := 70) (d := 132) (want := true) rfl rfl hg) hK2 rfl ?_ ((HSA.out _ _ x' (HRX.out x' hbx) (HRY.out x' hbx)).mono fun e y' h => ⟨_, h.1, h.2, rfl⟩)
          clear hK2 hD hfr hO hg
          unfold RegionOwn.T at d72 d74
          go_simp
        | 76, _ =>
          have d70 : RegionOwn.T y 132 = .bool true := hD 70 132 (by decide) rfl (by kernel_rfl) (.inl rfl)
          have d75 : RegionOwn.T y 137 = .bool true := hD 75 137 (by decide) rfl (by kernel_rfl) (.inl rfl)
          refine RegionOwn.quietG rfl rfl hK2 rfl rfl ?_
          clear hK2 hD hfr hO
          unfold RegionOwn.T at d70 d75
          go_simp
        | i + 77, h => exact absurd h (by omega)
      · intro y x' hfr hbx hD
        have d76 : RegionOwn.T y 138 = .bool true := hD 76 138 (by decide) rfl (fun _ _ h => by cases h)
        have hsz := hfr.size
        have hdf := hfr.defers
        clear hD hfr
        refine RegionOwn.list_value (v := .bool true) (y := x') rfl ?_ ?_
        · unfold RegionOwn.T at d76
          go_simp
        · have H6 : Hid ((y.tmps.setIfInBounds 6 (.bool true))[6]? = some (.bool true)) := by
            show _ = _
            rw [Array.getElem?_setIfInBounds_self_of_lt (Nat.lt_of_lt_of_eq (show 6 < 139 by decide) (hsz.trans rfl).symm)]
          have HX := hide (HBG.out.trans (hbx.mono HBG.out.size))
          clear d76 hbx HBG
          go_wp2_with fail
          refine bodyPost_ret (results_tmp Tryz.results3 _ _ _) rfl ⟨?_, HX.out⟩
          show Ending.returned ((y.tmps.setIfInBounds 6 (.bool true)).getD 6 undef) = _
          rw [Array.getD_eq_getD_getElem?, H6.out]
          rfl
end Go.Proofs.YtoopaeahhbkncaaGreatDoor
