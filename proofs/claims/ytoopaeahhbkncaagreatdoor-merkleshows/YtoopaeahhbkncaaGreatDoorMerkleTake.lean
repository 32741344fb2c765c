/- Contracts: a share off a reader, the program's. -/
import Derived.Test.YtoopaeahhbkncaaGreatDoorMerkleIn
namespace Go.Proofs.YtoopaeahhbkncaaGreatDoor
open Go.RowKit Go.Shelf Go.Wire Go.Mk Go.Chunk
attribute [local go_sem] Oper.semAt_some
abbrev shZ : Array Value := #[.string ⟨#[]⟩, .int .i64 0, .int .i64 0, .int .i64 0, .string ⟨#[]⟩, .slice none 0 0]
set_option maxRecDepth 100000 in
set_option maxHeartbeats 2000000 in
theorem take9_any (b : Nat) (q : St) (w : World) (h : Rd 65 b q w) (hq : q.pos ≤ q.s.size) (hs : q.s.size ≤ maxLen) :
    Calls Tryz.prog 13 #[.pointer (some ⟨b, 0, none⟩)] w fun e w' => ∃ pv, e = .returned ((share q).2.v pv) ∧ w'.ownsRow w.heap.size 9 1 pv (share q).2.pa.length ((share q).2.pa.map Value.string) ∧ Rd 65 b (share q).1 w' ∧ Kept b w w' := by
  have H1 : Hid (∀ w, Rd 65 b q w → Calls Tryz.prog 32 #[.pointer (some ⟨b, 0, none⟩)] w fun e w' => e = .returned (.string (t1 q).2) ∧ Rd 65 b (t1 q).1 w' ∧ Kept b w w') := fun w h => hash_any b q w h hq hs
  have H2 : Hid (∀ w, Rd 65 b (t1 q).1 w → Calls Tryz.prog 33 #[.pointer (some ⟨b, 0, none⟩), .int .i64 9223372036854775807] w fun e w' => e = .returned (.int .i64 ((t2 q).2 : Nat)) ∧ Rd 65 b (t2 q).1 w' ∧ Kept b w w') := fun w h => count_any b (t1 q).1 MX w h (by rw [t1_s]; exact t1_le q hq) (by rw [t1_s]; exact hs) (by decide)
  have H3 : Hid (∀ w, Rd 65 b (t2 q).1 w → Calls Tryz.prog 33 #[.pointer (some ⟨b, 0, none⟩), .int .i64 9223372036854775807] w fun e w' => e = .returned (.int .i64 ((t3 q).2 : Nat)) ∧ Rd 65 b (t3 q).1 w' ∧ Kept b w w') := fun w h => count_any b (t2 q).1 MX w h (by rw [t2_s]; exact t2_le q hq) (by rw [t2_s]; exact hs) (by decide)
  have H4 : Hid (∀ w, Rd 65 b (t3 q).1 w → Calls Tryz.prog 33 #[.pointer (some ⟨b, 0, none⟩), .int .i64 9223372036854775807] w fun e w' => e = .returned (.int .i64 ((t4 q).2 : Nat)) ∧ Rd 65 b (t4 q).1 w' ∧ Kept b w w') := fun w h => count_any b (t3 q).1 MX w h (by rw [t3_s]; exact t3_le q hq) (by rw [t3_s]; exact hs) (by decide)
  have H5 : Hid (∀ w, Rd 65 b (t4 q).1 w → Calls Tryz.prog 34 #[.pointer (some ⟨b, 0, none⟩), .int .i64 9223372036854775807] w fun e w' => e = .returned (.string (t5 q).2) ∧ Rd 65 b (t5 q).1 w' ∧ Kept b w w') := fun w h => text_any b (t4 q).1 MX w h (by rw [t4_s]; exact t4_le q hq) (by rw [t4_s]; exact hs) (by decide)
  have H6 : Hid (∀ w, Rd 65 b (t5 q).1 w → Calls Tryz.prog 36 #[.pointer (some ⟨b, 0, none⟩), .int .i64 1] w fun e w' => e = .returned (.int .u64 ((t6 q).2 : Nat)) ∧ Rd 65 b (t6 q).1 w' ∧ Kept b w w') := fun w h => readerNumber_any b (t5 q).1 1 w h (by rw [t5_s]; exact t5_le q hq) (by rw [t5_s]; exact hs)
  have hlt := t6_lt q
  have h7l : (t7 q).2.length = (t6 q).2 := St.hashes_length _ _
  have H7 : Hid (∀ w, Rd 65 b (t6 q).1 w → Calls Tryz.prog 35 #[.pointer (some ⟨b, 0, none⟩), .int .i64 ((t6 q).2 : Nat)] w fun e w' => ∃ v m ys, e = .returned v ∧ w'.ownsRow w.heap.size 9 1 v m ys ∧ ((t7 q).1.err = 0 → m = (t7 q).2.length ∧ ys = (t7 q).2.map Value.string) ∧ Rd 65 b (t7 q).1 w' ∧ Kept b w w') := fun w h =>
    (takeHashes_any b (t6 q).2 (t6 q).1 w h (by rw [t6_s]; exact t6_le q hq) (by rw [t6_s]; exact hs) (by omega)).mono fun e w' ⟨v, he, ho, hr, hk⟩ => ⟨v, _, _, he, ho, fun h0 => ⟨by rw [h7l]; exact if_pos h0, if_pos h0⟩, hr, hk⟩
  have HE := hide (fun (w' : World) (hr : Rd 65 b (t7 q).1 w') => err_any b (t7 q).1 w' hr)
  have hwr : IntKind.i64.wrap ((t6 q).2 : Int) = (t6 q).2 := by simp [IntKind.wrap, IntKind.bits, IntKind.signed]; omega
  have hblt := h.lt
  have HA : Hid (∀ o, Rd 65 b q (w.alloc o)) := fun o => Rd.of_heap h (heap_alloc_old w o hblt)
  have HR : Hid (Rd 65 b q w) := h
  have hsh : share q = ((t7 q).1, if (t7 q).1.err = 0 then Sh.took q else Sh.zero) := rfl
  rw [hsh]
  unfold Sh.took Sh.zero
  clear h hsh hq hs h7l hlt
  generalize (t7 q).1 = r7 at *
  generalize (t7 q).2 = pa at *
  generalize (t6 q).1 = r6 at *
  generalize (t6 q).2 = n at *
  generalize (t5 q).1 = r5 at *
  generalize (t5 q).2 = ck at *
  generalize (t4 q).1 = r4 at *
  generalize (t4 q).2 = a4 at *
  generalize (t3 q).1 = r3 at *
  generalize (t3 q).2 = a3 at *
  generalize (t2 q).1 = r2 at *
  generalize (t2 q).2 = a2 at *
  generalize (t1 q).1 = r1 at *
  generalize (t1 q).2 = dg at *
  by_cases he : r7.err = 0
  · rw [if_pos he]
    dsimp only [Sh.v]
    rw [he] at HE
    go_enter Tryz.func13, Tryz.ntmps13
    go_wp2_with (first
      | (go_at_call 32; refine (H1.out _ (HA.out _)).mono ?_; rintro e w1 ⟨rfl, h1, k1⟩)
      | (go_at_call 33; refine (H4.out _ h3).mono ?_; rintro e w4 ⟨rfl, h4, k4⟩)
      | (go_at_call 33; refine (H3.out _ h2).mono ?_; rintro e w3 ⟨rfl, h3, k3⟩)
      | (go_at_call 33; refine (H2.out _ h1).mono ?_; rintro e w2 ⟨rfl, h2, k2⟩)
      | (go_at_call 34; refine (H5.out _ h4).mono ?_; rintro e w5 ⟨rfl, h5, k5⟩)
      | (go_at_call 36
         have I : Hid (TkSt 65 27 b w.heap.size w5.heap.size shZ w r5 #[.string dg, .int .i64 a2, .int .i64 a3, .int .i64 a4, .string ck, .slice none 0 0] (w5.alloc (.cells #[.string dg, .int .i64 a2, .int .i64 a3, .int .i64 a4, .string ck, .slice none 0 0] 27))) := TkSt.start HR.out ((((k1.trans k2).trans k3).trans k4).trans k5) h5 _
         clear k1 k2 k3 k4 k5 h1 h2 h3 h4 h5
         refine (H6.out _ I.out.rd).mono ?_; rintro e w6 ⟨rfl, h6, k6⟩; replace I := hide (I.out.read h6 k6); clear h6 k6)
      | (go_at_call 35; refine (H7.out _ I.out.rd).mono ?_; rintro e w7 ⟨v, m, ys, rfl, ho, hx, h7, k7⟩
         obtain ⟨va, vc, rfl⟩ := own_slice ho
         have HO := hide (And.intro ho (And.intro (row_lt I.out.o) (hx he)))
         replace I := hide (I.out.read h7 k7); clear h7 k7 ho hx
         obtain ⟨c0, c1, c2, c3, c4, c5⟩ := cells6 I.out.o
         have f5 : w7.frozen? ⟨w5.heap.size, 5, none⟩ = false := frozen_of_row _ _ _ _ _ I.out.o)
      | (go_at_call 37
         replace I := hide (I.out.set 5 (.slice va m vc) #[.string dg, .int .i64 a2, .int .i64 a3, .int .i64 a4, .string ck, .slice va m vc] (by rw [heap_setCell_same _ _ _ _ _ _ I.out.o]; rfl))
         clear c0 c1 c2 c3 c4 c5 f5
         obtain ⟨c0, c1, c2, c3, c4, c5⟩ := cells6 I.out.o
         refine (HE.out _ I.out.rd).mono ?_; rintro e w8 ⟨rfl, hw⟩; subst hw)
      | (refine wpList_load_row rfl 27 _ rfl _ rfl _ _ _ _ I.out.o Tryz.underlying27 rfl infoShare ?_)
      | (refine wpList_store_row rfl 27 _ _ rfl _ _ rfl rfl 27 _ I.out.z infoShare rfl (by simp [Value.oneCell']) ?_))
    obtain ⟨d1, d2, d3⟩ := I.out.done #[.string dg, .int .i64 a2, .int .i64 a3, .int .i64 a4, .string ck, .slice va m vc]
    have hh := I.out.hh
    have ho := TwoRows.own_mono (own_setRow (own_setCell (j := 5) (u := .slice va m vc) HO.out.1 HO.out.2.1) (show w.heap.size < w6.heap.size from Nat.lt_trans hh HO.out.2.1) #[.string dg, .int .i64 a2, .int .i64 a3, .int .i64 a4, .string ck, .slice va m vc]) (base' := w.heap.size) (Nat.le_of_lt (Nat.lt_trans hh HO.out.2.1))
    obtain ⟨_, _, e1, e2⟩ := HO.out
    subst e1 e2
    exact bodyPost_ret (results_cell_row Tryz.results13 _ _ _ _ _ (0, 0) _ rfl d3 Tryz.underlying27 rfl infoShare) rfl ⟨_, rfl, ho, d1, d2⟩
  · rw [if_neg he]
    dsimp only [Sh.v]
    have g0 : (r7.err == 0) = false := beq_eq_false_iff_ne.2 he
    clear he
    go_enter Tryz.func13, Tryz.ntmps13
    go_wp2_with (first
      | (go_at_call 32; refine (H1.out _ (HA.out _)).mono ?_; rintro e w1 ⟨rfl, h1, k1⟩)
      | (go_at_call 33; refine (H4.out _ h3).mono ?_; rintro e w4 ⟨rfl, h4, k4⟩)
      | (go_at_call 33; refine (H3.out _ h2).mono ?_; rintro e w3 ⟨rfl, h3, k3⟩)
      | (go_at_call 33; refine (H2.out _ h1).mono ?_; rintro e w2 ⟨rfl, h2, k2⟩)
      | (go_at_call 34; refine (H5.out _ h4).mono ?_; rintro e w5 ⟨rfl, h5, k5⟩)
      | (go_at_call 36
         have I : Hid (TkSt 65 27 b w.heap.size w5.heap.size shZ w r5 #[.string dg, .int .i64 a2, .int .i64 a3, .int .i64 a4, .string ck, .slice none 0 0] (w5.alloc (.cells #[.string dg, .int .i64 a2, .int .i64 a3, .int .i64 a4, .string ck, .slice none 0 0] 27))) := TkSt.start HR.out ((((k1.trans k2).trans k3).trans k4).trans k5) h5 _
         clear k1 k2 k3 k4 k5 h1 h2 h3 h4 h5
         refine (H6.out _ I.out.rd).mono ?_; rintro e w6 ⟨rfl, h6, k6⟩; replace I := hide (I.out.read h6 k6); clear h6 k6)
      | (go_at_call 35; refine (H7.out _ I.out.rd).mono ?_; rintro e w7 ⟨v, m, ys, rfl, ho, hx, h7, k7⟩
         obtain ⟨va, vc, rfl⟩ := own_slice ho
         replace I := hide (I.out.read h7 k7); clear h7 k7 ho hx
         obtain ⟨c0, c1, c2, c3, c4, c5⟩ := cells6 I.out.o
         have f5 : w7.frozen? ⟨w5.heap.size, 5, none⟩ = false := frozen_of_row _ _ _ _ _ I.out.o)
      | (go_at_call 37
         replace I := hide (I.out.set 5 (.slice va m vc) #[.string dg, .int .i64 a2, .int .i64 a3, .int .i64 a4, .string ck, .slice va m vc] (by rw [heap_setCell_same _ _ _ _ _ _ I.out.o]; rfl))
         clear c0 c1 c2 c3 c4 c5 f5
         obtain ⟨c0, c1, c2, c3, c4, c5⟩ := cells6 I.out.o
         refine (HE.out _ I.out.rd).mono ?_; rintro e w8 ⟨rfl, hw⟩; subst hw)
      | (refine wpList_load_row rfl 27 _ rfl _ rfl _ _ _ _ I.out.o Tryz.underlying27 rfl infoShare ?_)
      | (refine wpList_store_row rfl 27 _ _ rfl _ _ rfl rfl 27 _ I.out.z infoShare rfl (by simp [Value.oneCell']) ?_))
    obtain ⟨d1, d2, d3⟩ := I.out.done shZ
    exact bodyPost_ret (results_cell_row Tryz.results13 _ _ _ _ _ (0, 0) _ rfl d3 Tryz.underlying27 rfl infoShare) rfl ⟨_, rfl, World.ownsRow_nil _ _ _ _, d1, d2⟩
end Go.Proofs.YtoopaeahhbkncaaGreatDoor
