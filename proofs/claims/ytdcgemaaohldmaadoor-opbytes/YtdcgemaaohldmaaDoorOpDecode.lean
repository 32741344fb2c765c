/- Contracts: an operation off a reader, and of bytes, the program's; that it is awake. -/
import Derived.Test.YtdcgemaaohldmaaDoorOpTake
import Derived.Test.YtdcgemaaohldmaaDoorOpTwo
namespace Go.Opn
open Go.Wire Go.Stamp
theorem St.raw1 (q : St) (h : q.r1.2 = 1) : q.raw = (((q.r3.1.bool.1.number 8).1.text 32).1, ⟨1, q.r2.2, q.r3.2, (q.r3.1.bool.1.number 8).2, ((q.r3.1.bool.1.number 8).1.text 32).2, q.r3.1.bool.2, ⟨#[]⟩, 0⟩) := by
  unfold St.raw; rw [if_pos h, h]; rfl
theorem St.raw2 (q : St) (h : q.r1.2 = 2) : q.raw = (((q.r3.1.number 8).1.text 32).1, ⟨2, q.r2.2, q.r3.2, (q.r3.1.number 8).2, ((q.r3.1.number 8).1.text 32).2, false, ⟨#[]⟩, 0⟩) := by
  unfold St.raw; rw [if_neg (by omega), if_pos h, h]; rfl
theorem St.raw4 (q : St) (h : q.r1.2 = 4) : q.raw = (((q.r3.1.bytes 32).1.count 8192).1, ⟨4, q.r2.2, q.r3.2, 0, ⟨#[]⟩, false, (q.r3.1.bytes 32).2, ((q.r3.1.bytes 32).1.count 8192).2⟩) := by
  unfold St.raw; rw [if_neg (by omega), if_neg (by omega), if_pos h, h]; rfl
theorem St.raw0 (q : St) (h1 : q.r1.2 ≠ 1) (h2 : q.r1.2 ≠ 2) (h4 : q.r1.2 ≠ 4) : q.raw = (q.r3.1, ⟨q.r1.2, q.r2.2, q.r3.2, 0, ⟨#[]⟩, false, ⟨#[]⟩, 0⟩) := by
  unfold St.raw; rw [if_neg h1, if_neg h2, if_neg h4]; rfl
theorem St.op_of (q : St) {r : St} {o : Ob} (h : q.raw = (r, o)) : q.op = (r.fail o.chk, if (r.fail o.chk).err = 0 then o else Ob.zero) := by
  unfold St.op; rw [h]
/-- What Decode answers. -/
def dec (s : ByteArray) : Ob × Int := (if (St.mk s 0 0).op.1.fin.err = 0 then (St.mk s 0 0).op.2 else Ob.zero, (St.mk s 0 0).op.1.fin.err)
theorem dec_bytes {o : Ob} (hok : o.tm.Ok) (hg : o.Good) : dec o.bytesB = (o, 0) := by
  have h := op_at (q := ⟨o.bytesB, 0, 0⟩) (A := []) (C := []) hok hg ⟨by simp [Ob.bytesB], rfl, rfl⟩
  unfold dec
  rw [h]
  have e : ((St.mk o.bytesB 0 0).on o.bytes.length).fin = (St.mk o.bytesB 0 0).on o.bytes.length := St.fin_end _ (by
    show ¬ 0 < ((o.bytesB.size : Nat) : Int) - ((0 + o.bytes.length : Nat) : Int)
    rw [size_list]; simp [Ob.bytesB])
  dsimp only
  rw [e]
  rfl
open Go.RowKit in
theorem dec_at {T S : Nat} {r : St} {o : Ob} {w w1 w2 w3 : World} (k1 : Below (w.alloc (.cells Ob.zero.cs S)).heap.size (w.alloc (.cells Ob.zero.cs S)) w1) (k2 : Kept (w.heap.size + 1) w1 w2) (h2 : Rd T (w.heap.size + 1) r w2) (k3 : Kept (w.heap.size + 1) (w2.alloc (.cells o.cs S)) w3) :
    w3.heap[w.heap.size]? = some (.cells Ob.zero.cs S (0, 0)) ∧ w3.heap[w2.heap.size]? = some (.cells o.cs S (0, 0)) ∧ Below w.heap.size w w3 := by
  have b1 := below_alloc_call k1
  have l2 := h2.lt
  have z1 : w1.heap[w.heap.size]? = some (.cells Ob.zero.cs S (0, 0)) := kept_block (heap_alloc_new _ _) k1
  have z2 := (k2.other w.heap.size (by omega) (row_lt z1)).trans z1
  have z3 := (k3.other w.heap.size (by omega) (by simp; omega)).trans (kept_alloc z2 _)
  have y3 := (k3.other w2.heap.size (by omega) (by simp)).trans (heap_alloc_new w2 (.cells o.cs S))
  exact ⟨z3, y3, ((b1.trans (k2.below.mono (by omega))).alloc (by omega) _).trans (k3.below.mono (by omega))⟩
end Go.Opn
namespace Go.Proofs.YtdcgemaaohldmaaDoor
open Go.RowKit Go.Wire Go.Stamp Go.Opn
theorem takeOp_any (b : Nat) (q : St) (w : World) (h : Rd 71 b q w) (hq : q.pos ≤ q.s.size) (hs : q.s.size ≤ maxLen) :
    Calls Tryd.prog 14 #[.pointer (some ⟨b, 0, none⟩)] w fun e w' => e = .returned q.op.2.v ∧ Rd 71 b q.op.1 w' ∧ Kept b w w' := by
  have z1 : q.r1.1.s.size ≤ maxLen := by unfold St.r1; rw [St.number_s]; exact hs
  have z2 : q.r2.1.s.size ≤ maxLen := by unfold St.r2; rw [St.stamp_s]; exact z1
  have z3 : q.r3.1.s.size ≤ maxLen := by rw [St.r3_s]; exact hs
  have p1 := q.r1_le hq
  have p2 := q.r2_le hq
  have p3 := q.r3_le hq
  have HST : Hid (∀ w, Rd 71 b q.r1.1 w → Calls Tryd.prog 38 #[.pointer (some ⟨b, 0, none⟩)] w fun e w' => e = .returned q.r2.2.v ∧ Rd 71 b q.r2.1 w' ∧ Kept b w w') := fun w h => take_any b q.r1.1 w h p1 z1
  have HN8 : Hid (∀ w, Rd 71 b q.r2.1 w → Calls Tryd.prog 37 #[.pointer (some ⟨b, 0, none⟩), .int .i64 8] w fun e w' => e = .returned (.int .u64 (q.r3.2 : Nat)) ∧ Rd 71 b q.r3.1 w' ∧ Kept b w w') := fun w h => readerNumber_any b q.r2.1 8 w h p2 z2
  have HN1 : ∀ w, Rd 71 b q w → Calls Tryd.prog 37 #[.pointer (some ⟨b, 0, none⟩), .int .i64 1] w fun e w' => e = .returned (.int .u64 (q.r1.2 : Nat)) ∧ Rd 71 b q.r1.1 w' ∧ Kept b w w' := fun w h => readerNumber_any b q 1 w h hq hs
  have hk : q.r1.2 < 256 := q.number_lt 1 (by decide)
  by_cases k1 : q.r1.2 = 1
  · rw [St.op_of q (St.raw1 q k1)]
    rw [k1] at HN1
    have pb := q.r3.1.bool_le p3
    have pn := q.r3.1.bool.1.number_le 8 (by rw [St.bool_s]; exact pb)
    exact take_1 b q q.r1.1 q.r2.1 q.r3.1 _ _ _ _ _ _ q.r2.2 q.r3.2 w h HN1 HST HN8
      (fun w h => bool_any b q.r3.1 w h p3 z3)
      (fun w h => readerNumber_any b q.r3.1.bool.1 8 w h (by rw [St.bool_s]; exact pb) (by rw [St.bool_s]; exact z3))
      (fun w h => text_any b (q.r3.1.bool.1.number 8).1 32 w h (by rw [St.number_s]; exact pn) (by rw [St.number_s, St.bool_s]; exact z3) (by decide))
      _ (fun w => checkOp_any _ w)
  by_cases k2 : q.r1.2 = 2
  · rw [St.op_of q (St.raw2 q k2)]
    rw [k2] at HN1
    have pn := q.r3.1.number_le 8 p3
    exact take_2 b q q.r1.1 q.r2.1 q.r3.1 _ _ _ _ q.r2.2 q.r3.2 w h HN1 HST HN8
      (fun w h => readerNumber_any b q.r3.1 8 w h p3 z3)
      (fun w h => text_any b (q.r3.1.number 8).1 32 w h (by rw [St.number_s]; exact pn) (by rw [St.number_s]; exact z3) (by decide))
      _ (fun w => checkOp_any _ w)
  by_cases k4 : q.r1.2 = 4
  · rw [St.op_of q (St.raw4 q k4)]
    rw [k4] at HN1
    have pn := q.r3.1.bytes_le 32 p3
    exact take_4 b q q.r1.1 q.r2.1 q.r3.1 _ _ _ _ q.r2.2 q.r3.2 w h HN1 HST HN8
      (fun w h => hash_any b q.r3.1 w h p3 z3)
      (fun w h => count_any b (q.r3.1.bytes 32).1 8192 w h (by rw [St.bytes_s]; exact pn) (by rw [St.bytes_s]; exact z3) (by decide))
      _ (fun w => checkOp_any _ w)
  · rw [St.op_of q (St.raw0 q k1 k2 k4)]
    exact take_0 b q q.r1.1 q.r2.1 q.r3.1 q.r1.2 q.r2.2 q.r3.2 w h hk k1 k2 k4 HN1 HST HN8 _ (fun w => checkOp_any _ w)
set_option maxRecDepth 100000 in
set_option maxHeartbeats 1000000 in
theorem decode_any (s : ByteArray) (w : World) (hs : s.size ≤ maxLen) :
    Calls Tryd.prog 10 #[.string s] w fun e w' => e = .returned (.tuple #[(dec s).1.v, .int .i64 (dec s).2]) ∧ Below w.heap.size w w' := by
  have HT : ∀ (b : Nat) (w : World), Rd 71 b ⟨s, 0, 0⟩ w → Hid (Calls Tryd.prog 14 #[.pointer (some ⟨b, 0, none⟩)] w fun e w' => e = .returned (St.mk s 0 0).op.2.v ∧ Rd 71 b (St.mk s 0 0).op.1 w' ∧ Kept b w w') := fun b w h => takeOp_any b _ w h (Nat.zero_le _) hs
  have HE : ∀ (b : Nat) (w : World), Rd 71 b (St.mk s 0 0).op.1 w → Hid (Calls Tryd.prog 30 #[.pointer (some ⟨b, 0, none⟩)] w fun e w' => e = .returned (.int .i64 (St.mk s 0 0).op.1.fin.err) ∧ Kept b w w') := fun b w h =>
    (end_any b (St.mk s 0 0).op.1 w h (by rw [St.op_s]; exact St.op_le _ (Nat.zero_le _)) (by rw [St.op_s]; exact hs)).mono fun e w' ⟨a, _, c⟩ => ⟨a, c⟩
  unfold dec
  generalize (St.mk s 0 0).op.1.fin.err = f at HE ⊢
  generalize (St.mk s 0 0).op.1 = r at HT HE
  generalize (St.mk s 0 0).op.2 = o at HT ⊢
  clear hs
  dsimp only
  obtain ⟨kd, ⟨c, k⟩, th, p, n, d, g, z⟩ := o
  by_cases hf : f = 0
  · subst hf
    rw [if_pos rfl]
    unfold Ob.v at HT ⊢
    dsimp only at HT ⊢
    go_enter Tryd.func10, Tryd.ntmps10
    go_wp2_with (first
      | (go_at_call 13; refine (newReader_any s _).mono ?_; rintro e w1 ⟨rfl, h1, k1⟩; have h1 : Rd 71 (w.heap.size + 1) ⟨s, 0, 0⟩ w1 := (by simpa using h1))
      | (go_at_call 14; refine (HT _ _ h1).out.mono ?_; rintro e w2 ⟨rfl, h2, k2⟩)
      | (go_at_call 30; refine (HE _ _ (Rd.of_heap h2 (heap_alloc_old _ _ h2.lt))).out.mono ?_; rintro e w3 ⟨rfl, k3⟩; have HD : Hid (w3.heap[w.heap.size]? = some (.cells Ob.zero.cs 26 (0, 0)) ∧ w3.heap[w2.heap.size]? = some (.cells (Ob.mk kd ⟨c, k⟩ th p n d g z).cs 26 (0, 0)) ∧ Below w.heap.size w w3) := dec_at k1 k2 h2 k3; clear k1 k2 k3 h1 h2; obtain ⟨c0, c1, c2, c3, c4, c5, c6, c7, c8⟩ := cells9 HD.out.2.1)
      | (refine wpList_store_row rfl 26 _ _ rfl _ _ rfl rfl 26 _ HD.out.1 infoOp rfl (by simp [Value.oneCell']) ?_))
    exact bodyPost_ret (results_cell2_row Tryd.results10 _ _ _ _ _ (0, 0) _ rfl (setRow_heap _ _ _ _ _ _ HD.out.1) Tryd.underlying26 rfl infoOp) rfl ⟨rfl, below_setRow HD.out.2.2 (Nat.le_refl _) _⟩
  · rw [if_neg hf]
    have hf0 : (f == 0) = false := beq_eq_false_iff_ne.2 hf
    clear hf
    unfold Ob.v at HT ⊢
    unfold Ob.zero
    dsimp only at HT ⊢
    go_enter Tryd.func10, Tryd.ntmps10
    go_wp2_with (first
      | (go_at_call 13; refine (newReader_any s _).mono ?_; rintro e w1 ⟨rfl, h1, k1⟩; have h1 : Rd 71 (w.heap.size + 1) ⟨s, 0, 0⟩ w1 := (by simpa using h1))
      | (go_at_call 14; refine (HT _ _ h1).out.mono ?_; rintro e w2 ⟨rfl, h2, k2⟩)
      | (go_at_call 30; refine (HE _ _ (Rd.of_heap h2 (heap_alloc_old _ _ h2.lt))).out.mono ?_; rintro e w3 ⟨rfl, k3⟩; have HD : Hid (w3.heap[w.heap.size]? = some (.cells Ob.zero.cs 26 (0, 0)) ∧ w3.heap[w2.heap.size]? = some (.cells (Ob.mk kd ⟨c, k⟩ th p n d g z).cs 26 (0, 0)) ∧ Below w.heap.size w w3) := dec_at k1 k2 h2 k3; clear k1 k2 k3 h1 h2; obtain ⟨c0, c1, c2, c3, c4, c5, c6, c7, c8⟩ := cells9 HD.out.2.1)
      | (refine wpList_store_row rfl 26 _ _ rfl _ _ rfl rfl 26 _ HD.out.1 infoOp rfl (by simp [Value.oneCell']) ?_))
    exact bodyPost_ret (results_cell2_row Tryd.results10 _ _ _ _ _ (0, 0) _ rfl (setRow_heap _ _ _ _ _ _ HD.out.1) Tryd.underlying26 rfl infoOp) rfl ⟨rfl, below_setRow HD.out.2.2 (Nat.le_refl _) _⟩
theorem decode_bytes (o : Ob) (w : World) (hok : o.tm.Ok) (hg : o.Good) :
    Calls Tryd.prog 10 #[.string o.bytesB] w fun e w' => e = .returned (.tuple #[o.v, .int .i64 0]) ∧ Below w.heap.size w w' := by
  have h := decode_any o.bytesB w (by
    have := Ob.bytes_length (Ob.good_is hg)
    rw [size_list]
    simp only [Ob.bytesB]
    unfold maxLen
    omega)
  rwa [dec_bytes hok hg] at h
/-- The operation of the wake-up call. -/
abbrev oA : Ob := ⟨1, ⟨3, 2⟩, 50, 0, ⟨#[97]⟩, false, ⟨#[]⟩, 0⟩
set_option maxHeartbeats 1000000 in
theorem awakeOp_any (w : World) :
    Calls Tryd.prog 8 #[] w fun e w' => e = .returned (.bool true) ∧ Below w.heap.size w w' := by
  have hok : oA.tm.Ok := by decide
  have hg : oA.Good := by decide +kernel
  have HE : Hid (∀ w, Calls Tryd.prog 5 #[oA.v] w fun e w' => e = .returned (.tuple #[.string oA.bytesB, .int .i64 0]) ∧ Below w.heap.size w w') := fun w => encode_ok oA w hok hg
  have HD : Hid (∀ w, Calls Tryd.prog 10 #[.string oA.bytesB] w fun e w' => e = .returned (.tuple #[oA.v, .int .i64 0]) ∧ Below w.heap.size w w') := fun w => decode_bytes oA w hok hg
  generalize oA.bytesB = X at HE HD
  unfold Ob.v at HE HD
  dsimp only at HE HD
  clear hok hg
  go_enter Tryd.func8, Tryd.ntmps8
  go_wp2_with (first
    | (go_at_call 5; refine (HE.out _).mono ?_; rintro e w1 ⟨rfl, k1⟩)
    | (go_at_call 10; refine (HD.out _).mono ?_; rintro e w2 ⟨rfl, k2⟩))
  go_ret
  exact ⟨rfl, (k1.trans (k2.mono k1.size)).alloc (Nat.le_trans k1.size k2.size) _⟩
end Go.Proofs.YtdcgemaaohldmaaDoor
