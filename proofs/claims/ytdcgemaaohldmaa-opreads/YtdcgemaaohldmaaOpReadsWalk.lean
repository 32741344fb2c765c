/- The walk of OpReads. -/
import Derived.Test.YtdcgemaaohldmaaOpRefTake
import Derived.Test.YtdcgemaaohldmaaOpRefBytes
import Derived.Test.YtdcgemaaohldmaaOpRefEq
import Derived.Test.YtdcgemaaohldmaaOpRef
namespace Go.Opn
open Go.RowKit Go.Wire Go.Stamp
/-- What stands behind both readings: what was read, the document's reader, what it read. -/
structure ReadsAt (S R S' g u v : Nat) (a : Ob) (q : St) (o : Ob) (w0 w : World) : Prop where
  ha : w.heap[g]? = some (.cells a.cs S (0, 0))
  hq : w.heap[u]? = some (.cells (rcs q) R (0, 0))
  ho : w.heap[v]? = some (.cells o.cs S' (0, 0))
  below : Below w0.heap.size w0 w
theorem ReadsAt.step {S R S' g u v : Nat} {a : Ob} {q : St} {o : Ob} {w0 w w' : World} (i : ReadsAt S R S' g u v a q o w0 w) (k : Below w.heap.size w w') : ReadsAt S R S' g u v a q o w0 w' :=
  ⟨kept_block i.ha k, kept_block i.hq k, kept_block i.ho k, i.below.trans (k.mono i.below.size)⟩
theorem ReadsAt.start {S R S' : Nat} {a : Ob} {q : St} {o : Ob} {w w1 w2 : World} (k1 : Below w.heap.size w w1) (k2 : Below (w1.alloc (.cells a.cs S)).heap.size (w1.alloc (.cells a.cs S)) w2) :
    ReadsAt S R S' w1.heap.size w2.heap.size (w2.heap.size + 1) a q o w ((w2.alloc (.cells (rcs q) R)).alloc (.cells o.cs S')) := by
  have b2 := below_alloc_call k2
  have z1 := k1.size
  have z2 := b2.size
  exact ⟨kept_alloc (kept_alloc (kept_block (heap_alloc_new _ _) k2) _) _, kept_alloc (heap_alloc_new _ _) _, at_new (by simp) _, ((k1.trans (b2.mono z1)).alloc (by omega) _).alloc (by simp; omega) _⟩
theorem ReadsAt.setQ {S R S' g u v : Nat} {a : Ob} {q : St} {o : Ob} {w0 w : World} (i : ReadsAt S R S' g u v a q o w0 w) (hg : g ≠ u) (hv : v ≠ u) (h0 : w0.heap.size ≤ u) (r : St) : ReadsAt S R S' g u v a r o w0 (((w.setCell ⟨u, 0, none⟩ (.string r.s)).setCell ⟨u, 1, none⟩ (.int .i64 r.pos)).setCell ⟨u, 2, none⟩ (.int .i64 r.err)) := by
  have e : ∀ k, k ≠ u → (((w.setCell ⟨u, 0, none⟩ (.string r.s)).setCell ⟨u, 1, none⟩ (.int .i64 r.pos)).setCell ⟨u, 2, none⟩ (.int .i64 r.err)).heap[k]? = w.heap[k]? := fun k hk =>
    ((Below.heap_setCell _ ⟨u, 2, none⟩ _ k hk).trans (Below.heap_setCell _ ⟨u, 1, none⟩ _ k hk)).trans (Below.heap_setCell _ ⟨u, 0, none⟩ _ k hk)
  exact ⟨(e _ hg).trans i.ha, Wire.set3 i.hq _ _ _, (e _ hv).trans i.ho, below3 i.below h0 _ _ _⟩
theorem fin_zero {q : St} (h : q.fin.err = 0) : q.err = 0 ∧ q.s.size ≤ q.pos := by
  unfold St.fin at h
  by_cases x : q.err = 0 ∧ q.pos < q.s.size
  · rw [if_pos x] at h; exact absurd h (by show ¬ ((5 : Int) = 0); decide)
  · rw [if_neg x] at h; exact ⟨h, by omega⟩
/-- Bytes that are an operation are that operation's bytes. -/
theorem reads_bytes {s : ByteArray} (h : (St.mk s 0 0).op.1.fin.err = 0) : (St.mk s 0 0).op.2.tm.Ok ∧ (St.mk s 0 0).op.2.Good ∧ (St.mk s 0 0).op.2.bytesB = s := by
  obtain ⟨h1, h2⟩ := fin_zero h
  obtain ⟨t, ok, g⟩ := St.op_took (q := ⟨s, 0, 0⟩) (Nat.zero_le _) h1
  refine ⟨ok, g, ?_⟩
  rw [St.op_s] at h2
  exact (t.all h2).symm
theorem eqb_self (o : Ob) : o.eqb o = true := (Ob.eqb_iff o o).2 rfl
end Go.Opn
namespace Go.Proofs.Ytdcgemaaohldmaa
open Go.RowKit Go.Wire Go.Stamp Go.Opn
set_option maxRecDepth 100000 in
set_option maxHeartbeats 2000000 in
theorem opReads_any (s : ByteArray) (w : World) (hs : s.size ≤ maxLen) :
    Calls Try.prog 3 #[.string s] w fun e w' => e = .returned (.bool true) ∧ Below w.heap.size w w' := by
  have HD : Hid (∀ w, Calls Try.prog 5 #[.string s] w fun e w' => e = .returned (.tuple #[(dec s).1.v, .int .i64 (dec s).2]) ∧ Below w.heap.size w w') := fun w => decode_any s w hs
  have HT : Hid (∀ w, Calls Try.prog 6 #[(St.mk s 0 0).v] w fun e w' => e = .returned (.tuple #[(St.mk s 0 0).op.1.v, (St.mk s 0 0).op.2.v]) ∧ Below w.heap.size w w') := fun w => rtakeOp_any _ w (Nat.zero_le _) hs
  have HE : Hid (∀ w, Calls Try.prog 7 #[(St.mk s 0 0).op.1.v] w fun e w' => e = .returned (St.mk s 0 0).op.1.fin.v ∧ Below w.heap.size w w') := fun w => rend_any _ w (by rw [St.op_s]; exact hs)
  clear hs
  have hd : dec s = (if (St.mk s 0 0).op.1.fin.err = 0 then (St.mk s 0 0).op.2 else Ob.zero, (St.mk s 0 0).op.1.fin.err) := rfl
  rw [hd] at HD
  clear hd
  by_cases hf : (St.mk s 0 0).op.1.fin.err = 0
  · rw [if_pos hf, hf] at HD
    obtain ⟨hok, hgood, hb⟩ := reads_bytes hf
    have HR : Hid (∀ w, Calls Try.prog 9 #[(St.mk s 0 0).op.2.v] w fun e w' => e = .returned (St.mk s 0 0).op.2.v ∧ Below w.heap.size w w') := fun w => refOp_any _ w
    have HBy : Hid (∀ w, Calls Try.prog 10 #[(St.mk s 0 0).op.2.v] w fun e w' => e = .returned (.string s) ∧ Below w.heap.size w w') := fun w => by
      have := rbytesOp_any (St.mk s 0 0).op.2 w hok hgood
      rwa [hb] at this
    clear hok hgood hb
    generalize (St.mk s 0 0).op.1.fin = f at HE hf
    generalize (St.mk s 0 0).op.1 = r at HT HE
    generalize (St.mk s 0 0).op.2 = o at HT HR HBy HD
    obtain ⟨fs, fp, fe⟩ := f
    dsimp only at hf
    subst hf
    obtain ⟨kd, ⟨c, k⟩, th, p, n, d, g, z⟩ := o
    unfold Ob.v at HD HT HR HBy
    unfold St.v at HT HE
    dsimp only at HD HT HR HBy HE
    go_enter Try.func3, Try.ntmps3
    go_wp2_with (first
      | (go_at_call 5; refine (HD.out _).mono ?_; rintro e w1 ⟨rfl, k1⟩)
      | (go_at_call 6; refine (HT.out _).mono ?_; rintro e w2 ⟨rfl, k2⟩)
      | (go_at_call 7; refine (HE.out _).mono ?_; rintro e w3 ⟨rfl, k3⟩; have I : Hid (ReadsAt 26 31 34 w1.heap.size w2.heap.size (w2.heap.size + 1) ⟨kd, ⟨c, k⟩, th, p, n, d, g, z⟩ r ⟨kd, ⟨c, k⟩, th, p, n, d, g, z⟩ w w3) := (ReadsAt.start k1 k2).step k3; have l1 : w.heap.size ≤ w1.heap.size := k1.size; have l2 : w1.heap.size < w2.heap.size := (by have := (below_alloc_call k2).size; have := k2.size; simp at this; omega); clear k1 k2 k3; obtain ⟨a0, a1, a2, a3, a4, a5⟩ := cells3 I.out.hq)
      | (go_at_call 8; refine (awakeOp_any _).mono ?_; rintro e w4 ⟨rfl, k4⟩; replace I : Hid (ReadsAt 26 31 34 w1.heap.size w2.heap.size (w2.heap.size + 1) ⟨kd, ⟨c, k⟩, th, p, n, d, g, z⟩ ⟨fs, fp, 0⟩ ⟨kd, ⟨c, k⟩, th, p, n, d, g, z⟩ w w4) := (I.out.setQ (by omega) (by omega) (by omega) ⟨fs, fp, 0⟩).step k4; clear k4 a0 a1 a2 a3 a4 a5; obtain ⟨a0, a1, a2, a3, a4, a5⟩ := cells3 I.out.hq))
    refine QuietCalls.region (by kernel_rfl) (by kernel_rfl) ?_
    refine QuietCalls.load rfl 26 _ rfl _ rfl _ _ _ _ I.out.ha Try.underlying26 rfl infoOp ?_; simp only [Act.put, List.setIfInBounds_toArray, List.set_cons_succ, List.set_cons_zero]
    refine QuietCalls.call1 rfl rfl Try.call9 (fun w _ => HR.out w) rfl ?_; simp only [Act.put, List.setIfInBounds_toArray, List.set_cons_succ, List.set_cons_zero]
    refine QuietCalls.load rfl 34 _ rfl _ rfl _ _ _ _ I.out.ho Try.underlying34 rfl infoROp ?_; simp only [Act.put, List.setIfInBounds_toArray, List.set_cons_succ, List.set_cons_zero]
    refine QuietCalls.hand rfl (.bool true) (fun w => (eql_rop rfl (Ob.mk kd ⟨c, k⟩ th p n d g z) (Ob.mk kd ⟨c, k⟩ th p n d g z) rfl rfl w).trans (by rw [eqb_self])) ?_; simp only [Act.put, List.setIfInBounds_toArray, List.set_cons_succ, List.set_cons_zero]
    first | go_big_quiet_step (fail) | quiet_step (fail)
    refine QuietCalls.load rfl 34 _ rfl _ rfl _ _ _ _ I.out.ho Try.underlying34 rfl infoROp ?_; simp only [Act.put, List.setIfInBounds_toArray, List.set_cons_succ, List.set_cons_zero]
    refine QuietCalls.call1 rfl rfl Try.call10 (fun w _ => HBy.out w) rfl ?_; simp only [Act.put, List.setIfInBounds_toArray, List.set_cons_succ, List.set_cons_zero]
    first | go_big_quiet_step (fail) | quiet_step (fail)
    first | go_big_quiet_step (fail) | quiet_step (fail)
    first | go_big_quiet_step (fail) | quiet_step (fail)
    first | go_big_quiet_step (fail) | quiet_step (fail)
    refine wpQuiet_nil ?_
    intro w5 k5
    go_wp2_with fail
    go_ret
    exact ⟨rfl, I.out.below.trans (k5.mono I.out.below.size)⟩
  · rw [if_neg hf] at HD
    have hf0 : ((St.mk s 0 0).op.1.fin.err == 0) = false := beq_eq_false_iff_ne.2 hf
    clear hf
    generalize (St.mk s 0 0).op.1.fin = f at HE HD hf0
    generalize (St.mk s 0 0).op.1 = r at HT HE
    generalize (St.mk s 0 0).op.2 = o at HT
    obtain ⟨fs, fp, fe⟩ := f
    obtain ⟨kd, ⟨c, k⟩, th, p, n, d, g, z⟩ := o
    unfold Ob.v at HD HT
    unfold Ob.zero at HD
    unfold St.v at HT HE
    dsimp only at HD HT HE hf0
    go_enter Try.func3, Try.ntmps3
    go_wp2_with (first
      | (go_at_call 5; refine (HD.out _).mono ?_; rintro e w1 ⟨rfl, k1⟩)
      | (go_at_call 6; refine (HT.out _).mono ?_; rintro e w2 ⟨rfl, k2⟩)
      | (go_at_call 7; refine (HE.out _).mono ?_; rintro e w3 ⟨rfl, k3⟩; have I : Hid (ReadsAt 26 31 34 w1.heap.size w2.heap.size (w2.heap.size + 1) Ob.zero r ⟨kd, ⟨c, k⟩, th, p, n, d, g, z⟩ w w3) := (ReadsAt.start k1 k2).step k3; have l1 : w.heap.size ≤ w1.heap.size := k1.size; have l2 : w1.heap.size < w2.heap.size := (by have := (below_alloc_call k2).size; have := k2.size; simp at this; omega); clear k1 k2 k3; obtain ⟨a0, a1, a2, a3, a4, a5⟩ := cells3 I.out.hq)
      | (go_at_call 8; refine (awakeOp_any _).mono ?_; rintro e w4 ⟨rfl, k4⟩; replace I : Hid (ReadsAt 26 31 34 w1.heap.size w2.heap.size (w2.heap.size + 1) Ob.zero ⟨fs, fp, fe⟩ ⟨kd, ⟨c, k⟩, th, p, n, d, g, z⟩ w w4) := (I.out.setQ (by omega) (by omega) (by omega) ⟨fs, fp, fe⟩).step k4; clear k4 a0 a1 a2 a3 a4 a5; obtain ⟨a0, a1, a2, a3, a4, a5⟩ := cells3 I.out.hq; obtain ⟨c0, c1, c2, c3, c4, c5, c6, c7, c8⟩ := cells9 I.out.ha; unfold Ob.zero at c0 c1 c2 c3 c4 c5 c6 c7 c8))
    go_ret
    exact ⟨rfl, I.out.below⟩
end Go.Proofs.Ytdcgemaaohldmaa
