/- The walk of OpBytes. -/
import Derived.Test.YtdcgemaaohldmaaDoorOpHash
import Derived.Test.YtdcgemaaohldmaaDoorOpDecode
import Derived.Test.YtdcgemaaohldmaaDoorOpRefCheck
import Derived.Test.YtdcgemaaohldmaaDoorOpOne
import Derived.Test.YtdcgemaaohldmaaDoorPureOp
namespace Go.Opn
theorem eqb_self (o : Ob) : o.eqb o = true := (Ob.eqb_iff o o).2 rfl
open Go.Wire in
/-- What was put, and a letter behind it, is taken: the operation, and the letter is left. -/
theorem op_more {o : Ob} (hok : o.tm.Ok) (hg : o.Good) : (St.mk (o.bytesB ++ ⟨#[120]⟩) 0 0).op = ((St.mk (o.bytesB ++ ⟨#[120]⟩) 0 0).on o.bytes.length, o) :=
  op_at (A := []) (C := [120]) hok hg ⟨by simp only [app_list]; simp [Ob.bytesB], rfl, rfl⟩
end Go.Opn
namespace Go.Proofs.YtdcgemaaohldmaaDoor
open Go.RowKit Go.Wire Go.Stamp Go.Opn
/-- What stands while all is held against all: the operation three times, the writer, the reader, the table. -/
structure Bts (T S R B g b r h x : Nat) (l : List UInt8) (o : Ob) (q : St) (w0 w : World) : Prop where
  ho : w.heap[g]? = some (.cells o.cs S (0, 0))
  hk : w.heap[h]? = some (.cells o.cs S (0, 0))
  hx : w.heap[x]? = some (.cells o.cs S (0, 0))
  hw : Wt T B b l w
  hq : Rd R r q w
  hB : B ≤ w.heap.size
  h0 : w0.heap.size ≤ B
  below : Below w0.heap.size w0 w
  steps : Steps w
theorem Bts.step {T S R B g b r h x : Nat} {l : List UInt8} {o : Ob} {q : St} {w0 w w' : World} (i : Bts T S R B g b r h x l o q w0 w) (k : Below w.heap.size w w') : Bts T S R B g b r h x l o q w0 w' :=
  ⟨kept_block i.ho k, kept_block i.hk k, kept_block i.hx k, i.hw.below k, Rd.of_heap i.hq (k.block _ i.hq.lt), Nat.le_trans i.hB k.size, i.h0, i.below.trans (k.mono i.below.size), i.steps.below k i.steps.pos⟩
theorem Bts.told {T S R B g b r h x : Nat} {l : List UInt8} {o : Ob} {q : St} {w0 w w' : World} (i : Bts T S R B g b r h x l o q w0 w) (hS : S ≠ 5) (hR : R ≠ 5) (hp : 0 < B) (a : Wt T B b l w') (k : Wrote B (.pointer none) w w') : Bts T S R B g b r h x l o q w0 w' :=
  ⟨k.row (by intro e; cases e) hS i.ho, k.row (by intro e; cases e) hS i.hk, k.row (by intro e; cases e) hS i.hx, a, k.row (by intro e; cases e) hR i.hq, Nat.le_trans i.hB k.below.size, i.h0, i.below.trans (k.below.mono i.h0), i.steps.below k.below hp⟩
theorem Bts.drew {T S R B g b r h x : Nat} {l : List UInt8} {o : Ob} {q : St} {w0 w : World} (i : Bts T S R B g b r h x l o q w0 w) : Bts T S R B g b r h x l o q w0 w.drew :=
  ⟨i.ho, i.hk, i.hx, i.hw, i.hq, i.hB, i.h0, i.below.drew, i.steps⟩
set_option maxRecDepth 100000 in
set_option maxHeartbeats 2000000 in
theorem bytes_no (o : Ob) (w : World) (hc : 0 ≤ o.tm.c) (h : o.chk ≠ 0) :
    Calls Tryd.prog 3 #[o.v] w fun e w' => e = .returned (.bool true) ∧ Below w.heap.size w w' := by
  have HE : Hid (∀ w, Calls Tryd.prog 5 #[o.v] w fun e w' => e = .returned (.tuple #[.string ⟨#[]⟩, .int .i64 o.chk]) ∧ Below w.heap.size w w') := fun w => encode_no o w h
  have HR : Hid (∀ w, Calls Tryd.prog 7 #[o.v] w fun e w' => e = .returned o.v ∧ Below w.heap.size w w') := fun w => refOp_any o w
  have HK : Hid (∀ w, Calls Tryd.prog 6 #[o.v] w fun e w' => e = .returned (.int .i64 o.chk) ∧ Below w.heap.size w w') := fun w => rcheckOp_any o hc w
  have HC : Hid (∀ w, Calls Tryd.prog 9 #[o.v] w fun e w' => e = .returned (.int .i64 o.chk) ∧ Below w.heap.size w w') := fun w => checkOp_any o w
  have h0 : (o.chk == 0) = false := beq_eq_false_iff_ne.2 h
  clear h hc
  generalize o.chk = r at HE HK HC h0
  obtain ⟨kd, ⟨c, k⟩, th, p, n, d, g, z⟩ := o
  unfold Ob.v at HE HR HK HC ⊢
  dsimp only at HE HR HK HC ⊢
  go_enter Tryd.func3, Tryd.ntmps3
  go_wp2_with (first
    | (go_at_call 5; refine (HE.out _).mono ?_; rintro e w1 ⟨rfl, k1⟩; have I : Hid (w1.heap[w.heap.size]? = some (.cells (Ob.mk kd ⟨c, k⟩ th p n d g z).cs 26 (0, 0)) ∧ Below w.heap.size w w1) := ⟨kept_block (heap_alloc_new _ _) k1, below_alloc_call k1⟩; clear k1; obtain ⟨c0, c1, c2, c3, c4, c5, c6, c7, c8⟩ := cells9 I.out.1)
    | (go_at_call 7; refine (HR.out _).mono ?_; rintro e w2 ⟨rfl, k2⟩; replace I : Hid (w2.heap[w.heap.size]? = some (.cells (Ob.mk kd ⟨c, k⟩ th p n d g z).cs 26 (0, 0)) ∧ Below w.heap.size w w2) := ⟨kept_block I.out.1 k2, I.out.2.trans (k2.mono I.out.2.size)⟩; clear k2)
    | (go_at_call 6; refine (HK.out _).mono ?_; rintro e w3 ⟨rfl, k3⟩; replace I : Hid (w3.heap[w.heap.size]? = some (.cells (Ob.mk kd ⟨c, k⟩ th p n d g z).cs 26 (0, 0)) ∧ Below w.heap.size w w3) := ⟨kept_block I.out.1 k3, I.out.2.trans (k3.mono I.out.2.size)⟩; clear k3 c0 c1 c2 c3 c4 c5 c6 c7 c8)
    | (go_at_call 8; refine (awakeOp_any _).mono ?_; rintro e w4 ⟨rfl, k4⟩; replace I : Hid (w4.heap[w.heap.size]? = some (.cells (Ob.mk kd ⟨c, k⟩ th p n d g z).cs 26 (0, 0)) ∧ Below w.heap.size w w4) := ⟨kept_block I.out.1 k4, I.out.2.trans (k4.mono I.out.2.size)⟩; clear k4; obtain ⟨c0, c1, c2, c3, c4, c5, c6, c7, c8⟩ := cells9 I.out.1)
    | (go_at_call 9; refine (HC.out _).mono ?_; rintro e w5 ⟨rfl, k5⟩))
  go_ret
  exact ⟨rfl, I.out.2.trans (k5.mono I.out.2.size)⟩
set_option maxRecDepth 100000 in
set_option maxHeartbeats 4000000 in
theorem bytes_ok (o : Ob) (w : World) (hok : o.tm.Ok) (hg : o.Good) (hst : Steps w) :
    Calls Tryd.prog 3 #[o.v] w fun e w' => e = .returned (.bool true) ∧ Below w.heap.size w w' := by
  have hc : 0 ≤ o.tm.c := by have := hok; unfold Tm.Ok at this; omega
  have hs := bytesB_size hg
  have HE : Hid (∀ w, Calls Tryd.prog 5 #[o.v] w fun e w' => e = .returned (.tuple #[.string o.bytesB, .int .i64 0]) ∧ Below w.heap.size w w') := fun w => encode_ok o w hok hg
  have HR : Hid (∀ w, Calls Tryd.prog 7 #[o.v] w fun e w' => e = .returned o.v ∧ Below w.heap.size w w') := fun w => refOp_any o w
  have HK : Hid (∀ w, Calls Tryd.prog 6 #[o.v] w fun e w' => e = .returned (.int .i64 0) ∧ Below w.heap.size w w') := fun w => by have := rcheckOp_any o hc w; rwa [Ob.chk_ok hok hg] at this
  have HC : Hid (∀ w, Calls Tryd.prog 9 #[o.v] w fun e w' => e = .returned (.int .i64 0) ∧ Below w.heap.size w w') := fun w => by have := checkOp_any o w; rwa [Ob.chk_ok hok hg] at this
  have HD : Hid (∀ w, Calls Tryd.prog 10 #[.string o.bytesB] w fun e w' => e = .returned (.tuple #[o.v, .int .i64 0]) ∧ Below w.heap.size w w') := fun w => decode_bytes o w hok hg
  have HP : Hid (∀ (b : Nat) (w : World), Wr 64 b b [] w → b ≤ w.heap.size → Calls Tryd.prog 12 #[.pointer (some ⟨b, 0, none⟩), o.v] w fun e w' => e = .returned (.tuple #[]) ∧ Wt 64 b b o.bytes w' ∧ Below b w w') := fun b w h hb =>
    (putOp_any b (.pointer (some ⟨b, 0, none⟩)) [] o w (.inr ⟨b, rfl, h⟩) (by decide) hb hok hg).mono fun e w' ⟨he, h, hw⟩ => ⟨he, by
      rcases h with h | ⟨b', h, hr⟩
      · cases h
      · obtain rfl : b = b' := by simpa using h
        exact hr.told, hw.below⟩
  have hXs : (o.bytesB ++ ⟨#[120]⟩ : ByteArray).size = o.bytesB.size + 1 := by rw [ByteArray.size_append]; rfl
  have hlen : o.bytes.length = o.bytesB.size := by rw [size_list]; simp [Ob.bytesB]
  have HT : Hid (∀ (b : Nat) (w : World), Rd 71 b ⟨o.bytesB ++ ⟨#[120]⟩, 0, 0⟩ w → Calls Tryd.prog 14 #[.pointer (some ⟨b, 0, none⟩)] w fun e w' => e = .returned o.v ∧ Rd 71 b ⟨o.bytesB ++ ⟨#[120]⟩, o.bytesB.size, 0⟩ w' ∧ Kept b w w') := fun b w h => by
    have := takeOp_any b _ w h (Nat.zero_le _) (by show (o.bytesB ++ ⟨#[120]⟩ : ByteArray).size ≤ maxLen; rw [hXs]; unfold maxLen; omega)
    rw [op_more hok hg] at this
    unfold St.on at this
    dsimp only at this
    rw [Nat.zero_add, hlen] at this
    exact this
  have HL : Hid (∀ (b : Nat) (w : World), Rd 71 b ⟨o.bytesB ++ ⟨#[120]⟩, o.bytesB.size, 0⟩ w → Calls Tryd.prog 17 #[.pointer (some ⟨b, 0, none⟩)] w fun e w' => e = .returned (.int .i64 1) ∧ w' = w.drew) := fun b w h => by
    have := left_any b _ w h (by show o.bytesB.size ≤ (o.bytesB ++ ⟨#[120]⟩ : ByteArray).size; rw [hXs]; omega) (by show (o.bytesB ++ ⟨#[120]⟩ : ByteArray).size ≤ maxLen; rw [hXs]; unfold maxLen; omega)
    have e : (((o.bytesB ++ ⟨#[120]⟩ : ByteArray).size : Nat) : Int) - (o.bytesB.size : Nat) = 1 := by rw [hXs]; omega
    dsimp only at this
    rwa [e] at this
  have HB : Hid (∀ w, Calls Tryd.prog 15 #[o.v] w fun e w' => e = .returned (.string o.bytesB) ∧ Below w.heap.size w w') := fun w => rbytesOp_any o w hok hg
  have HA : Hid (∀ (B b : Nat) (w : World), B ≤ w.heap.size → Wt 64 B b o.bytes w → Calls Tryd.prog 16 #[.pointer (some ⟨b, 0, none⟩)] w fun e w' => e = .returned (.string o.bytesB) ∧ Wt 64 B b o.bytes w' ∧ Wrote B (.pointer none) w w') := fun B b w hb h => all_told B b _ w hb h
  have HH : Hid (∀ w, Steps w → Calls Tryd.prog 18 #[o.v] w fun e w' => e = .returned (.string (tag o.bytes)) ∧ Below w.heap.size w w') := fun w h => hashOp_any o w hok hg h
  have HG : Hid (∀ w, Calls Tryd.prog 19 #[o.v] w fun e w' => e = .returned (.string (tag o.bytes)) ∧ Below w.heap.size w w') := fun w => rhashOp_any o w hok hg
  clear hok hg hc hXs hlen
  have HS : Hid (Steps w) := hst
  have hpos := hst.pos
  clear hst
  generalize tag o.bytes = D at HH HG
  generalize o.bytes = l at HA HP
  generalize hXX : o.bytesB = X at HE HD HT HL HB HA hs
  clear hXX
  obtain ⟨kd, ⟨c, k⟩, th, p, n, d, g, z⟩ := o
  unfold Ob.v at HE HR HK HC HD HP HT HB HH HG ⊢
  dsimp only at HE HR HK HC HD HP HT HB HH HG ⊢
  go_enter Tryd.func3, Tryd.ntmps3
  go_wp2_with (first
    | (go_at_call 5; refine (HE.out _).mono ?_; rintro e w1 ⟨rfl, k1⟩; have I : Hid (w1.heap[w.heap.size]? = some (.cells (Ob.mk kd ⟨c, k⟩ th p n d g z).cs 26 (0, 0)) ∧ Below w.heap.size w w1) := ⟨kept_block (heap_alloc_new _ _) k1, below_alloc_call k1⟩; clear k1; obtain ⟨c0, c1, c2, c3, c4, c5, c6, c7, c8⟩ := cells9 I.out.1)
    | (go_at_call 7; refine (HR.out _).mono ?_; rintro e w2 ⟨rfl, k2⟩; replace I : Hid (w2.heap[w.heap.size]? = some (.cells (Ob.mk kd ⟨c, k⟩ th p n d g z).cs 26 (0, 0)) ∧ Below w.heap.size w w2) := ⟨kept_block I.out.1 k2, I.out.2.trans (k2.mono I.out.2.size)⟩; clear k2)
    | (go_at_call 6; refine (HK.out _).mono ?_; rintro e w3 ⟨rfl, k3⟩; replace I : Hid (w3.heap[w.heap.size]? = some (.cells (Ob.mk kd ⟨c, k⟩ th p n d g z).cs 26 (0, 0)) ∧ Below w.heap.size w w3) := ⟨kept_block I.out.1 k3, I.out.2.trans (k3.mono I.out.2.size)⟩; clear k3 c0 c1 c2 c3 c4 c5 c6 c7 c8)
    | (go_at_call 8; refine (awakeOp_any _).mono ?_; rintro e w4 ⟨rfl, k4⟩; replace I : Hid (w4.heap[w.heap.size]? = some (.cells (Ob.mk kd ⟨c, k⟩ th p n d g z).cs 26 (0, 0)) ∧ Below w.heap.size w w4) := ⟨kept_block I.out.1 k4, I.out.2.trans (k4.mono I.out.2.size)⟩; clear k4; obtain ⟨c0, c1, c2, c3, c4, c5, c6, c7, c8⟩ := cells9 I.out.1)
    | (go_at_call 9; refine (HC.out _).mono ?_; rintro e w5 ⟨rfl, k5⟩; replace I : Hid (w5.heap[w.heap.size]? = some (.cells (Ob.mk kd ⟨c, k⟩ th p n d g z).cs 26 (0, 0)) ∧ Below w.heap.size w w5) := ⟨kept_block I.out.1 k5, I.out.2.trans (k5.mono I.out.2.size)⟩; clear k5 c0 c1 c2 c3 c4 c5 c6 c7 c8)
    | (go_at_call 10; refine (HD.out _).mono ?_; rintro e w6 ⟨rfl, k6⟩; replace I : Hid (w6.heap[w.heap.size]? = some (.cells (Ob.mk kd ⟨c, k⟩ th p n d g z).cs 26 (0, 0)) ∧ Below w.heap.size w w6) := ⟨kept_block I.out.1 k6, I.out.2.trans (k6.mono I.out.2.size)⟩; clear k6)
    | (go_at_call 11; refine (newWriter_any _).mono ?_; rintro e w7 ⟨rfl, h7, k7⟩; have h7 : Wr 64 (w6.heap.size + 1) (w6.heap.size + 1) [] w7 := (by simpa using h7); have J : Hid (w7.heap[w.heap.size]? = some (.cells (Ob.mk kd ⟨c, k⟩ th p n d g z).cs 26 (0, 0)) ∧ w7.heap[w6.heap.size]? = some (.cells (Ob.mk kd ⟨c, k⟩ th p n d g z).cs 26 (0, 0)) ∧ Below w.heap.size w w7 ∧ w.heap.size < w6.heap.size ∧ w6.heap.size + 1 ≤ w7.heap.size) := ⟨kept_block (kept_alloc I.out.1 _) k7, kept_block (heap_alloc_new _ _) k7, I.out.2.trans ((below_alloc_call k7).mono I.out.2.size), row_lt I.out.1, (by simpa using k7.size)⟩; clear k7; obtain ⟨c0, c1, c2, c3, c4, c5, c6, c7, c8⟩ := cells9 J.out.1)
    | (go_at_call 12; refine (HP.out _ _ h7 J.out.2.2.2.2).mono ?_; rintro e w8 ⟨rfl, h8, k8⟩; clear c0 c1 c2 c3 c4 c5 c6 c7 c8)
    | (go_at_call 13; refine (newReader_any _ _).mono ?_; rintro e w9 ⟨rfl, h9, k9⟩)
    | (go_at_call 14; refine (HT.out _ _ h9).mono ?_; rintro e w10 ⟨rfl, h10, k10⟩))
  have K : Hid (∃ b r h x q, b = w6.heap.size + 1 ∧ r = w8.heap.size ∧ h = w6.heap.size ∧ x = w10.heap.size ∧ q = ⟨X ++ ⟨#[120]⟩, X.size, 0⟩ ∧ Bts 64 26 71 b w.heap.size b r h x l (Ob.mk kd ⟨c, k⟩ th p n d g z) q w (w10.alloc (.cells (Ob.mk kd ⟨c, k⟩ th p n d g z).cs 26))) := by
    obtain ⟨j1, j2, j3, j4, j5⟩ := J.out
    have z8 := k8.size
    have b8 : w8.heap[w.heap.size]? = some (.cells (Ob.mk kd ⟨c, k⟩ th p n d g z).cs 26 (0, 0)) := (k8.block _ (by omega)).trans j1
    have d8 : w8.heap[w6.heap.size]? = some (.cells (Ob.mk kd ⟨c, k⟩ th p n d g z).cs 26 (0, 0)) := (k8.block _ (by omega)).trans j2
    have kk : Below w8.heap.size w8 w10 := k9.trans k10.below
    have z10 := kk.size
    have ka : Below w8.heap.size w8 (w10.alloc (.cells (Ob.mk kd ⟨c, k⟩ th p n d g z).cs 26)) := kk.alloc z10 _
    have bl : Below w.heap.size w (w10.alloc (.cells (Ob.mk kd ⟨c, k⟩ th p n d g z).cs 26)) := (j3.trans (k8.mono (by omega))).trans (ka.mono (by omega))
    exact ⟨w6.heap.size + 1, w8.heap.size, w6.heap.size, w10.heap.size, _, rfl, rfl, rfl, rfl, rfl,
      kept_block b8 ka, kept_block d8 ka, heap_alloc_new _ _, h8.below ka, Rd.of_heap h10 (heap_alloc_old _ _ h10.lt), by simp; omega, by omega, bl, HS.out.below bl hpos⟩
  clear I J h7 h8 k8 h9 k9 h10 k10 HE HK HC HD HP HT
  obtain ⟨b, r, h, x, q, eb, er, eh, ex, eq, I⟩ := K.out
  clear K
  rw [← eb, ← er, ← eh, ← ex]
  rw [← eq] at HL
  have hb0 : 0 < b := by omega
  clear eb er eh ex eq hs
  generalize w10.alloc (.cells (Ob.mk kd ⟨c, k⟩ th p n d g z).cs 26) = W at I ⊢
  have CR : Hid (∀ w', Bts 64 26 71 b w.heap.size b r h x l (Ob.mk kd ⟨c, k⟩ th p n d g z) q w w' → Calls Tryd.prog 7 #[.agg (Ob.mk kd ⟨c, k⟩ th p n d g z).cs] w' fun e w'' => e = .returned (.agg (Ob.mk kd ⟨c, k⟩ th p n d g z).cs) ∧ Bts 64 26 71 b w.heap.size b r h x l (Ob.mk kd ⟨c, k⟩ th p n d g z) q w w'') := fun w' i => (HR.out w').mono fun e w'' ⟨a, k⟩ => ⟨a, i.step k⟩
  have CB : Hid (∀ w', Bts 64 26 71 b w.heap.size b r h x l (Ob.mk kd ⟨c, k⟩ th p n d g z) q w w' → Calls Tryd.prog 15 #[.agg (Ob.mk kd ⟨c, k⟩ th p n d g z).cs] w' fun e w'' => e = .returned (.string X) ∧ Bts 64 26 71 b w.heap.size b r h x l (Ob.mk kd ⟨c, k⟩ th p n d g z) q w w'') := fun w' i => (HB.out w').mono fun e w'' ⟨a, k⟩ => ⟨a, i.step k⟩
  have CA : Hid (∀ w', Bts 64 26 71 b w.heap.size b r h x l (Ob.mk kd ⟨c, k⟩ th p n d g z) q w w' → Calls Tryd.prog 16 #[.pointer (some ⟨b, 0, none⟩)] w' fun e w'' => e = .returned (.string X) ∧ Bts 64 26 71 b w.heap.size b r h x l (Ob.mk kd ⟨c, k⟩ th p n d g z) q w w'') := fun w' i => (HA.out b b w' i.hB i.hw).mono fun e w'' ⟨a, t, k⟩ => ⟨a, i.told (by decide) (by decide) hb0 t k⟩
  have CL : Hid (∀ w', Bts 64 26 71 b w.heap.size b r h x l (Ob.mk kd ⟨c, k⟩ th p n d g z) q w w' → Calls Tryd.prog 17 #[.pointer (some ⟨r, 0, none⟩)] w' fun e w'' => e = .returned (.int .i64 1) ∧ Bts 64 26 71 b w.heap.size b r h x l (Ob.mk kd ⟨c, k⟩ th p n d g z) q w w'') := fun w' i => (HL.out r w' i.hq).mono fun e w'' ⟨a, k⟩ => ⟨a, by rw [k]; exact i.drew⟩
  have CH : Hid (∀ w', Bts 64 26 71 b w.heap.size b r h x l (Ob.mk kd ⟨c, k⟩ th p n d g z) q w w' → Calls Tryd.prog 18 #[.agg (Ob.mk kd ⟨c, k⟩ th p n d g z).cs] w' fun e w'' => e = .returned (.string D) ∧ Bts 64 26 71 b w.heap.size b r h x l (Ob.mk kd ⟨c, k⟩ th p n d g z) q w w'') := fun w' i => (HH.out w' i.steps).mono fun e w'' ⟨a, k⟩ => ⟨a, i.step k⟩
  have CG : Hid (∀ w', Bts 64 26 71 b w.heap.size b r h x l (Ob.mk kd ⟨c, k⟩ th p n d g z) q w w' → Calls Tryd.prog 19 #[.agg (Ob.mk kd ⟨c, k⟩ th p n d g z).cs] w' fun e w'' => e = .returned (.string D) ∧ Bts 64 26 71 b w.heap.size b r h x l (Ob.mk kd ⟨c, k⟩ th p n d g z) q w w'') := fun w' i => (HG.out w').mono fun e w'' ⟨a, k⟩ => ⟨a, i.step k⟩
  clear HR HB HA HL HH HG
  refine QuietClass.region (fun w' => Bts 64 26 71 b w.heap.size b r h x l (Ob.mk kd ⟨c, k⟩ th p n d g z) q w w') (by kernel_rfl) (by kernel_rfl) I.drew ?_
  refine QuietClass.move rfl rfl rfl ?_; simp only [Act.put, List.setIfInBounds_toArray, List.set_cons_succ, List.set_cons_zero]
  refine QuietClass.load rfl 26 _ rfl _ rfl _ _ _ _ (fun w i => i.ho) Tryd.underlying26 rfl infoOp ?_; simp only [Act.put, List.setIfInBounds_toArray, List.set_cons_succ, List.set_cons_zero]
  refine QuietClass.call1 rfl rfl Tryd.call7 (fun w i => CR.out w i) rfl ?_; simp only [Act.put, List.setIfInBounds_toArray, List.set_cons_succ, List.set_cons_zero]
  refine QuietClass.call1 rfl rfl Tryd.call15 (fun w i => CB.out w i) rfl ?_; simp only [Act.put, List.setIfInBounds_toArray, List.set_cons_succ, List.set_cons_zero]
  refine QuietClass.eqStr1 rfl rfl rfl rfl ?_; simp only [Act.put, List.setIfInBounds_toArray, List.set_cons_succ, List.set_cons_zero]
  refine QuietClass.move rfl rfl rfl ?_; simp only [Act.put, List.setIfInBounds_toArray, List.set_cons_succ, List.set_cons_zero]
  refine QuietClass.move rfl rfl rfl ?_; simp only [Act.put, List.setIfInBounds_toArray, List.set_cons_succ, List.set_cons_zero]
  refine QuietClass.call1 rfl rfl Tryd.call16 (fun w i => CA.out w i) rfl ?_; simp only [Act.put, List.setIfInBounds_toArray, List.set_cons_succ, List.set_cons_zero]
  refine QuietClass.move rfl rfl rfl ?_; simp only [Act.put, List.setIfInBounds_toArray, List.set_cons_succ, List.set_cons_zero]
  refine QuietClass.eqStr1 rfl rfl rfl rfl ?_; simp only [Act.put, List.setIfInBounds_toArray, List.set_cons_succ, List.set_cons_zero]
  refine QuietClass.pick rfl rfl rfl rfl ?_; simp only [Act.put, List.setIfInBounds_toArray, List.set_cons_succ, List.set_cons_zero]
  refine QuietClass.move rfl rfl rfl ?_; simp only [Act.put, List.setIfInBounds_toArray, List.set_cons_succ, List.set_cons_zero]
  refine QuietClass.move rfl rfl rfl ?_; simp only [Act.put, List.setIfInBounds_toArray, List.set_cons_succ, List.set_cons_zero]
  refine QuietClass.eqInt1 rfl rfl rfl rfl ?_; simp only [Act.put, List.setIfInBounds_toArray, List.set_cons_succ, List.set_cons_zero]
  refine QuietClass.pick rfl rfl rfl rfl ?_; simp only [Act.put, List.setIfInBounds_toArray, List.set_cons_succ, List.set_cons_zero]
  refine QuietClass.move rfl rfl rfl ?_; simp only [Act.put, List.setIfInBounds_toArray, List.set_cons_succ, List.set_cons_zero]
  refine QuietClass.load rfl 26 _ rfl _ rfl _ _ _ _ (fun w i => i.hk) Tryd.underlying26 rfl infoOp ?_; simp only [Act.put, List.setIfInBounds_toArray, List.set_cons_succ, List.set_cons_zero]
  refine QuietClass.load rfl 26 _ rfl _ rfl _ _ _ _ (fun w i => i.ho) Tryd.underlying26 rfl infoOp ?_; simp only [Act.put, List.setIfInBounds_toArray, List.set_cons_succ, List.set_cons_zero]
  refine QuietCalls.hand rfl (.bool true) (fun w => (eql_op rfl (Ob.mk kd ⟨c, k⟩ th p n d g z) (Ob.mk kd ⟨c, k⟩ th p n d g z) rfl rfl w).trans (by rw [eqb_self])) ?_; simp only [Act.put, List.setIfInBounds_toArray, List.set_cons_succ, List.set_cons_zero]
  refine QuietClass.pick rfl rfl rfl rfl ?_; simp only [Act.put, List.setIfInBounds_toArray, List.set_cons_succ, List.set_cons_zero]
  refine QuietClass.move rfl rfl rfl ?_; simp only [Act.put, List.setIfInBounds_toArray, List.set_cons_succ, List.set_cons_zero]
  refine QuietClass.load rfl 26 _ rfl _ rfl _ _ _ _ (fun w i => i.hx) Tryd.underlying26 rfl infoOp ?_; simp only [Act.put, List.setIfInBounds_toArray, List.set_cons_succ, List.set_cons_zero]
  refine QuietClass.load rfl 26 _ rfl _ rfl _ _ _ _ (fun w i => i.ho) Tryd.underlying26 rfl infoOp ?_; simp only [Act.put, List.setIfInBounds_toArray, List.set_cons_succ, List.set_cons_zero]
  refine QuietCalls.hand rfl (.bool true) (fun w => (eql_op rfl (Ob.mk kd ⟨c, k⟩ th p n d g z) (Ob.mk kd ⟨c, k⟩ th p n d g z) rfl rfl w).trans (by rw [eqb_self])) ?_; simp only [Act.put, List.setIfInBounds_toArray, List.set_cons_succ, List.set_cons_zero]
  refine QuietClass.pick rfl rfl rfl rfl ?_; simp only [Act.put, List.setIfInBounds_toArray, List.set_cons_succ, List.set_cons_zero]
  refine QuietClass.move rfl rfl rfl ?_; simp only [Act.put, List.setIfInBounds_toArray, List.set_cons_succ, List.set_cons_zero]
  refine QuietClass.move rfl rfl rfl ?_; simp only [Act.put, List.setIfInBounds_toArray, List.set_cons_succ, List.set_cons_zero]
  refine QuietClass.call1 rfl rfl Tryd.call17 (fun w i => CL.out w i) rfl ?_; simp only [Act.put, List.setIfInBounds_toArray, List.set_cons_succ, List.set_cons_zero]
  refine QuietClass.eqInt1 rfl rfl rfl rfl ?_; simp only [Act.put, List.setIfInBounds_toArray, List.set_cons_succ, List.set_cons_zero]
  refine QuietClass.pick rfl rfl rfl rfl ?_; simp only [Act.put, List.setIfInBounds_toArray, List.set_cons_succ, List.set_cons_zero]
  refine QuietClass.move rfl rfl rfl ?_; simp only [Act.put, List.setIfInBounds_toArray, List.set_cons_succ, List.set_cons_zero]
  refine QuietClass.load rfl 26 _ rfl _ rfl _ _ _ _ (fun w i => i.ho) Tryd.underlying26 rfl infoOp ?_; simp only [Act.put, List.setIfInBounds_toArray, List.set_cons_succ, List.set_cons_zero]
  refine QuietClass.call1 rfl rfl Tryd.call18 (fun w i => CH.out w i) rfl ?_; simp only [Act.put, List.setIfInBounds_toArray, List.set_cons_succ, List.set_cons_zero]
  refine QuietClass.load rfl 26 _ rfl _ rfl _ _ _ _ (fun w i => i.ho) Tryd.underlying26 rfl infoOp ?_; simp only [Act.put, List.setIfInBounds_toArray, List.set_cons_succ, List.set_cons_zero]
  refine QuietClass.call1 rfl rfl Tryd.call7 (fun w i => CR.out w i) rfl ?_; simp only [Act.put, List.setIfInBounds_toArray, List.set_cons_succ, List.set_cons_zero]
  refine QuietClass.call1 rfl rfl Tryd.call19 (fun w i => CG.out w i) rfl ?_; simp only [Act.put, List.setIfInBounds_toArray, List.set_cons_succ, List.set_cons_zero]
  refine QuietClass.eqStr1 rfl rfl rfl rfl ?_; simp only [Act.put, List.setIfInBounds_toArray, List.set_cons_succ, List.set_cons_zero]
  refine QuietClass.pick rfl rfl rfl rfl ?_; simp only [Act.put, List.setIfInBounds_toArray, List.set_cons_succ, List.set_cons_zero]
  refine QuietCalls.assign rfl rfl rfl ?_; simp only [Act.put, List.setIfInBounds_toArray, List.set_cons_succ, List.set_cons_zero]
  refine wpQuiet_nil ?_
  intro w11 i
  go_wp2_with fail
  go_ret
  exact ⟨rfl, i.below⟩
theorem opBytes_any (o : Ob) (w : World) (hf : o.Fits) (hst : Steps w) :
    Calls Tryd.prog 3 #[o.v] w fun e w' => e = .returned (.bool true) ∧ Below w.heap.size w w' := by
  by_cases h : o.chk = 0
  · obtain ⟨hok, hg⟩ := Ob.chk_zero h
    exact bytes_ok o w hok hg hst
  · exact bytes_no o w hf.tm.c0 h
end Go.Proofs.YtdcgemaaohldmaaDoor
