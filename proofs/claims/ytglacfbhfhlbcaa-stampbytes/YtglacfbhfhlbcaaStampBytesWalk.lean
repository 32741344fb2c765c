/- The walk of StampBytes. -/
import Derived.Test.YtglacfbhfhlbcaaStampTake
import Derived.Test.YtglacfbhfhlbcaaStampClock
import Derived.Test.YtglacfbhfhlbcaaWireTakes
namespace Go.Stamp
open Go.RowKit Go.Wire
/-- What stands behind both readings: the time a, the reader, what was read, the document's reader and what it read. -/
structure ReadAt (T S S' R g b t u v : Nat) (a : Tm) (q : St) (r : Tm) (w0 w : World) : Prop where
  ha : w.heap[g]? = some (.cells #[.int .u64 a.c, .int .i64 a.k] S (0, 0))
  hq : Rd T b q w
  ht : w.heap[t]? = some (.cells #[.int .u64 r.c, .int .i64 r.k] S (0, 0))
  hu : w.heap[u]? = some (.cells #[.string q.s, .int .i64 q.pos, .int .i64 q.err] R (0, 0))
  hv : w.heap[v]? = some (.cells #[.int .u64 r.c, .int .i64 r.k] S' (0, 0))
  below : Below w0.heap.size w0 w
/-- What stands ahead of the last reading: the time a, the writer in block b, the reader in block r. -/
structure Last (T S R B g b r : Nat) (l : List UInt8) (a : Tm) (q : St) (w0 w : World) : Prop where
  ha : w.heap[g]? = some (.cells #[.int .u64 a.c, .int .i64 a.k] S (0, 0))
  hw : Wt T B b l w
  hq : Rd R r q w
  hB : B ≤ w.heap.size
  below : Below w0.heap.size w0 w
theorem Last.step {T S R B g b r : Nat} {l : List UInt8} {a : Tm} {q : St} {w0 w w' : World} (i : Hid (Last T S R B g b r l a q w0 w)) (k : Below w.heap.size w w') : Hid (Last T S R B g b r l a q w0 w') :=
  Hid.out ⟨kept_block i.out.ha k, i.out.hw.below k, Rd.of_heap i.out.hq (k.block _ i.out.hq.lt), Nat.le_trans i.out.hB k.size, i.out.below.trans (k.mono i.out.below.size)⟩
theorem Last.told {T S R B g b r : Nat} {l : List UInt8} {a : Tm} {q : St} {w0 w w' : World} (i : Hid (Last T S R B g b r l a q w0 w)) (hS : S ≠ 5) (hR : R ≠ 5) (hB : w0.heap.size ≤ B) (h : Wt T B b l w') (k : Wrote B (.pointer none) w w') : Hid (Last T S R B g b r l a q w0 w') :=
  Hid.out ⟨k.row (by intro e; cases e) hS i.out.ha, h, k.row (by intro e; cases e) hR i.out.hq, Nat.le_trans i.out.hB k.below.size, i.out.below.trans (k.below.mono hB)⟩
theorem Last.drew {T S R B g b r : Nat} {l : List UInt8} {a : Tm} {q : St} {w0 w : World} (i : Hid (Last T S R B g b r l a q w0 w)) : Hid (Last T S R B g b r l a q w0 w.drew) :=
  Hid.out ⟨i.out.ha, i.out.hw, i.out.hq, i.out.hB, i.out.below.drew⟩
/-- Behind it: the time a, the reader. -/
structure Ended (S R g r : Nat) (a : Tm) (q : St) (w0 w : World) : Prop where
  ha : w.heap[g]? = some (.cells #[.int .u64 a.c, .int .i64 a.k] S (0, 0))
  hq : Rd R r q w
  below : Below w0.heap.size w0 w
theorem Last.took {T S R B g b r : Nat} {l : List UInt8} {a : Tm} {q q' : St} {w0 w w' : World} (i : Hid (Last T S R B g b r l a q w0 w)) (hg : g ≠ r) (hr : w0.heap.size ≤ r) (h : Rd R r q' w') (k : Kept r w w') : Hid (Ended S R g r a q' w0 w') :=
  Hid.out ⟨(k.other g hg (row_lt i.out.ha)).trans i.out.ha, h, i.out.below.trans (k.below.mono hr)⟩
end Go.Stamp
namespace Go.Proofs.Ytglacfbhfhlbcaa
open Go.RowKit Go.Wire Go.Stamp Go.Sort
set_option maxRecDepth 100000 in
set_option maxHeartbeats 1000000 in
theorem stampBytes_any (a : Tm) (s : ByteArray) (w : World) (ha : a.Fits) (hs : s.size ≤ maxLen) :
    Calls Try.prog 6 #[a.v, .string s] w fun e w' => e = .returned (.bool true) ∧ Below w.heap.size w w' := by
  have HT : ∀ (b : Nat) (w : World), Rd 67 b ⟨s, 0, 0⟩ w → Hid (Calls Try.prog 23 #[.pointer (some ⟨b, 0, none⟩)] w fun e w' => e = .returned (St.mk s 0 0).stamp.2.v ∧ Rd 67 b (St.mk s 0 0).stamp.1 w' ∧ Kept b w w') := fun b w h => take_any b _ w h (Nat.zero_le _) hs
  have HRT : Hid (∀ w : World, Calls Try.prog 24 #[.agg #[.string s, .int .i64 0, .int .i64 0]] w fun e w' => e = .returned (.tuple #[(St.mk s 0 0).stamp.1.v, (St.mk s 0 0).stamp.2.v]) ∧ Below w.heap.size w w') := fun w => rtake_any ⟨s, 0, 0⟩ w (Nat.zero_le _) hs
  generalize (St.mk s 0 0).stamp.1 = q at HT HRT
  generalize (St.mk s 0 0).stamp.2 = t at HT HRT
  unfold St.v Tm.v at HRT
  unfold Tm.v at HT ⊢
  have HK : Hid (∀ w, Calls Try.prog 10 #[a.v] w fun e w' => e = .returned a.v ∧ Below w.heap.size w w') := fun w => ref_any a w
  have HC : Hid (∀ w, Calls Try.prog 15 #[a.v] w fun e w' => e = .returned (.int .i64 a.chk) ∧ Below w.heap.size w w') := fun w => rcheck_any a ha.c0 w
  unfold Tm.v at HK HC
  clear hs
  go_enter Try.func6, Try.ntmps6
  go_wp2_with (first
    | (go_at_call 22; refine (newReader_any s _).mono ?_; rintro e w1 ⟨rfl, h1, k1⟩; have h1 : Rd 67 (w.heap.size + 1) ⟨s, 0, 0⟩ w1 := by simpa using h1)
    | (go_at_call 23; refine (HT _ _ h1).out.mono ?_; rintro e w2 ⟨rfl, h2, k2⟩)
    | (go_at_call 24; refine (HRT.out _).mono ?_; rintro e w3 ⟨rfl, k3⟩))
  have HR : Hid (ReadAt 67 24 27 50 w.heap.size (w.heap.size + 1) w2.heap.size w3.heap.size (w3.heap.size + 1) a q t w ((w3.alloc (.cells #[.string q.s, .int .i64 q.pos, .int .i64 q.err] 50)).alloc (.cells #[.int .u64 t.c, .int .i64 t.k] 27))) := by
    have b3 := below_alloc_call k3
    have b4 : Below w3.heap.size w3 ((w3.alloc (.cells #[.string q.s, .int .i64 q.pos, .int .i64 q.err] 50)).alloc (.cells #[.int .u64 t.c, .int .i64 t.k] 27)) := ((Below.refl _ _).alloc (Nat.le_refl _) _).alloc (by simp) _
    have b1 := below_alloc_call k1
    have l1 := h1.lt
    have z2 := k2.below.size
    have z3 := b3.size
    have hA : w1.heap[w.heap.size]? = some (.cells #[.int .u64 a.c, .int .i64 a.k] 24 (0, 0)) := new2 k1
    have hA2 := (k2.other w.heap.size (by omega) (row_lt hA)).trans hA
    refine ⟨kept_block (kept_block hA2 b3) b4, ?_, kept_block (new2 k3) b4, kept_alloc (heap_alloc_new _ _) _, new_at (by simp) _, ((b1.trans (k2.below.mono (by omega))).trans (b3.mono (by omega))).trans (b4.mono (by omega))⟩
    exact Rd.of_heap h2 ((b4.block _ (by omega)).trans (b3.block _ h2.lt))
  clear h1 k1 h2 k2 k3 HT HRT
  generalize ((w3.alloc (.cells #[.string q.s, .int .i64 q.pos, .int .i64 q.err] 50)).alloc (.cells #[.int .u64 t.c, .int .i64 t.k] 27)) = W at HR ⊢
  have c0 := cell_regrown (cells2 HR.out.hv).1
  have c1 := cell_regrown (cells2 HR.out.hv).2.1
  have c2 := cell_regrown (cells3 HR.out.hu).2.2.1
  have HE : Hid (∀ w', Below W.heap.size W w' → Calls Try.prog 25 #[.pointer (some ⟨w.heap.size + 1, 0, none⟩)] w' fun e w'' => e = .returned (.int .i64 q.err) ∧ Below w'.heap.size w' w'') := fun w' k =>
    (err_any (w.heap.size + 1) q w' (Rd.of_heap HR.out.hq (k.block _ HR.out.hq.lt))).mono fun e w'' ⟨he, hw⟩ => ⟨he, by rw [hw]; exact Below.refl _ _⟩
  refine QuietCalls.region (by kernel_rfl) (by kernel_rfl) ?_
  refine QuietCalls.call0 rfl rfl Try.call11 (fun w _ => awake_any w) ?_; simp only [Act.put, List.setIfInBounds_toArray, List.set_cons_succ, List.set_cons_zero]
  first | go_big_quiet_step (fail) | quiet_step (fail)
  first | go_big_quiet_step (fail) | quiet_step (fail)
  refine QuietCalls.load rfl 24 _ rfl _ rfl _ _ _ _ HR.out.ht Try.underlying24 rfl info24 ?_; simp only [Act.put, List.setIfInBounds_toArray, List.set_cons_succ, List.set_cons_zero]
  first | go_big_quiet_step (fail) | quiet_step (fail)
  first | go_big_quiet_step (fail) | quiet_step (fail)
  first | go_big_quiet_step (fail) | quiet_step (fail)
  first | go_big_quiet_step (fail) | quiet_step (fail)
  first | go_big_quiet_step (fail) | quiet_step (fail)
  first | go_big_quiet_step (fail) | quiet_step (fail)
  first | go_big_quiet_step (fail) | quiet_step (fail)
  first | go_big_quiet_step (fail) | quiet_step (fail)
  first | go_big_quiet_step (fail) | quiet_step (fail)
  refine QuietCalls.call1 rfl rfl Try.call25 (fun w k => HE.out w k) rfl ?_; simp only [Act.put, List.setIfInBounds_toArray, List.set_cons_succ, List.set_cons_zero]
  first | go_big_quiet_step (fail) | quiet_step (fail)
  first | go_big_quiet_step (fail) | quiet_step (fail)
  first | go_big_quiet_step (fail) | quiet_step (fail)
  first | go_big_quiet_step (fail) | quiet_step (fail)
  refine wpQuiet_nil ?_
  intro w4 k4
  have HA : Hid (w4.heap[w.heap.size]? = some (.cells #[.int .u64 a.c, .int .i64 a.k] 24 (0, 0)) ∧ Below w.heap.size w w4) := ⟨kept_block HR.out.ha k4, HR.out.below.trans (k4.mono HR.out.below.size)⟩
  clear k4 HR HE c0 c1 c2
  obtain ⟨x0, x1, _, _⟩ := cells2 HA.out.1
  by_cases hok : a.Ok
  · rw [Tm.chk_ok hok] at HC
    have ho := hok
    unfold Tm.Ok at ho
    obtain ⟨c, k⟩ := a
    dsimp only at ho
    obtain ⟨c, rfl⟩ : ∃ c' : Nat, c = c' := ⟨c.toNat, by omega⟩
    obtain ⟨k, rfl⟩ : ∃ k' : Nat, k = k' := ⟨k.toNat, by omega⟩
    dsimp only at *
    have HP : Hid (∀ (b : Nat) (w : World), Wr 77 b b [] w → b ≤ w.heap.size → Calls Try.prog 27 #[.pointer (some ⟨b, 0, none⟩), .agg #[.int .u64 c, .int .i64 k]] w fun e w' => e = .returned (.tuple #[]) ∧ Wr 77 b b (num 16 c ++ num 2 k) w' ∧ Below b w w') := fun b w h hb =>
      (put_any b (.pointer (some ⟨b, 0, none⟩)) [] c k w (.inr ⟨b, rfl, h⟩) (.inr (by decide)) hb (by omega) (by omega)).mono fun e w' ⟨he, h, hw⟩ => ⟨he, by
        rcases h with h | ⟨b', h, hr⟩
        · cases h
        · obtain rfl : b = b' := by simpa using h
          exact hr, hw.below⟩
    have HBy : Hid (∀ w, Calls Try.prog 29 #[.agg #[.int .u64 c, .int .i64 k]] w fun e w' => e = .returned (.string (numB 16 c ++ numB 2 k)) ∧ Below w.heap.size w w') := fun w => rbytesOf_any c k w (by omega) (by omega)
    have ex : (⟨(num 16 c ++ num 2 k).toArray⟩ : ByteArray) = numB 16 c ++ numB 2 k := by apply ext_list; simp [numB_list]
    have HAl : Hid (∀ (B b : Nat) (w : World), B ≤ w.heap.size → Wt 77 B b (num 16 c ++ num 2 k) w → Calls Try.prog 28 #[.pointer (some ⟨b, 0, none⟩)] w fun e w' => e = .returned (.string (numB 16 c ++ numB 2 k)) ∧ Wt 77 B b (num 16 c ++ num 2 k) w' ∧ Wrote B (.pointer none) w w') := fun B b w hB h => by
      have := all_told B b _ w hB h
      rwa [ex] at this
    have hX : (numB 16 c ++ numB 2 k).size = 18 := by rw [ByteArray.size_append, numB_size, numB_size]
    have HTk : Hid (∀ (b : Nat) (w : World), Rd 67 b ⟨numB 16 c ++ numB 2 k, 0, 0⟩ w → Calls Try.prog 23 #[.pointer (some ⟨b, 0, none⟩)] w fun e w' => e = .returned (.agg #[.int .u64 c, .int .i64 k]) ∧ Rd 67 b ⟨numB 16 c ++ numB 2 k, 18, 0⟩ w' ∧ Kept b w w') := fun b w h => by
      have := take_any b ⟨numB 16 c ++ numB 2 k, 0, 0⟩ w h (Nat.zero_le _) (by show (numB 16 c ++ numB 2 k).size ≤ maxLen; rw [hX]; unfold maxLen; omega)
      rw [stamp_at (q := ⟨numB 16 c ++ numB 2 k, 0, 0⟩) (A := ⟨#[]⟩) (C := ⟨#[]⟩) c k hok (by rw [nil_app, app_nil]) rfl rfl] at this
      exact this
    have HEn : Hid (∀ (b : Nat) (w : World), Rd 67 b ⟨numB 16 c ++ numB 2 k, 18, 0⟩ w → Calls Try.prog 30 #[.pointer (some ⟨b, 0, none⟩)] w fun e w' => e = .returned (.int .i64 0) ∧ Kept b w w') := fun b w h => by
      have := end_any b ⟨numB 16 c ++ numB 2 k, 18, 0⟩ w h (by show 18 ≤ (numB 16 c ++ numB 2 k).size; rw [hX]; exact Nat.le_refl _) (by show (numB 16 c ++ numB 2 k).size ≤ maxLen; rw [hX]; unfold maxLen; omega)
      rw [St.fin_end _ (by show ¬ (0 < (((numB 16 c ++ numB 2 k).size : Nat) : Int) - ((18 : Nat) : Int)); rw [hX]; omega)] at this
      exact this.mono fun e w' ⟨h1, _, h3⟩ => ⟨h1, h3⟩
    clear ex hX hok ho
    generalize numB 16 c ++ numB 2 k = X at HBy HAl HTk HEn
    generalize num 16 c ++ num 2 k = l at HP HAl
    go_wp2_with (first
      | (go_at_call 10; refine (HK.out _).mono ?_; rintro e w5 ⟨rfl, k5⟩; replace HA : Hid (w5.heap[w.heap.size]? = some (.cells #[.int .u64 c, .int .i64 k] 24 (0, 0)) ∧ Below w.heap.size w w5) := ⟨kept_block HA.out.1 k5, HA.out.2.trans (k5.mono HA.out.2.size)⟩; clear k5)
      | (go_at_call 15; refine (HC.out _).mono ?_; rintro e w6 ⟨rfl, k6⟩; replace HA : Hid (w6.heap[w.heap.size]? = some (.cells #[.int .u64 c, .int .i64 k] 24 (0, 0)) ∧ Below w.heap.size w w6) := ⟨kept_block HA.out.1 k6, HA.out.2.trans (k6.mono HA.out.2.size)⟩; clear k6)
      | (go_at_call 26; refine (newWriter_any _).mono ?_; rintro e w7 ⟨rfl, h7, k7⟩; have HA7 : Hid (w7.heap[w.heap.size]? = some (.cells #[.int .u64 c, .int .i64 k] 24 (0, 0)) ∧ Below w.heap.size w w7) := ⟨kept_block HA.out.1 k7, HA.out.2.trans (k7.mono HA.out.2.size)⟩; have hsz : w.heap.size < w6.heap.size := row_lt HA.out.1; have hs7 := k7.size; clear k7 x0 x1; obtain ⟨x0, x1, _, _⟩ := cells2 HA7.out.1)
      | (go_at_call 27; refine (HP.out _ _ h7 hs7).mono ?_; rintro e w8 ⟨rfl, h8, k8⟩)
      | (go_at_call 28; refine (HAl.out w6.heap.size _ _ (Nat.le_trans hs7 k8.size) h8.told).mono ?_; rintro e w9 ⟨rfl, h9, k9⟩)
      | (go_at_call 22; refine (newReader_any X _).mono ?_; rintro e w10 ⟨rfl, h10, k10⟩))
    have I : Hid (Last 77 24 67 w6.heap.size w.heap.size w6.heap.size w9.heap.size l ⟨c, k⟩ ⟨X, 0, 0⟩ w w10 ∧ w.heap.size ≠ w9.heap.size ∧ w.heap.size ≤ w9.heap.size) := by
      have z8 := k8.size
      have z9 := k9.below.size
      have a8 : w8.heap[w.heap.size]? = some (.cells #[.int .u64 c, .int .i64 k] 24 (0, 0)) := (k8.block _ hsz).trans HA7.out.1
      have a9 := k9.row (k := w.heap.size) (by intro e; cases e) (by decide) a8
      exact ⟨⟨kept_block a9 k10, h9.below k10, h10, Nat.le_trans (by omega) k10.size, ((HA7.out.2.trans (k8.mono (by omega))).trans (k9.below.mono (by omega))).trans (k10.mono (by omega))⟩, by omega, by omega⟩
    have hne := I.out.2.1
    have hle := I.out.2.2
    have hB : w.heap.size ≤ w6.heap.size := Nat.le_of_lt hsz
    have I : Hid (Last 77 24 67 w6.heap.size w.heap.size w6.heap.size w9.heap.size l ⟨c, k⟩ ⟨X, 0, 0⟩ w w10) := I.out.1
    clear h7 h8 k8 h9 k9 h10 k10 x0 x1 HA HA7 HP HC hs7 hsz
    generalize w9.heap.size = r at I hne hle ⊢
    generalize w6.heap.size = b at I hB ⊢
    obtain ⟨x0, x1, _, _⟩ := cells2 I.out.ha
    replace I := Last.drew I
    go_region_with (first
      | (go_at_call 28; refine (HAl.out b _ _ I.out.hB I.out.hw).mono ?_; rintro e w11 ⟨rfl, h, k⟩; replace I := Last.told I (by decide) (by decide) hB h k; clear h k; obtain ⟨x0, x1, _, _⟩ := cells2 I.out.ha)
      | (go_at_call 10; refine (HK.out _).mono ?_; rintro e w12 ⟨rfl, k⟩; replace I := Last.step I k; clear k; obtain ⟨x0, x1, _, _⟩ := cells2 I.out.ha)
      | (go_at_call 29; refine (HBy.out _).mono ?_; rintro e w13 ⟨rfl, k⟩; replace I := Last.step I k; clear k; obtain ⟨x0, x1, _, _⟩ := cells2 I.out.ha)
      | (go_at_call 23; refine (HTk.out _ _ I.out.hq).mono ?_; rintro e w14 ⟨rfl, h, k⟩; have J := Last.took I hne hle h k; clear h k; obtain ⟨x0, x1, _, _⟩ := cells2 J.out.ha)
      | (go_at_call 30; refine (HEn.out _ _ J.out.hq).mono ?_; rintro e w15 ⟨rfl, k15⟩))
    all_goals (go_wp2; go_ret; exact ⟨rfl, J.out.below.trans (k15.below.mono hle)⟩)
  · rw [Tm.chk_no hok] at HC
    clear hok
    go_wp2_with (first
      | (go_at_call 10; refine (HK.out _).mono ?_; rintro e w5 ⟨rfl, k5⟩)
      | (go_at_call 15; refine (HC.out _).mono ?_; rintro e w6 ⟨rfl, k6⟩))
    go_ret
    exact ⟨rfl, (HA.out.2.trans (k5.mono HA.out.2.size)).trans (k6.mono (Nat.le_trans HA.out.2.size k5.size))⟩
end Go.Proofs.Ytglacfbhfhlbcaa
