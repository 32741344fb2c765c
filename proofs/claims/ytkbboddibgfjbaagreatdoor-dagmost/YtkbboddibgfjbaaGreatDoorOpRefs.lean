/- Several texts in one: OpRef, OpRefBytes, OpHash. -/
import Derived.Test.YtkbboddibgfjbaaGreatDoorOpOne
import Derived.Test.YtkbboddibgfjbaaGreatDoorPureSha
import Derived.Test.YtkbboddibgfjbaaGreatDoorStampAll
import Derived.Test.YtkbboddibgfjbaaGreatDoorWireOut
import Derived.Test.YtkbboddibgfjbaaGreatDoorShaThree
/- Contract: an operation as the document has it. -/
namespace Go.Proofs.YtkbboddibgfjbaaGreatDoor
open Go.RowKit Go.Wire Go.Stamp Go.Opn Go.Sort
theorem below_setRow {B : Nat} {w w1 : World} (h : Below B w w1) {g : Nat} (hg : B ≤ g) (cs : Array Value) : Below B w (w1.setRow g cs) :=
  h.trans ⟨rfl, rfl, rfl, by simp, fun k hk => setRow_other _ _ _ _ (by omega)⟩
end Go.Proofs.YtkbboddibgfjbaaGreatDoor
/- Contract: an operation's bytes, the document's. -/
namespace Go.Proofs.YtkbboddibgfjbaaGreatDoor
open Go.RowKit Go.Wire Go.Stamp Go.Opn
set_option maxRecDepth 100000 in
set_option maxHeartbeats 2000000 in
theorem rbytesOp_any (o : Ob) (w : World) (hok : o.tm.Ok) (hg : o.Good) :
    Calls Tryz.prog 43 #[o.v] w fun e w' => e = .returned (.string o.bytesB) ∧ Below w.heap.size w w' := by
  obtain ⟨i1, i2, i3, i4, i5, i6⟩ := Ob.good_is hg
  clear hg
  unfold Tm.Ok at hok
  obtain ⟨kd, ⟨c, k⟩, th, p, n, d, g, z⟩ := o
  dsimp only at hok i1 i2 i3 i4 i5 i6
  obtain ⟨c, rfl⟩ : ∃ c' : Nat, c = c' := ⟨c.toNat, by omega⟩
  obtain ⟨k, rfl⟩ : ∃ k' : Nat, k = k' := ⟨k.toNat, by omega⟩
  obtain ⟨th, rfl⟩ : ∃ t' : Nat, th = t' := ⟨th.toNat, by omega⟩
  obtain ⟨p, rfl⟩ : ∃ t' : Nat, p = t' := ⟨p.toNat, by omega⟩
  obtain ⟨z, rfl⟩ : ∃ t' : Nat, z = t' := ⟨z.toNat, by omega⟩
  have HT : Hid (∀ w, Calls Tryz.prog 70 #[.agg #[.int .u64 c, .int .i64 k]] w fun e w' => e = .returned (.string (numB 16 c ++ numB 2 k)) ∧ Below w.heap.size w w') := fun w => rbytesOf_any c k w (by omega) (by omega)
  have HTh : Hid (∀ w, Calls Tryz.prog 42 #[.int .u64 th, .int .i64 8] w fun e w' => e = .returned (.string (numB 16 th)) ∧ Below w.heap.size w w') := fun w => rnum_any th 8 w (by omega) (by decide)
  have HP : Hid (∀ w, Calls Tryz.prog 42 #[.int .u64 p, .int .i64 8] w fun e w' => e = .returned (.string (numB 16 p)) ∧ Below w.heap.size w w') := fun w => rnum_any p 8 w (by omega) (by decide)
  have HX : Hid (∀ w, Calls Tryz.prog 71 #[.string n] w fun e w' => e = .returned (.string (textB n)) ∧ Below w.heap.size w w') := fun w => rtextB_any n w (by omega)
  have HD : Hid (∀ w, Calls Tryz.prog 72 #[.bool d] w fun e w' => e = .returned (.string ⟨#[letter d]⟩) ∧ Below w.heap.size w w') := fun w => (rboolB_any d w).mono fun e w' ⟨h, k⟩ => ⟨h, by rw [k]; exact Below.refl _ _⟩
  have HZ : Hid (∀ w, Calls Tryz.prog 42 #[.int .u64 z, .int .i64 4] w fun e w' => e = .returned (.string (numB 8 z)) ∧ Below w.heap.size w w') := fun w => rnum_any z 4 w (by omega) (by decide)
  have HH : Hid (∀ w, Calls Tryz.prog 73 #[.string g] w fun e w' => e = .returned (.string ⟨(pad g.data.toList).toArray⟩) ∧ Below w.heap.size w w') := fun w => (rhash_any g w (by omega)).mono fun e w' ⟨h, k⟩ => ⟨h, by rw [k]; exact Below.refl _ _⟩
  have ez : IntKind.u64.wrap (z : Int) = z := by rw [Wire.wrap_u64]; omega
  have s1 : (numB 16 c ++ numB 2 k).size = 18 := by rw [ByteArray.size_append, numB_size, numB_size]
  have s2 := numB_size 16 th
  have s3 := numB_size 16 p
  have s4 : (textB n).size ≤ 40 := by rw [textB_size]; omega
  have s5 : (⟨#[letter d]⟩ : ByteArray).size = 1 := rfl
  have s6 := numB_size 8 z
  have s7 : (⟨(pad g.data.toList).toArray⟩ : ByteArray).size = 32 := by rw [size_list]; simp [pad_length]
  clear hok i1 i2 i4
  rcases i6 with ⟨rfl, hd, hz0⟩ | ⟨rfl, hd, hz0, hdir⟩ | ⟨rfl, hp0, hn0, hd, hz0, hdir⟩ | ⟨rfl, hp0, hn0, hdir, hdg⟩
  · have eb : (Ob.mk 1 ⟨c, k⟩ th p n d g z).bytesB = numB 2 1 ++ (numB 16 c ++ numB 2 k) ++ numB 16 th ++ ⟨#[letter d]⟩ ++ (numB 16 p ++ textB n) := by
      unfold Ob.bytesB Ob.bytes Ob.head Ob.spot
      rw [if_pos rfl]
      apply ext_list
      simp only [app_list, numB_list, textB]
      simp
    rw [eb]
    clear eb hd hz0
    have HK : Hid (∀ w, Calls Tryz.prog 42 #[.int .u64 1, .int .i64 1] w fun e w' => e = .returned (.string (numB 2 1)) ∧ Below w.heap.size w w') := fun w => rnum_any 1 1 w (by decide) (by decide)
    have s0 := numB_size 2 1
    generalize numB 2 1 = x0 at HK s0 ⊢
    generalize numB 16 c ++ numB 2 k = x1 at HT s1 ⊢
    generalize numB 16 th = x2 at HTh s2 ⊢
    generalize numB 16 p = x3 at HP s3 ⊢
    generalize textB n = x4 at HX s4 ⊢
    generalize (⟨#[letter d]⟩ : ByteArray) = x5 at HD s5 ⊢
    generalize numB 8 z = x6 at HZ s6 ⊢
    generalize (⟨(pad g.data.toList).toArray⟩ : ByteArray) = x7 at HH s7 ⊢
    unfold Ob.v
    dsimp only
    go_enter Tryz.func43, Tryz.ntmps43
    go_wp2_with fail
    obtain ⟨W, hW⟩ : ∃ W, W = w.alloc (.cells (Ob.mk 1 ⟨c, k⟩ th p n d g z).cs 49) := ⟨_, rfl⟩
    rw [← hW]
    have HW : Hid (W.heap[w.heap.size]? = some (.cells (Ob.mk 1 ⟨c, k⟩ th p n d g z).cs 49 (0, 0)) ∧ Below w.heap.size w W) := by rw [hW]; exact ⟨heap_alloc_new _ _, (Below.refl _ _).alloc (Nat.le_refl _) _⟩
    clear hW
    have c0 := cell_regrown (cells9 HW.out.1).1
    have c3 := cell_regrown (cells9 HW.out.1).2.2.2.1
    refine QuietCalls.region (by kernel_rfl) (by kernel_rfl) ?_
    first | go_big_quiet_step (fail) | quiet_step (fail)
    first | go_big_quiet_step (fail) | quiet_step (fail)
    first | go_big_quiet_step (fail) | quiet_step (fail)
    refine QuietCalls.call2 rfl rfl Tryz.call42 (fun w _ => HK.out w) rfl rfl ?_; simp only [Act.put, List.setIfInBounds_toArray, List.set_cons_succ, List.set_cons_zero]
    first | go_big_quiet_step (fail) | quiet_step (fail)
    refine QuietCalls.loadMid rfl 47 _ rfl _ _ rfl [.int .u64 c, .int .i64 k] _ (fun w k => range_tm (kept_block HW.out.1 k)) Tryz.underlying47 rfl info27 ?_; simp only [Act.put, List.setIfInBounds_toArray, List.set_cons_succ, List.set_cons_zero]
    refine QuietCalls.call1 rfl rfl Tryz.call70 (fun w _ => HT.out w) rfl ?_; simp only [Act.put, List.setIfInBounds_toArray, List.set_cons_succ, List.set_cons_zero]
    first | go_big_quiet_step (fail) | quiet_step (fail)
    first | go_big_quiet_step (fail) | quiet_step (fail)
    first | go_big_quiet_step (fail) | quiet_step (fail)
    refine QuietCalls.call2 rfl rfl Tryz.call42 (fun w _ => HTh.out w) rfl rfl ?_; simp only [Act.put, List.setIfInBounds_toArray, List.set_cons_succ, List.set_cons_zero]
    first | go_big_quiet_step (fail) | quiet_step (fail)
    first | go_big_quiet_step (fail) | quiet_step (fail)
    refine wpQuiet_nil ?_
    intro w1 k1
    replace HW : Hid (w1.heap[w.heap.size]? = some (.cells (Ob.mk 1 ⟨c, k⟩ th p n d g z).cs 49 (0, 0)) ∧ Below w.heap.size w w1) := ⟨kept_block HW.out.1 k1, HW.out.2.trans (k1.mono HW.out.2.size)⟩
    clear k1 c0 c3
    go_wp2_with fail
    have c4 := cell_regrown (cells9 HW.out.1).2.2.2.2.1
    have c5 := cell_regrown (cells9 HW.out.1).2.2.2.2.2.1
    refine QuietCalls.region (by kernel_rfl) (by kernel_rfl) ?_
    first | go_big_quiet_step (fail) | quiet_step (fail)
    first | go_big_quiet_step (fail) | quiet_step (fail)
    refine QuietCalls.call2 rfl rfl Tryz.call42 (fun w _ => HP.out w) rfl rfl ?_; simp only [Act.put, List.setIfInBounds_toArray, List.set_cons_succ, List.set_cons_zero]
    first | go_big_quiet_step (fail) | quiet_step (fail)
    first | go_big_quiet_step (fail) | quiet_step (fail)
    refine QuietCalls.call1 rfl rfl Tryz.call71 (fun w _ => HX.out w) rfl ?_; simp only [Act.put, List.setIfInBounds_toArray, List.set_cons_succ, List.set_cons_zero]
    first | go_big_quiet_step (fail) | quiet_step (fail)
    first | go_big_quiet_step (fail) | quiet_step (fail)
    refine wpQuiet_nil ?_
    intro w2 k2
    replace HW : Hid (w2.heap[w.heap.size]? = some (.cells (Ob.mk 1 ⟨c, k⟩ th p n d g z).cs 49 (0, 0)) ∧ Below w.heap.size w w2) := ⟨kept_block HW.out.1 k2, HW.out.2.trans (k2.mono HW.out.2.size)⟩
    clear k2 c4 c5
    obtain ⟨c0, c1, c2, c3, c4, c5, c6, c7, c8⟩ := cells9 HW.out.1
    go_wp2_with (go_at_call 72; refine (HD.out _).mono ?_; rintro e w3 ⟨rfl, k3⟩)
    go_ret
    exact ⟨rfl, HW.out.2.trans (k3.mono HW.out.2.size)⟩
  · have eb : (Ob.mk 2 ⟨c, k⟩ th p n d g z).bytesB = numB 2 2 ++ (numB 16 c ++ numB 2 k) ++ numB 16 th ++ (numB 16 p ++ textB n) := by
      unfold Ob.bytesB Ob.bytes Ob.head Ob.spot
      rw [if_neg (show ¬ ((2 : Int) = 1) by decide), if_pos rfl]
      apply ext_list
      simp only [app_list, numB_list, textB]
      simp
    rw [eb]
    clear eb hd hz0 hdir
    have HK : Hid (∀ w, Calls Tryz.prog 42 #[.int .u64 2, .int .i64 1] w fun e w' => e = .returned (.string (numB 2 2)) ∧ Below w.heap.size w w') := fun w => rnum_any 2 1 w (by decide) (by decide)
    have s0 := numB_size 2 2
    generalize numB 2 2 = x0 at HK s0 ⊢
    generalize numB 16 c ++ numB 2 k = x1 at HT s1 ⊢
    generalize numB 16 th = x2 at HTh s2 ⊢
    generalize numB 16 p = x3 at HP s3 ⊢
    generalize textB n = x4 at HX s4 ⊢
    generalize (⟨#[letter d]⟩ : ByteArray) = x5 at HD s5 ⊢
    generalize numB 8 z = x6 at HZ s6 ⊢
    generalize (⟨(pad g.data.toList).toArray⟩ : ByteArray) = x7 at HH s7 ⊢
    unfold Ob.v
    dsimp only
    go_enter Tryz.func43, Tryz.ntmps43
    go_wp2_with fail
    obtain ⟨W, hW⟩ : ∃ W, W = w.alloc (.cells (Ob.mk 2 ⟨c, k⟩ th p n d g z).cs 49) := ⟨_, rfl⟩
    rw [← hW]
    have HW : Hid (W.heap[w.heap.size]? = some (.cells (Ob.mk 2 ⟨c, k⟩ th p n d g z).cs 49 (0, 0)) ∧ Below w.heap.size w W) := by rw [hW]; exact ⟨heap_alloc_new _ _, (Below.refl _ _).alloc (Nat.le_refl _) _⟩
    clear hW
    have c0 := cell_regrown (cells9 HW.out.1).1
    have c3 := cell_regrown (cells9 HW.out.1).2.2.2.1
    refine QuietCalls.region (by kernel_rfl) (by kernel_rfl) ?_
    first | go_big_quiet_step (fail) | quiet_step (fail)
    first | go_big_quiet_step (fail) | quiet_step (fail)
    first | go_big_quiet_step (fail) | quiet_step (fail)
    refine QuietCalls.call2 rfl rfl Tryz.call42 (fun w _ => HK.out w) rfl rfl ?_; simp only [Act.put, List.setIfInBounds_toArray, List.set_cons_succ, List.set_cons_zero]
    first | go_big_quiet_step (fail) | quiet_step (fail)
    refine QuietCalls.loadMid rfl 47 _ rfl _ _ rfl [.int .u64 c, .int .i64 k] _ (fun w k => range_tm (kept_block HW.out.1 k)) Tryz.underlying47 rfl info27 ?_; simp only [Act.put, List.setIfInBounds_toArray, List.set_cons_succ, List.set_cons_zero]
    refine QuietCalls.call1 rfl rfl Tryz.call70 (fun w _ => HT.out w) rfl ?_; simp only [Act.put, List.setIfInBounds_toArray, List.set_cons_succ, List.set_cons_zero]
    first | go_big_quiet_step (fail) | quiet_step (fail)
    first | go_big_quiet_step (fail) | quiet_step (fail)
    first | go_big_quiet_step (fail) | quiet_step (fail)
    refine QuietCalls.call2 rfl rfl Tryz.call42 (fun w _ => HTh.out w) rfl rfl ?_; simp only [Act.put, List.setIfInBounds_toArray, List.set_cons_succ, List.set_cons_zero]
    first | go_big_quiet_step (fail) | quiet_step (fail)
    first | go_big_quiet_step (fail) | quiet_step (fail)
    refine wpQuiet_nil ?_
    intro w1 k1
    replace HW : Hid (w1.heap[w.heap.size]? = some (.cells (Ob.mk 2 ⟨c, k⟩ th p n d g z).cs 49 (0, 0)) ∧ Below w.heap.size w w1) := ⟨kept_block HW.out.1 k1, HW.out.2.trans (k1.mono HW.out.2.size)⟩
    clear k1 c0 c3
    go_wp2_with fail
    have c4 := cell_regrown (cells9 HW.out.1).2.2.2.2.1
    have c5 := cell_regrown (cells9 HW.out.1).2.2.2.2.2.1
    refine QuietCalls.region (by kernel_rfl) (by kernel_rfl) ?_
    first | go_big_quiet_step (fail) | quiet_step (fail)
    first | go_big_quiet_step (fail) | quiet_step (fail)
    refine QuietCalls.call2 rfl rfl Tryz.call42 (fun w _ => HP.out w) rfl rfl ?_; simp only [Act.put, List.setIfInBounds_toArray, List.set_cons_succ, List.set_cons_zero]
    first | go_big_quiet_step (fail) | quiet_step (fail)
    first | go_big_quiet_step (fail) | quiet_step (fail)
    refine QuietCalls.call1 rfl rfl Tryz.call71 (fun w _ => HX.out w) rfl ?_; simp only [Act.put, List.setIfInBounds_toArray, List.set_cons_succ, List.set_cons_zero]
    first | go_big_quiet_step (fail) | quiet_step (fail)
    first | go_big_quiet_step (fail) | quiet_step (fail)
    refine wpQuiet_nil ?_
    intro w2 k2
    replace HW : Hid (w2.heap[w.heap.size]? = some (.cells (Ob.mk 2 ⟨c, k⟩ th p n d g z).cs 49 (0, 0)) ∧ Below w.heap.size w w2) := ⟨kept_block HW.out.1 k2, HW.out.2.trans (k2.mono HW.out.2.size)⟩
    clear k2 c4 c5
    obtain ⟨c0, c1, c2, c3, c4, c5, c6, c7, c8⟩ := cells9 HW.out.1
    go_wp2_with fail
    go_ret
    exact ⟨rfl, HW.out.2⟩
  · have eb : (Ob.mk 3 ⟨c, k⟩ th p n d g z).bytesB = numB 2 3 ++ (numB 16 c ++ numB 2 k) ++ numB 16 th := by
      unfold Ob.bytesB Ob.bytes Ob.head Ob.spot
      rw [if_neg (show ¬ ((3 : Int) = 1) by decide), if_neg (show ¬ ((3 : Int) = 2) by decide), if_neg (show ¬ ((3 : Int) = 4) by decide)]
      apply ext_list
      simp only [app_list, numB_list]
      simp
    rw [eb]
    clear eb hd hz0 hdir hn0 hp0
    have HK : Hid (∀ w, Calls Tryz.prog 42 #[.int .u64 3, .int .i64 1] w fun e w' => e = .returned (.string (numB 2 3)) ∧ Below w.heap.size w w') := fun w => rnum_any 3 1 w (by decide) (by decide)
    have s0 := numB_size 2 3
    generalize numB 2 3 = x0 at HK s0 ⊢
    generalize numB 16 c ++ numB 2 k = x1 at HT s1 ⊢
    generalize numB 16 th = x2 at HTh s2 ⊢
    generalize numB 16 p = x3 at HP s3 ⊢
    generalize textB n = x4 at HX s4 ⊢
    generalize (⟨#[letter d]⟩ : ByteArray) = x5 at HD s5 ⊢
    generalize numB 8 z = x6 at HZ s6 ⊢
    generalize (⟨(pad g.data.toList).toArray⟩ : ByteArray) = x7 at HH s7 ⊢
    unfold Ob.v
    dsimp only
    go_enter Tryz.func43, Tryz.ntmps43
    go_wp2_with fail
    obtain ⟨W, hW⟩ : ∃ W, W = w.alloc (.cells (Ob.mk 3 ⟨c, k⟩ th p n d g z).cs 49) := ⟨_, rfl⟩
    rw [← hW]
    have HW : Hid (W.heap[w.heap.size]? = some (.cells (Ob.mk 3 ⟨c, k⟩ th p n d g z).cs 49 (0, 0)) ∧ Below w.heap.size w W) := by rw [hW]; exact ⟨heap_alloc_new _ _, (Below.refl _ _).alloc (Nat.le_refl _) _⟩
    clear hW
    have c0 := cell_regrown (cells9 HW.out.1).1
    have c3 := cell_regrown (cells9 HW.out.1).2.2.2.1
    refine QuietCalls.region (by kernel_rfl) (by kernel_rfl) ?_
    first | go_big_quiet_step (fail) | quiet_step (fail)
    first | go_big_quiet_step (fail) | quiet_step (fail)
    first | go_big_quiet_step (fail) | quiet_step (fail)
    refine QuietCalls.call2 rfl rfl Tryz.call42 (fun w _ => HK.out w) rfl rfl ?_; simp only [Act.put, List.setIfInBounds_toArray, List.set_cons_succ, List.set_cons_zero]
    first | go_big_quiet_step (fail) | quiet_step (fail)
    refine QuietCalls.loadMid rfl 47 _ rfl _ _ rfl [.int .u64 c, .int .i64 k] _ (fun w k => range_tm (kept_block HW.out.1 k)) Tryz.underlying47 rfl info27 ?_; simp only [Act.put, List.setIfInBounds_toArray, List.set_cons_succ, List.set_cons_zero]
    refine QuietCalls.call1 rfl rfl Tryz.call70 (fun w _ => HT.out w) rfl ?_; simp only [Act.put, List.setIfInBounds_toArray, List.set_cons_succ, List.set_cons_zero]
    first | go_big_quiet_step (fail) | quiet_step (fail)
    first | go_big_quiet_step (fail) | quiet_step (fail)
    first | go_big_quiet_step (fail) | quiet_step (fail)
    refine QuietCalls.call2 rfl rfl Tryz.call42 (fun w _ => HTh.out w) rfl rfl ?_; simp only [Act.put, List.setIfInBounds_toArray, List.set_cons_succ, List.set_cons_zero]
    first | go_big_quiet_step (fail) | quiet_step (fail)
    first | go_big_quiet_step (fail) | quiet_step (fail)
    refine wpQuiet_nil ?_
    intro w1 k1
    replace HW : Hid (w1.heap[w.heap.size]? = some (.cells (Ob.mk 3 ⟨c, k⟩ th p n d g z).cs 49 (0, 0)) ∧ Below w.heap.size w w1) := ⟨kept_block HW.out.1 k1, HW.out.2.trans (k1.mono HW.out.2.size)⟩
    clear k1 c0 c3
    go_wp2_with fail
    have c4 := cell_regrown (cells9 HW.out.1).2.2.2.2.1
    have c5 := cell_regrown (cells9 HW.out.1).2.2.2.2.2.1
    refine QuietCalls.region (by kernel_rfl) (by kernel_rfl) ?_
    first | go_big_quiet_step (fail) | quiet_step (fail)
    first | go_big_quiet_step (fail) | quiet_step (fail)
    refine QuietCalls.call2 rfl rfl Tryz.call42 (fun w _ => HP.out w) rfl rfl ?_; simp only [Act.put, List.setIfInBounds_toArray, List.set_cons_succ, List.set_cons_zero]
    first | go_big_quiet_step (fail) | quiet_step (fail)
    first | go_big_quiet_step (fail) | quiet_step (fail)
    refine QuietCalls.call1 rfl rfl Tryz.call71 (fun w _ => HX.out w) rfl ?_; simp only [Act.put, List.setIfInBounds_toArray, List.set_cons_succ, List.set_cons_zero]
    first | go_big_quiet_step (fail) | quiet_step (fail)
    first | go_big_quiet_step (fail) | quiet_step (fail)
    refine wpQuiet_nil ?_
    intro w2 k2
    replace HW : Hid (w2.heap[w.heap.size]? = some (.cells (Ob.mk 3 ⟨c, k⟩ th p n d g z).cs 49 (0, 0)) ∧ Below w.heap.size w w2) := ⟨kept_block HW.out.1 k2, HW.out.2.trans (k2.mono HW.out.2.size)⟩
    clear k2 c4 c5
    obtain ⟨c0, c1, c2, c3, c4, c5, c6, c7, c8⟩ := cells9 HW.out.1
    go_wp2_with fail
    go_ret
    exact ⟨rfl, HW.out.2⟩
  · have eb : (Ob.mk 4 ⟨c, k⟩ th p n d g z).bytesB = numB 2 4 ++ (numB 16 c ++ numB 2 k) ++ numB 16 th ++ ⟨(pad g.data.toList).toArray⟩ ++ numB 8 z := by
      unfold Ob.bytesB Ob.bytes Ob.head Ob.spot
      rw [if_neg (show ¬ ((4 : Int) = 1) by decide), if_neg (show ¬ ((4 : Int) = 2) by decide), if_pos rfl]
      apply ext_list
      simp only [app_list, numB_list, pad_full g hdg]
      simp
    rw [eb]
    clear eb hdir hn0 hp0 hdg
    have HK : Hid (∀ w, Calls Tryz.prog 42 #[.int .u64 4, .int .i64 1] w fun e w' => e = .returned (.string (numB 2 4)) ∧ Below w.heap.size w w') := fun w => rnum_any 4 1 w (by decide) (by decide)
    have s0 := numB_size 2 4
    generalize numB 2 4 = x0 at HK s0 ⊢
    generalize numB 16 c ++ numB 2 k = x1 at HT s1 ⊢
    generalize numB 16 th = x2 at HTh s2 ⊢
    generalize numB 16 p = x3 at HP s3 ⊢
    generalize textB n = x4 at HX s4 ⊢
    generalize (⟨#[letter d]⟩ : ByteArray) = x5 at HD s5 ⊢
    generalize numB 8 z = x6 at HZ s6 ⊢
    generalize (⟨(pad g.data.toList).toArray⟩ : ByteArray) = x7 at HH s7 ⊢
    unfold Ob.v
    dsimp only
    go_enter Tryz.func43, Tryz.ntmps43
    go_wp2_with fail
    obtain ⟨W, hW⟩ : ∃ W, W = w.alloc (.cells (Ob.mk 4 ⟨c, k⟩ th p n d g z).cs 49) := ⟨_, rfl⟩
    rw [← hW]
    have HW : Hid (W.heap[w.heap.size]? = some (.cells (Ob.mk 4 ⟨c, k⟩ th p n d g z).cs 49 (0, 0)) ∧ Below w.heap.size w W) := by rw [hW]; exact ⟨heap_alloc_new _ _, (Below.refl _ _).alloc (Nat.le_refl _) _⟩
    clear hW
    have c0 := cell_regrown (cells9 HW.out.1).1
    have c3 := cell_regrown (cells9 HW.out.1).2.2.2.1
    refine QuietCalls.region (by kernel_rfl) (by kernel_rfl) ?_
    first | go_big_quiet_step (fail) | quiet_step (fail)
    first | go_big_quiet_step (fail) | quiet_step (fail)
    first | go_big_quiet_step (fail) | quiet_step (fail)
    refine QuietCalls.call2 rfl rfl Tryz.call42 (fun w _ => HK.out w) rfl rfl ?_; simp only [Act.put, List.setIfInBounds_toArray, List.set_cons_succ, List.set_cons_zero]
    first | go_big_quiet_step (fail) | quiet_step (fail)
    refine QuietCalls.loadMid rfl 47 _ rfl _ _ rfl [.int .u64 c, .int .i64 k] _ (fun w k => range_tm (kept_block HW.out.1 k)) Tryz.underlying47 rfl info27 ?_; simp only [Act.put, List.setIfInBounds_toArray, List.set_cons_succ, List.set_cons_zero]
    refine QuietCalls.call1 rfl rfl Tryz.call70 (fun w _ => HT.out w) rfl ?_; simp only [Act.put, List.setIfInBounds_toArray, List.set_cons_succ, List.set_cons_zero]
    first | go_big_quiet_step (fail) | quiet_step (fail)
    first | go_big_quiet_step (fail) | quiet_step (fail)
    first | go_big_quiet_step (fail) | quiet_step (fail)
    refine QuietCalls.call2 rfl rfl Tryz.call42 (fun w _ => HTh.out w) rfl rfl ?_; simp only [Act.put, List.setIfInBounds_toArray, List.set_cons_succ, List.set_cons_zero]
    first | go_big_quiet_step (fail) | quiet_step (fail)
    first | go_big_quiet_step (fail) | quiet_step (fail)
    refine wpQuiet_nil ?_
    intro w1 k1
    replace HW : Hid (w1.heap[w.heap.size]? = some (.cells (Ob.mk 4 ⟨c, k⟩ th p n d g z).cs 49 (0, 0)) ∧ Below w.heap.size w w1) := ⟨kept_block HW.out.1 k1, HW.out.2.trans (k1.mono HW.out.2.size)⟩
    clear k1 c0 c3
    go_wp2_with fail
    have c4 := cell_regrown (cells9 HW.out.1).2.2.2.2.1
    have c5 := cell_regrown (cells9 HW.out.1).2.2.2.2.2.1
    refine QuietCalls.region (by kernel_rfl) (by kernel_rfl) ?_
    first | go_big_quiet_step (fail) | quiet_step (fail)
    first | go_big_quiet_step (fail) | quiet_step (fail)
    refine QuietCalls.call2 rfl rfl Tryz.call42 (fun w _ => HP.out w) rfl rfl ?_; simp only [Act.put, List.setIfInBounds_toArray, List.set_cons_succ, List.set_cons_zero]
    first | go_big_quiet_step (fail) | quiet_step (fail)
    first | go_big_quiet_step (fail) | quiet_step (fail)
    refine QuietCalls.call1 rfl rfl Tryz.call71 (fun w _ => HX.out w) rfl ?_; simp only [Act.put, List.setIfInBounds_toArray, List.set_cons_succ, List.set_cons_zero]
    first | go_big_quiet_step (fail) | quiet_step (fail)
    first | go_big_quiet_step (fail) | quiet_step (fail)
    refine wpQuiet_nil ?_
    intro w2 k2
    replace HW : Hid (w2.heap[w.heap.size]? = some (.cells (Ob.mk 4 ⟨c, k⟩ th p n d g z).cs 49 (0, 0)) ∧ Below w.heap.size w w2) := ⟨kept_block HW.out.1 k2, HW.out.2.trans (k2.mono HW.out.2.size)⟩
    clear k2 c4 c5
    obtain ⟨c0, c1, c2, c3, c4, c5, c6, c7, c8⟩ := cells9 HW.out.1
    go_wp2_with fail
    replace c7 := cell_regrown c7
    replace c8 := cell_regrown c8
    refine QuietCalls.region (by kernel_rfl) (by kernel_rfl) ?_
    first | go_big_quiet_step (fail) | quiet_step (fail)
    first | go_big_quiet_step (fail) | quiet_step (fail)
    first | go_big_quiet_step (fail) | quiet_step (fail)
    refine QuietCalls.call1 rfl rfl Tryz.call73 (fun w _ => HH.out w) rfl ?_; simp only [Act.put, List.setIfInBounds_toArray, List.set_cons_succ, List.set_cons_zero]
    first | go_big_quiet_step (fail) | quiet_step (fail)
    first | go_big_quiet_step (fail) | quiet_step (fail)
    first | go_big_quiet_step (fail) | quiet_step (fail)
    first | go_big_quiet_step (fail) | quiet_step (fail)
    refine QuietCalls.call2 rfl rfl Tryz.call42 (fun w _ => HZ.out w) rfl rfl ?_; simp only [Act.put, List.setIfInBounds_toArray, List.set_cons_succ, List.set_cons_zero]
    first | go_big_quiet_step (fail) | quiet_step (fail)
    first | go_big_quiet_step (fail) | quiet_step (fail)
    refine wpQuiet_nil ?_
    intro w3 k3
    go_wp2_with fail
    go_ret
    exact ⟨rfl, HW.out.2.trans (k3.mono HW.out.2.size)⟩
end Go.Proofs.YtkbboddibgfjbaaGreatDoor
/- Contracts: the digests of operations, the program's and the document's. -/
namespace Go.Opn
/-- The digest of bytes for the purpose O. -/
def tag (l : List UInt8) : ByteArray := ⟨(Sha.sum (Sha.parts 79 [l])).toArray⟩
end Go.Opn
namespace Go.Proofs.YtkbboddibgfjbaaGreatDoor
open Go.RowKit Go.Wire Go.Stamp Go.Opn
theorem one_reads (w : World) (x : ByteArray) (T : TypeId) : StrRow.Reads (w.alloc (.cells #[.string x] T)) (.slice (some ⟨w.heap.size, 0, none⟩) 1 1) [x] :=
  .inr ⟨w.heap.size, 0, 1, rfl, by simp, Nat.le_refl _, fun j s hj => by
    match j, hj with
    | 0, hj => cases hj; exact cell_of_row _ _ _ _ _ _ (heap_alloc_new _ _)⟩
theorem tagOne (x : ByteArray) (w : World) (hx : x.size ≤ 700) (hst : Steps w) :
    Calls Tryz.prog 52 #[.int .u8 79, .slice (some ⟨w.heap.size, 0, none⟩) 1 1] (w.alloc (.cells #[.string x] 9)) fun e w' => e = .returned (.string (tag x.data.toList)) ∧ Below (w.alloc (.cells #[.string x] 9)).heap.size (w.alloc (.cells #[.string x] 9)) w' :=
  tagged_any 79 _ [x] _ (one_reads w x 9) (by simp) (fun s hs => by rw [List.mem_singleton.1 hs]; omega) (hst.alloc _)
theorem rtagOne (x : ByteArray) (w : World) (hx : x.size ≤ 700) :
    Calls Tryz.prog 51 #[.int .u8 79, .slice (some ⟨w.heap.size, 0, none⟩) 1 1] (w.alloc (.cells #[.string x] 9)) fun e w' => e = .returned (.string (tag x.data.toList)) ∧ Below (w.alloc (.cells #[.string x] 9)).heap.size (w.alloc (.cells #[.string x] 9)) w' :=
  rtagged_any 79 _ [x] _ (one_reads w x 9) (by simp) (fun s hs => by rw [List.mem_singleton.1 hs]; omega)
theorem bytesB_size {o : Ob} (hg : o.Good) : o.bytesB.size ≤ 100 := by
  have := Ob.bytes_length (Ob.good_is hg)
  rw [size_list]
  simpa [Ob.bytesB] using this
theorem bytesB_list (o : Ob) : o.bytesB.data.toList = o.bytes := by simp [Ob.bytesB]
end Go.Proofs.YtkbboddibgfjbaaGreatDoor
