/- Several texts in one: OpRef, OpRefBytes, OpRefCheck, OpHash. -/
import Derived.Test.YtcdmdpafkiljdaaDoorOpOne
import Derived.Test.YtcdmdpafkiljdaaDoorPureSha
import Derived.Test.YtcdmdpafkiljdaaDoorStampAll
import Derived.Test.YtcdmdpafkiljdaaDoorWireOut
import Derived.Test.YtcdmdpafkiljdaaDoorShaThree
/- Contract: an operation as the document has it. -/
namespace Go.Proofs.YtcdmdpafkiljdaaDoor
open Go.RowKit Go.Wire Go.Stamp Go.Opn Go.Sort
theorem below_setRow {B : Nat} {w w1 : World} (h : Below B w w1) {g : Nat} (hg : B ≤ g) (cs : Array Value) : Below B w (w1.setRow g cs) :=
  h.trans ⟨rfl, rfl, rfl, by simp, fun k hk => setRow_other _ _ _ _ (by omega)⟩
set_option maxRecDepth 100000 in
set_option maxHeartbeats 1000000 in
theorem refOp_any (o : Ob) (w : World) :
    Calls Tryd.prog 21 #[o.v] w fun e w' => e = .returned o.v ∧ Below w.heap.size w w' := by
  have HR : Hid (∀ w, Calls Tryd.prog 37 #[o.tm.v] w fun e w' => e = .returned o.tm.v ∧ Below w.heap.size w w') := fun w => ref_any o.tm w
  obtain ⟨kd, ⟨c, k⟩, th, p, n, d, g, z⟩ := o
  unfold Tm.v at HR
  unfold Ob.v
  dsimp only at HR ⊢
  go_enter Tryd.func21, Tryd.ntmps21
  go_wp2_with fail
  obtain ⟨W, hW⟩ : ∃ W, W = (w.alloc (.cells (Ob.mk kd ⟨c, k⟩ th p n d g z).cs 27)).alloc (.cells Ob.zero.cs 38) := ⟨_, rfl⟩
  dsimp only [Ob.zero] at hW
  rw [← hW]
  have HW : Hid (W.heap[w.heap.size]? = some (.cells (Ob.mk kd ⟨c, k⟩ th p n d g z).cs 27 (0, 0)) ∧ W.heap[w.heap.size + 1]? = some (.cells Ob.zero.cs 38 (0, 0)) ∧ Below w.heap.size w W) := by
    rw [hW]; exact ⟨kept_alloc (heap_alloc_new _ _) _, new_at (by simp) _, ((Below.refl _ _).alloc (Nat.le_refl _) _).alloc (by simp) _⟩
  clear hW
  obtain ⟨c0, c1, c2, c3, c4, c5, c6, c7, c8⟩ := cells9 HW.out.1
  replace c0 := cell_regrown c0
  replace c3 := cell_regrown c3
  replace c4 := cell_regrown c4
  replace c5 := cell_regrown c5
  replace c6 := cell_regrown c6
  replace c7 := cell_regrown c7
  replace c8 := cell_regrown c8
  refine QTail.wp_region_tail (fun w' => ∃ p : Regrown, w' = grow (redrawn W p.d) p.os) 18 (by kernel_rfl) (by kernel_rfl) ⟨⟨W.drawn + 1, #[]⟩, by rw [grow_empty]; rfl⟩ ?_
  simp only [List.take_succ_cons, List.take_zero, List.drop_succ_cons, List.drop_zero]
  first | go_big_quiet_step (fail) | quiet_step (fail)
  first | go_big_quiet_step (fail) | quiet_step (fail)
  first | go_big_quiet_step (fail) | quiet_step (fail)
  refine QuietCalls.loadMid rfl 25 _ rfl _ _ rfl [.int .u64 c, .int .i64 k] _ (fun w k => range_tm (kept_block HW.out.1 k)) Tryd.underlying25 rfl info24 ?_; simp only [Act.put, List.setIfInBounds_toArray, List.set_cons_succ, List.set_cons_zero]
  refine QuietCalls.call1 rfl rfl Tryd.call37 (fun w _ => HR.out w) rfl ?_; simp only [Act.put, List.setIfInBounds_toArray, List.set_cons_succ, List.set_cons_zero]
  first | go_big_quiet_step (fail) | quiet_step (fail)
  first | go_big_quiet_step (fail) | quiet_step (fail)
  first | go_big_quiet_step (fail) | quiet_step (fail)
  first | go_big_quiet_step (fail) | quiet_step (fail)
  first | go_big_quiet_step (fail) | quiet_step (fail)
  first | go_big_quiet_step (fail) | quiet_step (fail)
  first | go_big_quiet_step (fail) | quiet_step (fail)
  first | go_big_quiet_step (fail) | quiet_step (fail)
  first | go_big_quiet_step (fail) | quiet_step (fail)
  first | go_big_quiet_step (fail) | quiet_step (fail)
  first | go_big_quiet_step (fail) | quiet_step (fail)
  first | go_big_quiet_step (fail) | quiet_step (fail)
  first | go_big_quiet_step (fail) | quiet_step (fail)
  refine wpQuiet_nil ?_
  rintro _ ⟨⟨dq, osq⟩, rfl⟩
  have hbl := below_regrown W dq osq
  generalize grow (redrawn W dq) osq = V at hbl
  have HV : Hid (V.heap[w.heap.size + 1]? = some (.cells Ob.zero.cs 38 (0, 0)) ∧ Below w.heap.size w V) := ⟨kept_block HW.out.2.1 hbl, HW.out.2.2.trans (hbl.mono HW.out.2.2.size)⟩
  clear hbl c0 c3 c4 c5 c6 c7 c8 c1 c2
  refine wpList_store_row rfl 38 _ _ rfl _ _ rfl rfl 38 _ HV.out.1 infoROp rfl (by simp [Value.oneCell']) ?_
  go_wp2_with fail
  exact bodyPost_ret (results_cell_row Tryd.results21 _ _ _ _ _ (0, 0) _ rfl (setRow_heap _ _ _ _ _ _ HV.out.1) Tryd.underlying38 rfl infoROp) rfl ⟨rfl, below_setRow HV.out.2 (by omega) _⟩
end Go.Proofs.YtcdmdpafkiljdaaDoor
/- Contract: an operation's bytes, the document's. -/
namespace Go.Proofs.YtcdmdpafkiljdaaDoor
open Go.RowKit Go.Wire Go.Stamp Go.Opn
set_option maxRecDepth 100000 in
set_option maxHeartbeats 2000000 in
theorem rbytesOp_any (o : Ob) (w : World) (hok : o.tm.Ok) (hg : o.Good) :
    Calls Tryd.prog 62 #[o.v] w fun e w' => e = .returned (.string o.bytesB) ∧ Below w.heap.size w w' := by
  obtain ⟨i1, i2, i3, i4, i5, i6⟩ := Ob.good_is hg
  clear hg
  unfold Tm.Ok at hok
  obtain ⟨kd, ⟨c, k⟩, th, p, n, d, g, z⟩ := o
  dsimp only at hok i1 i2 i3 i4 i5 i6
  obtain ⟨c, rfl⟩ : ∃ c' : Nat, c = c' := ⟨c.toNat, by omega⟩
  obtain ⟨k, rfl⟩ : ∃ k' : Nat, k = k' := ⟨k.toNat, by omega⟩
  obtain ⟨th, rfl⟩ : ∃ t' : Nat, th = t' := ⟨th.toNat, by omega⟩
  obtain ⟨p, rfl⟩ : ∃ t' : Nat, p = t' := ⟨p.toNat, by omega⟩
  obtain ⟨z, rfl⟩ : ∃ t' : Nat, z = t' := ⟨z.toNat, by omega⟩
  have HT : Hid (∀ w, Calls Tryd.prog 79 #[.agg #[.int .u64 c, .int .i64 k]] w fun e w' => e = .returned (.string (numB 16 c ++ numB 2 k)) ∧ Below w.heap.size w w') := fun w => rbytesOf_any c k w (by omega) (by omega)
  have HTh : Hid (∀ w, Calls Tryd.prog 61 #[.int .u64 th, .int .i64 8] w fun e w' => e = .returned (.string (numB 16 th)) ∧ Below w.heap.size w w') := fun w => rnum_any th 8 w (by omega) (by decide)
  have HP : Hid (∀ w, Calls Tryd.prog 61 #[.int .u64 p, .int .i64 8] w fun e w' => e = .returned (.string (numB 16 p)) ∧ Below w.heap.size w w') := fun w => rnum_any p 8 w (by omega) (by decide)
  have HX : Hid (∀ w, Calls Tryd.prog 80 #[.string n] w fun e w' => e = .returned (.string (textB n)) ∧ Below w.heap.size w w') := fun w => rtextB_any n w (by omega)
  have HD : Hid (∀ w, Calls Tryd.prog 81 #[.bool d] w fun e w' => e = .returned (.string ⟨#[letter d]⟩) ∧ Below w.heap.size w w') := fun w => (rboolB_any d w).mono fun e w' ⟨h, k⟩ => ⟨h, by rw [k]; exact Below.refl _ _⟩
  have HZ : Hid (∀ w, Calls Tryd.prog 61 #[.int .u64 z, .int .i64 4] w fun e w' => e = .returned (.string (numB 8 z)) ∧ Below w.heap.size w w') := fun w => rnum_any z 4 w (by omega) (by decide)
  have HH : Hid (∀ w, Calls Tryd.prog 82 #[.string g] w fun e w' => e = .returned (.string ⟨(pad g.data.toList).toArray⟩) ∧ Below w.heap.size w w') := fun w => (rhash_any g w (by omega)).mono fun e w' ⟨h, k⟩ => ⟨h, by rw [k]; exact Below.refl _ _⟩
  have ez : IntKind.u64.wrap (z : Int) = z := by rw [Wire.wrap_u64]; omega
  have s1 : (numB 16 c ++ numB 2 k).size = 18 := by rw [ByteArray.size_append, numB_size, numB_size]
  have s2 := numB_size 16 th
  have s3 := numB_size 16 p
  have s4 : (textB n).size ≤ 40 := by rw [textB_size]; omega
  have s5 : (⟨#[letter d]⟩ : ByteArray).size = 1 := rfl
  have s6 := numB_size 8 z
  have s7 : (⟨(pad g.data.toList).toArray⟩ : ByteArray).size = 32 := by rw [size_list]; simp [pad_length]
  clear hok i1 i2 i4
  rcases i6 with ⟨rfl, hd, hz0⟩ | ⟨rfl, hd, hz0, hdir⟩ | ⟨rfl, hp0, hn0, hd, hz0, hdir⟩ | ⟨rfl, hp0, hn0, hdir, hdg⟩
  · have eb : (Ob.mk 1 ⟨c, k⟩ th p n d g z).bytesB = numB 2 1 ++ (numB 16 c ++ numB 2 k) ++ numB 16 th ++ ⟨#[letter d]⟩ ++ (numB 16 p ++ textB n) := by
      unfold Ob.bytesB Ob.bytes Ob.head Ob.spot
      rw [if_pos rfl]
      apply ext_list
      simp only [app_list, numB_list, textB]
      simp
    rw [eb]
    clear eb hd hz0
    have HK : Hid (∀ w, Calls Tryd.prog 61 #[.int .u64 1, .int .i64 1] w fun e w' => e = .returned (.string (numB 2 1)) ∧ Below w.heap.size w w') := fun w => rnum_any 1 1 w (by decide) (by decide)
    have s0 := numB_size 2 1
    generalize numB 2 1 = x0 at HK s0 ⊢
    generalize numB 16 c ++ numB 2 k = x1 at HT s1 ⊢
    generalize numB 16 th = x2 at HTh s2 ⊢
    generalize numB 16 p = x3 at HP s3 ⊢
    generalize textB n = x4 at HX s4 ⊢
    generalize (⟨#[letter d]⟩ : ByteArray) = x5 at HD s5 ⊢
    generalize numB 8 z = x6 at HZ s6 ⊢
    generalize (⟨(pad g.data.toList).toArray⟩ : ByteArray) = x7 at HH s7 ⊢
    unfold Ob.v
    dsimp only
    go_enter Tryd.func62, Tryd.ntmps62
    go_wp2_with fail
    obtain ⟨W, hW⟩ : ∃ W, W = w.alloc (.cells (Ob.mk 1 ⟨c, k⟩ th p n d g z).cs 38) := ⟨_, rfl⟩
    rw [← hW]
    have HW : Hid (W.heap[w.heap.size]? = some (.cells (Ob.mk 1 ⟨c, k⟩ th p n d g z).cs 38 (0, 0)) ∧ Below w.heap.size w W) := by rw [hW]; exact ⟨heap_alloc_new _ _, (Below.refl _ _).alloc (Nat.le_refl _) _⟩
    clear hW
    have c0 := cell_regrown (cells9 HW.out.1).1
    have c3 := cell_regrown (cells9 HW.out.1).2.2.2.1
    refine QuietCalls.region (by kernel_rfl) (by kernel_rfl) ?_
    first | go_big_quiet_step (fail) | quiet_step (fail)
    first | go_big_quiet_step (fail) | quiet_step (fail)
    first | go_big_quiet_step (fail) | quiet_step (fail)
    refine QuietCalls.call2 rfl rfl Tryd.call61 (fun w _ => HK.out w) rfl rfl ?_; simp only [Act.put, List.setIfInBounds_toArray, List.set_cons_succ, List.set_cons_zero]
    first | go_big_quiet_step (fail) | quiet_step (fail)
    refine QuietCalls.loadMid rfl 36 _ rfl _ _ rfl [.int .u64 c, .int .i64 k] _ (fun w k => range_tm (kept_block HW.out.1 k)) Tryd.underlying36 rfl info27 ?_; simp only [Act.put, List.setIfInBounds_toArray, List.set_cons_succ, List.set_cons_zero]
    refine QuietCalls.call1 rfl rfl Tryd.call79 (fun w _ => HT.out w) rfl ?_; simp only [Act.put, List.setIfInBounds_toArray, List.set_cons_succ, List.set_cons_zero]
    first | go_big_quiet_step (fail) | quiet_step (fail)
    first | go_big_quiet_step (fail) | quiet_step (fail)
    first | go_big_quiet_step (fail) | quiet_step (fail)
    refine QuietCalls.call2 rfl rfl Tryd.call61 (fun w _ => HTh.out w) rfl rfl ?_; simp only [Act.put, List.setIfInBounds_toArray, List.set_cons_succ, List.set_cons_zero]
    first | go_big_quiet_step (fail) | quiet_step (fail)
    first | go_big_quiet_step (fail) | quiet_step (fail)
    refine wpQuiet_nil ?_
    intro w1 k1
    replace HW : Hid (w1.heap[w.heap.size]? = some (.cells (Ob.mk 1 ⟨c, k⟩ th p n d g z).cs 38 (0, 0)) ∧ Below w.heap.size w w1) := ⟨kept_block HW.out.1 k1, HW.out.2.trans (k1.mono HW.out.2.size)⟩
    clear k1 c0 c3
    go_wp2_with fail
    have c4 := cell_regrown (cells9 HW.out.1).2.2.2.2.1
    have c5 := cell_regrown (cells9 HW.out.1).2.2.2.2.2.1
    refine QuietCalls.region (by kernel_rfl) (by kernel_rfl) ?_
    first | go_big_quiet_step (fail) | quiet_step (fail)
    first | go_big_quiet_step (fail) | quiet_step (fail)
    refine QuietCalls.call2 rfl rfl Tryd.call61 (fun w _ => HP.out w) rfl rfl ?_; simp only [Act.put, List.setIfInBounds_toArray, List.set_cons_succ, List.set_cons_zero]
    first | go_big_quiet_step (fail) | quiet_step (fail)
    first | go_big_quiet_step (fail) | quiet_step (fail)
    refine QuietCalls.call1 rfl rfl Tryd.call80 (fun w _ => HX.out w) rfl ?_; simp only [Act.put, List.setIfInBounds_toArray, List.set_cons_succ, List.set_cons_zero]
    first | go_big_quiet_step (fail) | quiet_step (fail)
    first | go_big_quiet_step (fail) | quiet_step (fail)
    refine wpQuiet_nil ?_
    intro w2 k2
    replace HW : Hid (w2.heap[w.heap.size]? = some (.cells (Ob.mk 1 ⟨c, k⟩ th p n d g z).cs 38 (0, 0)) ∧ Below w.heap.size w w2) := ⟨kept_block HW.out.1 k2, HW.out.2.trans (k2.mono HW.out.2.size)⟩
    clear k2 c4 c5
    obtain ⟨c0, c1, c2, c3, c4, c5, c6, c7, c8⟩ := cells9 HW.out.1
    go_wp2_with (go_at_call 81; refine (HD.out _).mono ?_; rintro e w3 ⟨rfl, k3⟩)
    go_ret
    exact ⟨rfl, HW.out.2.trans (k3.mono HW.out.2.size)⟩
  · have eb : (Ob.mk 2 ⟨c, k⟩ th p n d g z).bytesB = numB 2 2 ++ (numB 16 c ++ numB 2 k) ++ numB 16 th ++ (numB 16 p ++ textB n) := by
      unfold Ob.bytesB Ob.bytes Ob.head Ob.spot
      rw [if_neg (show ¬ ((2 : Int) = 1) by decide), if_pos rfl]
      apply ext_list
      simp only [app_list, numB_list, textB]
      simp
    rw [eb]
    clear eb hd hz0 hdir
    have HK : Hid (∀ w, Calls Tryd.prog 61 #[.int .u64 2, .int .i64 1] w fun e w' => e = .returned (.string (numB 2 2)) ∧ Below w.heap.size w w') := fun w => rnum_any 2 1 w (by decide) (by decide)
    have s0 := numB_size 2 2
    generalize numB 2 2 = x0 at HK s0 ⊢
    generalize numB 16 c ++ numB 2 k = x1 at HT s1 ⊢
    generalize numB 16 th = x2 at HTh s2 ⊢
    generalize numB 16 p = x3 at HP s3 ⊢
    generalize textB n = x4 at HX s4 ⊢
    generalize (⟨#[letter d]⟩ : ByteArray) = x5 at HD s5 ⊢
    generalize numB 8 z = x6 at HZ s6 ⊢
    generalize (⟨(pad g.data.toList).toArray⟩ : ByteArray) = x7 at HH s7 ⊢
    unfold Ob.v
    dsimp only
    go_enter Tryd.func62, Tryd.ntmps62
    go_wp2_with fail
    obtain ⟨W, hW⟩ : ∃ W, W = w.alloc (.cells (Ob.mk 2 ⟨c, k⟩ th p n d g z).cs 38) := ⟨_, rfl⟩
    rw [← hW]
    have HW : Hid (W.heap[w.heap.size]? = some (.cells (Ob.mk 2 ⟨c, k⟩ th p n d g z).cs 38 (0, 0)) ∧ Below w.heap.size w W) := by rw [hW]; exact ⟨heap_alloc_new _ _, (Below.refl _ _).alloc (Nat.le_refl _) _⟩
    clear hW
    have c0 := cell_regrown (cells9 HW.out.1).1
    have c3 := cell_regrown (cells9 HW.out.1).2.2.2.1
    refine QuietCalls.region (by kernel_rfl) (by kernel_rfl) ?_
    first | go_big_quiet_step (fail) | quiet_step (fail)
    first | go_big_quiet_step (fail) | quiet_step (fail)
    first | go_big_quiet_step (fail) | quiet_step (fail)
    refine QuietCalls.call2 rfl rfl Tryd.call61 (fun w _ => HK.out w) rfl rfl ?_; simp only [Act.put, List.setIfInBounds_toArray, List.set_cons_succ, List.set_cons_zero]
    first | go_big_quiet_step (fail) | quiet_step (fail)
    refine QuietCalls.loadMid rfl 36 _ rfl _ _ rfl [.int .u64 c, .int .i64 k] _ (fun w k => range_tm (kept_block HW.out.1 k)) Tryd.underlying36 rfl info27 ?_; simp only [Act.put, List.setIfInBounds_toArray, List.set_cons_succ, List.set_cons_zero]
    refine QuietCalls.call1 rfl rfl Tryd.call79 (fun w _ => HT.out w) rfl ?_; simp only [Act.put, List.setIfInBounds_toArray, List.set_cons_succ, List.set_cons_zero]
    first | go_big_quiet_step (fail) | quiet_step (fail)
    first | go_big_quiet_step (fail) | quiet_step (fail)
    first | go_big_quiet_step (fail) | quiet_step (fail)
    refine QuietCalls.call2 rfl rfl Tryd.call61 (fun w _ => HTh.out w) rfl rfl ?_; simp only [Act.put, List.setIfInBounds_toArray, List.set_cons_succ, List.set_cons_zero]
    first | go_big_quiet_step (fail) | quiet_step (fail)
    first | go_big_quiet_step (fail) | quiet_step (fail)
    refine wpQuiet_nil ?_
    intro w1 k1
    replace HW : Hid (w1.heap[w.heap.size]? = some (.cells (Ob.mk 2 ⟨c, k⟩ th p n d g z).cs 38 (0, 0)) ∧ Below w.heap.size w w1) := ⟨kept_block HW.out.1 k1, HW.out.2.trans (k1.mono HW.out.2.size)⟩
    clear k1 c0 c3
    go_wp2_with fail
    have c4 := cell_regrown (cells9 HW.out.1).2.2.2.2.1
    have c5 := cell_regrown (cells9 HW.out.1).2.2.2.2.2.1
    refine QuietCalls.region (by kernel_rfl) (by kernel_rfl) ?_
    first | go_big_quiet_step (fail) | quiet_step (fail)
    first | go_big_quiet_step (fail) | quiet_step (fail)
    refine QuietCalls.call2 rfl rfl Tryd.call61 (fun w _ => HP.out w) rfl rfl ?_; simp only [Act.put, List.setIfInBounds_toArray, List.set_cons_succ, List.set_cons_zero]
    first | go_big_quiet_step (fail) | quiet_step (fail)
    first | go_big_quiet_step (fail) | quiet_step (fail)
    refine QuietCalls.call1 rfl rfl Tryd.call80 (fun w _ => HX.out w) rfl ?_; simp only [Act.put, List.setIfInBounds_toArray, List.set_cons_succ, List.set_cons_zero]
    first | go_big_quiet_step (fail) | quiet_step (fail)
    first | go_big_quiet_step (fail) | quiet_step (fail)
    refine wpQuiet_nil ?_
    intro w2 k2
    replace HW : Hid (w2.heap[w.heap.size]? = some (.cells (Ob.mk 2 ⟨c, k⟩ th p n d g z).cs 38 (0, 0)) ∧ Below w.heap.size w w2) := ⟨kept_block HW.out.1 k2, HW.out.2.trans (k2.mono HW.out.2.size)⟩
    clear k2 c4 c5
    obtain ⟨c0, c1, c2, c3, c4, c5, c6, c7, c8⟩ := cells9 HW.out.1
    go_wp2_with fail
    go_ret
    exact ⟨rfl, HW.out.2⟩
  · have eb : (Ob.mk 3 ⟨c, k⟩ th p n d g z).bytesB = numB 2 3 ++ (numB 16 c ++ numB 2 k) ++ numB 16 th := by
      unfold Ob.bytesB Ob.bytes Ob.head Ob.spot
      rw [if_neg (show ¬ ((3 : Int) = 1) by decide), if_neg (show ¬ ((3 : Int) = 2) by decide), if_neg (show ¬ ((3 : Int) = 4) by decide)]
      apply ext_list
      simp only [app_list, numB_list]
      simp
    rw [eb]
    clear eb hd hz0 hdir hn0 hp0
    have HK : Hid (∀ w, Calls Tryd.prog 61 #[.int .u64 3, .int .i64 1] w fun e w' => e = .returned (.string (numB 2 3)) ∧ Below w.heap.size w w') := fun w => rnum_any 3 1 w (by decide) (by decide)
    have s0 := numB_size 2 3
    generalize numB 2 3 = x0 at HK s0 ⊢
    generalize numB 16 c ++ numB 2 k = x1 at HT s1 ⊢
    generalize numB 16 th = x2 at HTh s2 ⊢
    generalize numB 16 p = x3 at HP s3 ⊢
    generalize textB n = x4 at HX s4 ⊢
    generalize (⟨#[letter d]⟩ : ByteArray) = x5 at HD s5 ⊢
    generalize numB 8 z = x6 at HZ s6 ⊢
    generalize (⟨(pad g.data.toList).toArray⟩ : ByteArray) = x7 at HH s7 ⊢
    unfold Ob.v
    dsimp only
    go_enter Tryd.func62, Tryd.ntmps62
    go_wp2_with fail
    obtain ⟨W, hW⟩ : ∃ W, W = w.alloc (.cells (Ob.mk 3 ⟨c, k⟩ th p n d g z).cs 38) := ⟨_, rfl⟩
    rw [← hW]
    have HW : Hid (W.heap[w.heap.size]? = some (.cells (Ob.mk 3 ⟨c, k⟩ th p n d g z).cs 38 (0, 0)) ∧ Below w.heap.size w W) := by rw [hW]; exact ⟨heap_alloc_new _ _, (Below.refl _ _).alloc (Nat.le_refl _) _⟩
    clear hW
    have c0 := cell_regrown (cells9 HW.out.1).1
    have c3 := cell_regrown (cells9 HW.out.1).2.2.2.1
    refine QuietCalls.region (by kernel_rfl) (by kernel_rfl) ?_
    first | go_big_quiet_step (fail) | quiet_step (fail)
    first | go_big_quiet_step (fail) | quiet_step (fail)
    first | go_big_quiet_step (fail) | quiet_step (fail)
    refine QuietCalls.call2 rfl rfl Tryd.call61 (fun w _ => HK.out w) rfl rfl ?_; simp only [Act.put, List.setIfInBounds_toArray, List.set_cons_succ, List.set_cons_zero]
    first | go_big_quiet_step (fail) | quiet_step (fail)
    refine QuietCalls.loadMid rfl 36 _ rfl _ _ rfl [.int .u64 c, .int .i64 k] _ (fun w k => range_tm (kept_block HW.out.1 k)) Tryd.underlying36 rfl info27 ?_; simp only [Act.put, List.setIfInBounds_toArray, List.set_cons_succ, List.set_cons_zero]
    refine QuietCalls.call1 rfl rfl Tryd.call79 (fun w _ => HT.out w) rfl ?_; simp only [Act.put, List.setIfInBounds_toArray, List.set_cons_succ, List.set_cons_zero]
    first | go_big_quiet_step (fail) | quiet_step (fail)
    first | go_big_quiet_step (fail) | quiet_step (fail)
    first | go_big_quiet_step (fail) | quiet_step (fail)
    refine QuietCalls.call2 rfl rfl Tryd.call61 (fun w _ => HTh.out w) rfl rfl ?_; simp only [Act.put, List.setIfInBounds_toArray, List.set_cons_succ, List.set_cons_zero]
    first | go_big_quiet_step (fail) | quiet_step (fail)
    first | go_big_quiet_step (fail) | quiet_step (fail)
    refine wpQuiet_nil ?_
    intro w1 k1
    replace HW : Hid (w1.heap[w.heap.size]? = some (.cells (Ob.mk 3 ⟨c, k⟩ th p n d g z).cs 38 (0, 0)) ∧ Below w.heap.size w w1) := ⟨kept_block HW.out.1 k1, HW.out.2.trans (k1.mono HW.out.2.size)⟩
    clear k1 c0 c3
    go_wp2_with fail
    have c4 := cell_regrown (cells9 HW.out.1).2.2.2.2.1
    have c5 := cell_regrown (cells9 HW.out.1).2.2.2.2.2.1
    refine QuietCalls.region (by kernel_rfl) (by kernel_rfl) ?_
    first | go_big_quiet_step (fail) | quiet_step (fail)
    first | go_big_quiet_step (fail) | quiet_step (fail)
    refine QuietCalls.call2 rfl rfl Tryd.call61 (fun w _ => HP.out w) rfl rfl ?_; simp only [Act.put, List.setIfInBounds_toArray, List.set_cons_succ, List.set_cons_zero]
    first | go_big_quiet_step (fail) | quiet_step (fail)
    first | go_big_quiet_step (fail) | quiet_step (fail)
    refine QuietCalls.call1 rfl rfl Tryd.call80 (fun w _ => HX.out w) rfl ?_; simp only [Act.put, List.setIfInBounds_toArray, List.set_cons_succ, List.set_cons_zero]
    first | go_big_quiet_step (fail) | quiet_step (fail)
    first | go_big_quiet_step (fail) | quiet_step (fail)
    refine wpQuiet_nil ?_
    intro w2 k2
    replace HW : Hid (w2.heap[w.heap.size]? = some (.cells (Ob.mk 3 ⟨c, k⟩ th p n d g z).cs 38 (0, 0)) ∧ Below w.heap.size w w2) := ⟨kept_block HW.out.1 k2, HW.out.2.trans (k2.mono HW.out.2.size)⟩
    clear k2 c4 c5
    obtain ⟨c0, c1, c2, c3, c4, c5, c6, c7, c8⟩ := cells9 HW.out.1
    go_wp2_with fail
    go_ret
    exact ⟨rfl, HW.out.2⟩
  · have eb : (Ob.mk 4 ⟨c, k⟩ th p n d g z).bytesB = numB 2 4 ++ (numB 16 c ++ numB 2 k) ++ numB 16 th ++ ⟨(pad g.data.toList).toArray⟩ ++ numB 8 z := by
      unfold Ob.bytesB Ob.bytes Ob.head Ob.spot
      rw [if_neg (show ¬ ((4 : Int) = 1) by decide), if_neg (show ¬ ((4 : Int) = 2) by decide), if_pos rfl]
      apply ext_list
      simp only [app_list, numB_list, pad_full g hdg]
      simp
    rw [eb]
    clear eb hdir hn0 hp0 hdg
    have HK : Hid (∀ w, Calls Tryd.prog 61 #[.int .u64 4, .int .i64 1] w fun e w' => e = .returned (.string (numB 2 4)) ∧ Below w.heap.size w w') := fun w => rnum_any 4 1 w (by decide) (by decide)
    have s0 := numB_size 2 4
    generalize numB 2 4 = x0 at HK s0 ⊢
    generalize numB 16 c ++ numB 2 k = x1 at HT s1 ⊢
    generalize numB 16 th = x2 at HTh s2 ⊢
    generalize numB 16 p = x3 at HP s3 ⊢
    generalize textB n = x4 at HX s4 ⊢
    generalize (⟨#[letter d]⟩ : ByteArray) = x5 at HD s5 ⊢
    generalize numB 8 z = x6 at HZ s6 ⊢
    generalize (⟨(pad g.data.toList).toArray⟩ : ByteArray) = x7 at HH s7 ⊢
    unfold Ob.v
    dsimp only
    go_enter Tryd.func62, Tryd.ntmps62
    go_wp2_with fail
    obtain ⟨W, hW⟩ : ∃ W, W = w.alloc (.cells (Ob.mk 4 ⟨c, k⟩ th p n d g z).cs 38) := ⟨_, rfl⟩
    rw [← hW]
    have HW : Hid (W.heap[w.heap.size]? = some (.cells (Ob.mk 4 ⟨c, k⟩ th p n d g z).cs 38 (0, 0)) ∧ Below w.heap.size w W) := by rw [hW]; exact ⟨heap_alloc_new _ _, (Below.refl _ _).alloc (Nat.le_refl _) _⟩
    clear hW
    have c0 := cell_regrown (cells9 HW.out.1).1
    have c3 := cell_regrown (cells9 HW.out.1).2.2.2.1
    refine QuietCalls.region (by kernel_rfl) (by kernel_rfl) ?_
    first | go_big_quiet_step (fail) | quiet_step (fail)
    first | go_big_quiet_step (fail) | quiet_step (fail)
    first | go_big_quiet_step (fail) | quiet_step (fail)
    refine QuietCalls.call2 rfl rfl Tryd.call61 (fun w _ => HK.out w) rfl rfl ?_; simp only [Act.put, List.setIfInBounds_toArray, List.set_cons_succ, List.set_cons_zero]
    first | go_big_quiet_step (fail) | quiet_step (fail)
    refine QuietCalls.loadMid rfl 36 _ rfl _ _ rfl [.int .u64 c, .int .i64 k] _ (fun w k => range_tm (kept_block HW.out.1 k)) Tryd.underlying36 rfl info27 ?_; simp only [Act.put, List.setIfInBounds_toArray, List.set_cons_succ, List.set_cons_zero]
    refine QuietCalls.call1 rfl rfl Tryd.call79 (fun w _ => HT.out w) rfl ?_; simp only [Act.put, List.setIfInBounds_toArray, List.set_cons_succ, List.set_cons_zero]
    first | go_big_quiet_step (fail) | quiet_step (fail)
    first | go_big_quiet_step (fail) | quiet_step (fail)
    first | go_big_quiet_step (fail) | quiet_step (fail)
    refine QuietCalls.call2 rfl rfl Tryd.call61 (fun w _ => HTh.out w) rfl rfl ?_; simp only [Act.put, List.setIfInBounds_toArray, List.set_cons_succ, List.set_cons_zero]
    first | go_big_quiet_step (fail) | quiet_step (fail)
    first | go_big_quiet_step (fail) | quiet_step (fail)
    refine wpQuiet_nil ?_
    intro w1 k1
    replace HW : Hid (w1.heap[w.heap.size]? = some (.cells (Ob.mk 4 ⟨c, k⟩ th p n d g z).cs 38 (0, 0)) ∧ Below w.heap.size w w1) := ⟨kept_block HW.out.1 k1, HW.out.2.trans (k1.mono HW.out.2.size)⟩
    clear k1 c0 c3
    go_wp2_with fail
    have c4 := cell_regrown (cells9 HW.out.1).2.2.2.2.1
    have c5 := cell_regrown (cells9 HW.out.1).2.2.2.2.2.1
    refine QuietCalls.region (by kernel_rfl) (by kernel_rfl) ?_
    first | go_big_quiet_step (fail) | quiet_step (fail)
    first | go_big_quiet_step (fail) | quiet_step (fail)
    refine QuietCalls.call2 rfl rfl Tryd.call61 (fun w _ => HP.out w) rfl rfl ?_; simp only [Act.put, List.setIfInBounds_toArray, List.set_cons_succ, List.set_cons_zero]
    first | go_big_quiet_step (fail) | quiet_step (fail)
    first | go_big_quiet_step (fail) | quiet_step (fail)
    refine QuietCalls.call1 rfl rfl Tryd.call80 (fun w _ => HX.out w) rfl ?_; simp only [Act.put, List.setIfInBounds_toArray, List.set_cons_succ, List.set_cons_zero]
    first | go_big_quiet_step (fail) | quiet_step (fail)
    first | go_big_quiet_step (fail) | quiet_step (fail)
    refine wpQuiet_nil ?_
    intro w2 k2
    replace HW : Hid (w2.heap[w.heap.size]? = some (.cells (Ob.mk 4 ⟨c, k⟩ th p n d g z).cs 38 (0, 0)) ∧ Below w.heap.size w w2) := ⟨kept_block HW.out.1 k2, HW.out.2.trans (k2.mono HW.out.2.size)⟩
    clear k2 c4 c5
    obtain ⟨c0, c1, c2, c3, c4, c5, c6, c7, c8⟩ := cells9 HW.out.1
    go_wp2_with fail
    replace c7 := cell_regrown c7
    replace c8 := cell_regrown c8
    refine QuietCalls.region (by kernel_rfl) (by kernel_rfl) ?_
    first | go_big_quiet_step (fail) | quiet_step (fail)
    first | go_big_quiet_step (fail) | quiet_step (fail)
    first | go_big_quiet_step (fail) | quiet_step (fail)
    refine QuietCalls.call1 rfl rfl Tryd.call82 (fun w _ => HH.out w) rfl ?_; simp only [Act.put, List.setIfInBounds_toArray, List.set_cons_succ, List.set_cons_zero]
    first | go_big_quiet_step (fail) | quiet_step (fail)
    first | go_big_quiet_step (fail) | quiet_step (fail)
    first | go_big_quiet_step (fail) | quiet_step (fail)
    first | go_big_quiet_step (fail) | quiet_step (fail)
    refine QuietCalls.call2 rfl rfl Tryd.call61 (fun w _ => HZ.out w) rfl rfl ?_; simp only [Act.put, List.setIfInBounds_toArray, List.set_cons_succ, List.set_cons_zero]
    first | go_big_quiet_step (fail) | quiet_step (fail)
    first | go_big_quiet_step (fail) | quiet_step (fail)
    refine wpQuiet_nil ?_
    intro w3 k3
    go_wp2_with fail
    go_ret
    exact ⟨rfl, HW.out.2.trans (k3.mono HW.out.2.size)⟩
end Go.Proofs.YtcdmdpafkiljdaaDoor
/- Contracts: whether an operation may be, the document's; an operation as the document has it. -/
namespace Go.Opn
open Go.Wire Go.Stamp
theorem toList_nil (x : ByteArray) : x.toList = [] ↔ x = ⟨#[]⟩ := by
  rw [ByteArray.toList_eq]
  exact ⟨fun h => ext_list (h.trans rfl), fun h => by rw [h]⟩
theorem nil_size (x : ByteArray) : x.toList = [] ↔ ¬ 1 ≤ x.size := by
  rw [ByteArray.toList_eq, size_list]
  cases x.data.toList <;> simp
theorem place_cases (p th : Int) (n : ByteArray) (H : Bool) (h : ((p == 0 || made p) && !(p == th) && decide (1 ≤ n.size) && decide (n.size ≤ 32)) = H) :
    ((p == 0) = false ∧ made p = false ∧ H = false) ∨
    ((((p == 0) = true) ∨ ((p == 0) = false ∧ made p = true)) ∧ (((p != th) = false ∧ H = false) ∨ ((p != th) = true ∧ ((n.toList = [] ∧ H = false) ∨ (¬ n.toList = [] ∧ decide ((n.size : Int) ≤ 32) = H))))) := by
  have hx : (p != th) = !(p == th) := rfl
  rw [hx, nil_size]
  have e : decide ((n.size : Int) ≤ 32) = decide (n.size ≤ 32) := by congr 1; exact propext (by omega)
  rw [e]
  cases h1 : (p == 0)
  · cases h2 : made p
    · rw [h1, h2] at h; exact .inl ⟨rfl, rfl, h.symm⟩
    · rw [h1, h2] at h
      refine .inr ⟨.inr ⟨rfl, rfl⟩, ?_⟩
      cases h3 : (p == th)
      · rw [h3] at h
        refine .inr ⟨rfl, ?_⟩
        by_cases h4 : 1 ≤ n.size
        · rw [decide_eq_true h4] at h; exact .inr ⟨fun x => x h4, h⟩
        · rw [decide_eq_false h4] at h; exact .inl ⟨h4, h.symm⟩
      · rw [h3] at h; exact .inl ⟨rfl, h.symm⟩
  · rw [h1] at h
    refine .inr ⟨.inl rfl, ?_⟩
    cases h3 : (p == th)
    · rw [h3] at h
      refine .inr ⟨rfl, ?_⟩
      by_cases h4 : 1 ≤ n.size
      · rw [decide_eq_true h4] at h; exact .inr ⟨fun x => x h4, h⟩
      · rw [decide_eq_false h4] at h; exact .inl ⟨h4, h.symm⟩
    · rw [h3] at h; exact .inl ⟨rfl, h.symm⟩
/-- What the document asks is what the program asks. -/
theorem Ob.good_doc (o : Ob) (m : Bool) (hm : made o.thing = m) (e : Bool) (he : (decide (o.dg.toList = []) && o.size == 0) = e) (h : Bool) (hh : o.place = h) (n : Bool) (hn : (o.par == 0 && (decide (o.name.toList = []) && !o.dir)) = n) :
    o.good = if o.kind = 1 then m && e && h && o.thing == o.tm.thing else if o.kind = 2 then m && e && h && !o.dir else if o.kind = 3 then m && e && n else if o.kind = 4 then m && n && o.fill else false := by
  subst hm he hh hn
  unfold Ob.good Ob.fits
  have key : o.eqb o.own = if o.kind = 1 then decide (o.dg.toList = []) && o.size == 0 else if o.kind = 2 then decide (o.dg.toList = []) && o.size == 0 && !o.dir else if o.kind = 4 then o.par == 0 && (decide (o.name.toList = []) && !o.dir) else decide (o.dg.toList = []) && o.size == 0 && (o.par == 0 && (decide (o.name.toList = []) && !o.dir)) := by
    rw [Bool.eq_iff_iff, Ob.eqb_iff]
    obtain ⟨k, t, th, p, n, d, g, z⟩ := o
    unfold Ob.own
    dsimp only
    split
    · simp [toList_nil]
    · split
      · simp [toList_nil]; constructor <;> (intro h; simp [h])
      · split
        · simp [toList_nil]
        · simp [toList_nil]; constructor <;> (intro h; simp [h])
  rw [key]
  by_cases k1 : o.kind = 1
  · rw [if_pos k1, if_pos k1, if_pos k1]
    cases made o.thing <;> cases o.place <;> cases (decide (o.dg.toList = []) && o.size == 0) <;> simp
  rw [if_neg k1, if_neg k1, if_neg k1]
  by_cases k2 : o.kind = 2
  · rw [if_pos k2, if_pos k2, if_pos k2]
    cases made o.thing <;> cases o.place <;> cases (decide (o.dg.toList = []) && o.size == 0) <;> simp
  rw [if_neg k2, if_neg k2, if_neg k2]
  by_cases k3 : o.kind = 3
  · rw [if_pos k3, if_pos k3, if_neg (by omega)]
    cases made o.thing <;> simp
  rw [if_neg k3, if_neg k3]
  by_cases k4 : o.kind = 4
  · rw [if_pos k4, if_pos k4, if_pos k4]
    cases made o.thing <;> cases o.fill <;> simp
  rw [if_neg k4, if_neg k4, if_neg k4]
  simp
theorem fill_cases (g : ByteArray) (z : Int) (F : Bool) (h : (g.size == 32 && decide (0 ≤ z) && decide (z ≤ 8192)) = F) :
    (((g.size : Int) == 32) = false ∧ F = false) ∨ (((g.size : Int) == 32) = true ∧ ((z < 0 ∧ F = false) ∨ (0 ≤ z ∧ decide (z ≤ 8192) = F))) := by
  have e : ((g.size : Int) == 32) = (g.size == 32) := by rw [Bool.eq_iff_iff, beq_iff_eq, beq_iff_eq]; omega
  rw [e]
  cases h1 : (g.size == 32)
  · rw [h1] at h; exact .inl ⟨rfl, h.symm⟩
  · rw [h1] at h
    refine .inr ⟨rfl, ?_⟩
    by_cases h2 : 0 ≤ z
    · rw [decide_eq_true h2] at h; exact .inr ⟨h2, h⟩
    · rw [decide_eq_false h2] at h; exact .inl ⟨by omega, h.symm⟩
end Go.Opn
namespace Go.Proofs.YtcdmdpafkiljdaaDoor
open Go.RowKit Go.Wire Go.Stamp Go.Opn
set_option maxRecDepth 100000 in
set_option maxHeartbeats 1000000 in
theorem rcheckOp_any (o : Ob) (hc : 0 ≤ o.tm.c) (w : World) :
    Calls Tryd.prog 20 #[o.v] w fun e w' => e = .returned (.int .i64 o.chk) ∧ Below w.heap.size w w' := by
  have HC : Hid (∀ w, Calls Tryd.prog 34 #[o.tm.v] w fun e w' => e = .returned (.int .i64 o.tm.chk) ∧ Below w.heap.size w w') := fun w => rcheck_any o.tm hc w
  have HM : Hid (∀ n w, Calls Tryd.prog 35 #[.int .u64 n] w fun e w' => e = .returned (.bool (made n)) ∧ w' = w) := fun n w => rmade_any n w
  have HT : Hid (∀ w, Calls Tryd.prog 36 #[o.tm.v] w fun e w' => e = .returned (.int .u64 o.tm.thing) ∧ Below w.heap.size w w') := fun w => rthing_any o.tm hc w
  unfold Tm.v at HC HT
  unfold Ob.v
  by_cases hok : o.tm.Ok
  · rw [Tm.chk_ok hok] at HC
    have hchk : o.chk = if o.good = true then 0 else 50 := by unfold Ob.chk; rw [if_pos hok]
    rw [hchk]
    clear hchk hok
    have HG : Hid (∀ m, made o.thing = m → ∀ e, (decide (o.dg.toList = []) && o.size == 0) = e → ∀ h, o.place = h → ∀ n, (o.par == 0 && (decide (o.name.toList = []) && !o.dir)) = n → o.good = if o.kind = 1 then m && e && h && o.thing == o.tm.thing else if o.kind = 2 then m && e && h && !o.dir else if o.kind = 3 then m && e && n else if o.kind = 4 then m && n && o.fill else false) := fun m hm e he h hh n hn => o.good_doc m hm e he h hh n hn
    generalize o.good = G at HG
    obtain ⟨kd, ⟨c, k⟩, th, p, n, d, g, z⟩ := o
    dsimp only at HC HM HT HG ⊢
    have HMt : Hid (∀ w, Calls Tryd.prog 35 #[.int .u64 th] w fun e w' => e = .returned (.bool (made th)) ∧ w' = w) := fun w => HM.out th w
    have HMp : Hid (∀ w, Calls Tryd.prog 35 #[.int .u64 p] w fun e w' => e = .returned (.bool (made p)) ∧ w' = w) := fun w => HM.out p w
    clear HM
    obtain ⟨m, hm⟩ : ∃ m, made th = m := ⟨_, rfl⟩
    have HG : Hid _ := HG.out m hm
    rw [hm] at HMt
    clear hm
    obtain ⟨E, hE⟩ : ∃ E, (decide (g.toList = []) && z == 0) = E := ⟨_, rfl⟩
    obtain ⟨H, hH⟩ : ∃ H, (Ob.mk kd ⟨c, k⟩ th p n d g z).place = H := ⟨_, rfl⟩
    obtain ⟨N, hN⟩ : ∃ N, (p == 0 && (decide (n.toList = []) && !d)) = N := ⟨_, rfl⟩
    have hG := HG.out E hE H hH N hN
    have HE : Hid ((decide (g.toList = []) && z == 0) = E) := hE
    have HH : Hid ((Ob.mk kd ⟨c, k⟩ th p n d g z).place = H) := hH
    have HN : Hid ((p == 0 && (decide (n.toList = []) && !d)) = N) := hN
    replace hG : Hid _ := hG
    clear hE hH hN HG
    go_enter Tryd.func20, Tryd.ntmps20
    go_upto_region 5 with (first
      | (go_at_call 34; refine (HC.out _).mono ?_; rintro e w1 ⟨rfl, k1⟩; have HW : Hid (w1.heap[w.heap.size]? = some (.cells (Ob.mk kd ⟨c, k⟩ th p n d g z).cs 38 (0, 0)) ∧ Below w.heap.size w w1) := ⟨kept_block (heap_alloc_new _ _) k1, below_alloc_call k1⟩; obtain ⟨c0, c1, c2, c3, c4, c5, c6, c7, c8⟩ := cells9 HW.out.1; clear k1)
      | (go_at_call 35; refine (HMt.out _).mono ?_; rintro e w1 ⟨rfl, rfl⟩))
    go_cut [5] (fun v wx => v = .bool E ∧ wx = w1)
    case first =>
      have HE := HE.out
      by_cases hg : g.toList = []
      · rw [decide_eq_true hg, Bool.true_and] at HE
        subst HE
        go_wp2
        go_meet
        exact ⟨rfl, rfl⟩
      · rw [decide_eq_false hg, Bool.false_and] at HE
        subst HE
        go_wp2
        go_meet
        exact ⟨rfl, rfl⟩
    case rest =>
      obtain ⟨rfl, rfl⟩ := hcut
      clear HE
      go_upto_region 6 with fail
      go_cut [6] (fun v wx => v = .bool H ∧ wx = wc)
      case first =>
        rcases place_cases p th n H HH.out with ⟨h1, h2, rfl⟩ | ⟨h1 | ⟨h1, h2⟩, ⟨h3, rfl⟩ | ⟨h3, ⟨h4, rfl⟩ | ⟨h4, rfl⟩⟩⟩
        all_goals (
          first | rw [h2] at HMp | skip
          first | clear h2 | skip
          clear HH hG HN
          go_wp2_with (go_at_call 35; refine (HMp.out _).mono ?_; rintro e wc ⟨rfl, rfl⟩)
          go_meet
          first | exact ⟨rfl, rfl⟩ | exact ⟨by simp [h4], rfl⟩)
      case rest =>
        obtain ⟨rfl, rfl⟩ := hcut
        clear HH
        go_upto_region 7 with fail
        go_cut [7] (fun v wx => v = .bool N ∧ wx = wc)
        case first =>
          have HN := HN.out
          cases hp : (p == 0)
          · rw [hp, Bool.false_and] at HN
            subst HN
            go_wp2
            go_meet
            exact ⟨rfl, rfl⟩
          · rw [hp, Bool.true_and] at HN
            by_cases hn : n.toList = []
            · rw [decide_eq_true hn, Bool.true_and] at HN
              subst HN
              go_wp2
              go_meet
              exact ⟨rfl, rfl⟩
            · rw [decide_eq_false hn, Bool.false_and] at HN
              subst HN
              go_wp2
              go_meet
              exact ⟨rfl, rfl⟩
        case rest =>
          obtain ⟨rfl, rfl⟩ := hcut
          clear HN
          replace hG := hG.out
          generalize (Tm.mk c k).thing = t at HT hG
          by_cases k1 : kd = 1
          · rw [if_pos k1] at hG
            subst k1
            have c3' := cell_regrown c3
            cases m
            · rw [Bool.false_and, Bool.false_and, Bool.false_and] at hG
              subst hG
              go_wp2_with fail
              refine QuietCalls.region (by kernel_rfl) (by kernel_rfl) ?_
              first | go_big_quiet_step (fail) | quiet_step (fail)
              first | go_big_quiet_step (fail) | quiet_step (fail)
              first | go_big_quiet_step (fail) | quiet_step (fail)
              first | go_big_quiet_step (fail) | quiet_step (fail)
              first | go_big_quiet_step (fail) | quiet_step (fail)
              first | go_big_quiet_step (fail) | quiet_step (fail)
              first | go_big_quiet_step (fail) | quiet_step (fail)
              first | go_big_quiet_step (fail) | quiet_step (fail)
              first | go_big_quiet_step (fail) | quiet_step (fail)
              first | go_big_quiet_step (fail) | quiet_step (fail)
              first | go_big_quiet_step (fail) | quiet_step (fail)
              first | go_big_quiet_step (fail) | quiet_step (fail)
              first | go_big_quiet_step (fail) | quiet_step (fail)
              first | go_big_quiet_step (fail) | quiet_step (fail)
              first | go_big_quiet_step (fail) | quiet_step (fail)
              first | go_big_quiet_step (fail) | quiet_step (fail)
              refine wpQuiet_nil ?_
              intro w2 k2
              go_wp2_with fail
              go_ret
              exact ⟨rfl, HW.out.2.trans (k2.mono HW.out.2.size)⟩
            cases E
            · rw [Bool.and_false, Bool.false_and, Bool.false_and] at hG
              subst hG
              go_wp2_with fail
              refine QuietCalls.region (by kernel_rfl) (by kernel_rfl) ?_
              first | go_big_quiet_step (fail) | quiet_step (fail)
              first | go_big_quiet_step (fail) | quiet_step (fail)
              first | go_big_quiet_step (fail) | quiet_step (fail)
              first | go_big_quiet_step (fail) | quiet_step (fail)
              first | go_big_quiet_step (fail) | quiet_step (fail)
              first | go_big_quiet_step (fail) | quiet_step (fail)
              first | go_big_quiet_step (fail) | quiet_step (fail)
              first | go_big_quiet_step (fail) | quiet_step (fail)
              first | go_big_quiet_step (fail) | quiet_step (fail)
              first | go_big_quiet_step (fail) | quiet_step (fail)
              first | go_big_quiet_step (fail) | quiet_step (fail)
              first | go_big_quiet_step (fail) | quiet_step (fail)
              first | go_big_quiet_step (fail) | quiet_step (fail)
              first | go_big_quiet_step (fail) | quiet_step (fail)
              first | go_big_quiet_step (fail) | quiet_step (fail)
              first | go_big_quiet_step (fail) | quiet_step (fail)
              refine wpQuiet_nil ?_
              intro w2 k2
              go_wp2_with fail
              go_ret
              exact ⟨rfl, HW.out.2.trans (k2.mono HW.out.2.size)⟩
            cases H
            · rw [Bool.and_false, Bool.false_and] at hG
              subst hG
              go_wp2_with fail
              refine QuietCalls.region (by kernel_rfl) (by kernel_rfl) ?_
              first | go_big_quiet_step (fail) | quiet_step (fail)
              first | go_big_quiet_step (fail) | quiet_step (fail)
              first | go_big_quiet_step (fail) | quiet_step (fail)
              first | go_big_quiet_step (fail) | quiet_step (fail)
              first | go_big_quiet_step (fail) | quiet_step (fail)
              first | go_big_quiet_step (fail) | quiet_step (fail)
              first | go_big_quiet_step (fail) | quiet_step (fail)
              first | go_big_quiet_step (fail) | quiet_step (fail)
              first | go_big_quiet_step (fail) | quiet_step (fail)
              first | go_big_quiet_step (fail) | quiet_step (fail)
              first | go_big_quiet_step (fail) | quiet_step (fail)
              first | go_big_quiet_step (fail) | quiet_step (fail)
              first | go_big_quiet_step (fail) | quiet_step (fail)
              first | go_big_quiet_step (fail) | quiet_step (fail)
              first | go_big_quiet_step (fail) | quiet_step (fail)
              first | go_big_quiet_step (fail) | quiet_step (fail)
              refine wpQuiet_nil ?_
              intro w2 k2
              go_wp2_with fail
              go_ret
              exact ⟨rfl, HW.out.2.trans (k2.mono HW.out.2.size)⟩
            rw [Bool.true_and, Bool.true_and, Bool.true_and] at hG
            by_cases ht : th = t
            · rw [beq_iff_eq.2 ht] at hG
              replace ht : (th == t) = true := beq_iff_eq.2 ht
              subst hG
              go_wp2_with fail
              refine QuietCalls.region (by kernel_rfl) (by kernel_rfl) ?_
              first | go_big_quiet_step (fail) | quiet_step (fail)
              first | go_big_quiet_step (fail) | quiet_step (fail)
              first | go_big_quiet_step (fail) | quiet_step (fail)
              first | go_big_quiet_step (fail) | quiet_step (fail)
              first | go_big_quiet_step (fail) | quiet_step (fail)
              first | go_big_quiet_step (fail) | quiet_step (fail)
              first | go_big_quiet_step (fail) | quiet_step (fail)
              first | go_big_quiet_step (fail) | quiet_step (fail)
              first | go_big_quiet_step (fail) | quiet_step (fail)
              first | go_big_quiet_step (fail) | quiet_step (fail)
              first | go_big_quiet_step (fail) | quiet_step (fail)
              refine QuietCalls.loadMid rfl 36 _ rfl _ _ rfl [.int .u64 c, .int .i64 k] _ (fun w k => range_tm (kept_block HW.out.1 k)) Tryd.underlying36 rfl info27 ?_; simp only [Act.put, List.setIfInBounds_toArray, List.set_cons_succ, List.set_cons_zero]
              refine QuietCalls.call1 rfl rfl Tryd.call36 (fun w _ => HT.out w) rfl ?_; simp only [Act.put, List.setIfInBounds_toArray, List.set_cons_succ, List.set_cons_zero]
              first | go_big_quiet_step (fail) | quiet_step (fail)
              first | go_big_quiet_step (fail) | quiet_step (fail)
              first | go_big_quiet_step (fail) | quiet_step (fail)
              refine wpQuiet_nil ?_
              intro w2 k2
              go_wp2_with fail
              go_ret
              exact ⟨rfl, HW.out.2.trans (k2.mono HW.out.2.size)⟩
            · rw [beq_eq_false_iff_ne.2 ht] at hG
              replace ht : (th == t) = false := beq_eq_false_iff_ne.2 ht
              subst hG
              go_wp2_with fail
              refine QuietCalls.region (by kernel_rfl) (by kernel_rfl) ?_
              first | go_big_quiet_step (fail) | quiet_step (fail)
              first | go_big_quiet_step (fail) | quiet_step (fail)
              first | go_big_quiet_step (fail) | quiet_step (fail)
              first | go_big_quiet_step (fail) | quiet_step (fail)
              first | go_big_quiet_step (fail) | quiet_step (fail)
              first | go_big_quiet_step (fail) | quiet_step (fail)
              first | go_big_quiet_step (fail) | quiet_step (fail)
              first | go_big_quiet_step (fail) | quiet_step (fail)
              first | go_big_quiet_step (fail) | quiet_step (fail)
              first | go_big_quiet_step (fail) | quiet_step (fail)
              first | go_big_quiet_step (fail) | quiet_step (fail)
              refine QuietCalls.loadMid rfl 36 _ rfl _ _ rfl [.int .u64 c, .int .i64 k] _ (fun w k => range_tm (kept_block HW.out.1 k)) Tryd.underlying36 rfl info27 ?_; simp only [Act.put, List.setIfInBounds_toArray, List.set_cons_succ, List.set_cons_zero]
              refine QuietCalls.call1 rfl rfl Tryd.call36 (fun w _ => HT.out w) rfl ?_; simp only [Act.put, List.setIfInBounds_toArray, List.set_cons_succ, List.set_cons_zero]
              first | go_big_quiet_step (fail) | quiet_step (fail)
              first | go_big_quiet_step (fail) | quiet_step (fail)
              first | go_big_quiet_step (fail) | quiet_step (fail)
              refine wpQuiet_nil ?_
              intro w2 k2
              go_wp2_with fail
              go_ret
              exact ⟨rfl, HW.out.2.trans (k2.mono HW.out.2.size)⟩
          rw [if_neg k1] at hG
          replace k1 : (kd == 1) = false := beq_eq_false_iff_ne.2 k1
          by_cases k2 : kd = 2
          · rw [if_pos k2] at hG
            subst k2
            subst hG
            cases m <;> cases E <;> cases H <;> cases d
            all_goals (
              go_wp2_with fail
              go_ret
              exact ⟨rfl, HW.out.2⟩)
          rw [if_neg k2] at hG
          replace k2 : (kd == 2) = false := beq_eq_false_iff_ne.2 k2
          by_cases k3 : kd = 3
          · rw [if_pos k3] at hG
            subst k3
            subst hG
            cases m <;> cases E <;> cases N
            all_goals (
              go_wp2_with fail
              go_ret
              exact ⟨rfl, HW.out.2⟩)
          rw [if_neg k3] at hG
          replace k3 : (kd == 3) = false := beq_eq_false_iff_ne.2 k3
          by_cases k4 : kd = 4
          · rw [if_pos k4] at hG
            subst k4
            obtain ⟨F, hF⟩ : ∃ F, (g.size == 32 && decide (0 ≤ z) && decide (z ≤ 8192)) = F := ⟨_, rfl⟩
            replace hG : G = (m && N && F) := by rw [← hF]; exact hG
            subst hG
            rcases fill_cases g z F hF with ⟨h1, rfl⟩ | ⟨h1, ⟨h2, rfl⟩ | ⟨h2, h3⟩⟩
            · clear hF
              cases m <;> cases N
              all_goals (
                go_wp2_with fail
                go_ret
                exact ⟨rfl, HW.out.2⟩)
            · clear hF
              cases m <;> cases N
              all_goals (
                go_wp2_with fail
                go_ret
                exact ⟨rfl, HW.out.2⟩)
            · clear hF
              cases F <;> cases m <;> cases N
              all_goals (
                go_wp2_with fail
                go_ret
                exact ⟨rfl, HW.out.2⟩)
          rw [if_neg k4] at hG
          replace k4 : (kd == 4) = false := beq_eq_false_iff_ne.2 k4
          subst hG
          go_wp2_with fail
          go_ret
          exact ⟨rfl, HW.out.2⟩
  · rw [Tm.chk_no hok] at HC
    rw [Ob.chk_no hok]
    clear hok
    obtain ⟨kd, ⟨c, k⟩, th, p, n, d, g, z⟩ := o
    dsimp only at HC HT ⊢
    go_enter Tryd.func20, Tryd.ntmps20
    go_wp2_with (go_at_call 34; refine (HC.out _).mono ?_; rintro e w1 ⟨rfl, k1⟩)
    go_ret
    exact ⟨rfl, below_alloc_call k1⟩
end Go.Proofs.YtcdmdpafkiljdaaDoor
/- Contracts: the digests of operations, the program's and the document's. -/
namespace Go.Opn
/-- The digest of bytes for the purpose O. -/
def tag (l : List UInt8) : ByteArray := ⟨(Sha.sum (Sha.parts 79 [l])).toArray⟩
end Go.Opn
namespace Go.Proofs.YtcdmdpafkiljdaaDoor
open Go.RowKit Go.Wire Go.Stamp Go.Opn
theorem one_reads (w : World) (x : ByteArray) (T : TypeId) : StrRow.Reads (w.alloc (.cells #[.string x] T)) (.slice (some ⟨w.heap.size, 0, none⟩) 1 1) [x] :=
  .inr ⟨w.heap.size, 0, 1, rfl, by simp, Nat.le_refl _, fun j s hj => by
    match j, hj with
    | 0, hj => cases hj; exact cell_of_row _ _ _ _ _ _ (heap_alloc_new _ _)⟩
theorem tagOne (x : ByteArray) (w : World) (hx : x.size ≤ 700) (hst : Steps w) :
    Calls Tryd.prog 14 #[.int .u8 79, .slice (some ⟨w.heap.size, 0, none⟩) 1 1] (w.alloc (.cells #[.string x] 9)) fun e w' => e = .returned (.string (tag x.data.toList)) ∧ Below (w.alloc (.cells #[.string x] 9)).heap.size (w.alloc (.cells #[.string x] 9)) w' :=
  tagged_any 79 _ [x] _ (one_reads w x 9) (by simp) (fun s hs => by rw [List.mem_singleton.1 hs]; omega) (hst.alloc _)
theorem rtagOne (x : ByteArray) (w : World) (hx : x.size ≤ 700) :
    Calls Tryd.prog 39 #[.int .u8 79, .slice (some ⟨w.heap.size, 0, none⟩) 1 1] (w.alloc (.cells #[.string x] 9)) fun e w' => e = .returned (.string (tag x.data.toList)) ∧ Below (w.alloc (.cells #[.string x] 9)).heap.size (w.alloc (.cells #[.string x] 9)) w' :=
  rtagged_any 79 _ [x] _ (one_reads w x 9) (by simp) (fun s hs => by rw [List.mem_singleton.1 hs]; omega)
theorem bytesB_size {o : Ob} (hg : o.Good) : o.bytesB.size ≤ 100 := by
  have := Ob.bytes_length (Ob.good_is hg)
  rw [size_list]
  simpa [Ob.bytesB] using this
theorem bytesB_list (o : Ob) : o.bytesB.data.toList = o.bytes := by simp [Ob.bytesB]
end Go.Proofs.YtcdmdpafkiljdaaDoor
