/- The walk of OpHashes. -/
import Derived.Test.YtdcgemaaohldmaaDoorOpHash
import Derived.Test.YtdcgemaaohldmaaDoorOpDecode
import Derived.Test.YtdcgemaaohldmaaDoorPureOp
namespace Go.Opn
theorem eqb_no {a b : Ob} (h : a ≠ b) : a.eqb b = false := by
  cases e : a.eqb b
  · rfl
  · exact absurd ((Ob.eqb_iff a b).1 e) h
theorem eqb_yes (a : Ob) : a.eqb a = true := (Ob.eqb_iff a a).2 rfl
theorem beq_no {x y : ByteArray} (h : x ≠ y) : (x.toList == y.toList) = false := by
  rw [beq_eq_false_iff_ne]
  exact fun e => h ((toList_iff x y).1 e)
theorem beq_yes (x : ByteArray) : (x.toList == x.toList) = true := by simp
/-- What Encode tells. -/
def encB (o : Ob) : ByteArray := if o.chk = 0 then o.bytesB else ⟨#[]⟩
theorem bytesB_inj {a b : Ob} (ha : a.tm.Ok) (ga : a.Good) (hb : b.tm.Ok) (gb : b.Good) (h : a.bytesB = b.bytesB) : a = b :=
  bytes_inj ha ga hb gb (by
    have := congrArg (fun x : ByteArray => x.data.toList) h
    simpa [Ob.bytesB] using this)
end Go.Opn
namespace Go.Proofs.YtdcgemaaohldmaaDoor
open Go.RowKit Go.Wire Go.Stamp Go.Opn
/-- Both operations, and the table. -/
structure HAt (S g : Nat) (a b : Ob) (w0 w : World) : Prop where
  ha : w.heap[g]? = some (.cells a.cs S (0, 0))
  hb : w.heap[g + 1]? = some (.cells b.cs S (0, 0))
  below : Below w0.heap.size w0 w
  steps : Steps w
theorem HAt.step {S g : Nat} {a b : Ob} {w0 w w' : World} (i : HAt S g a b w0 w) (k : Below w.heap.size w w') : HAt S g a b w0 w' :=
  ⟨kept_block i.ha k, kept_block i.hb k, i.below.trans (k.mono i.below.size), i.steps.below k i.steps.pos⟩
theorem HAt.start {S : Nat} {a b : Ob} {w w1 : World} (h : Steps w) (k : Below ((w.alloc (.cells a.cs S)).alloc (.cells b.cs S)).heap.size ((w.alloc (.cells a.cs S)).alloc (.cells b.cs S)) w1) : HAt S w.heap.size a b w w1 := by
  obtain ⟨h1, h2, h3⟩ := two_below k
  exact ⟨h1, h2, h3, h.below h3 h.pos⟩
theorem encode_any (o : Ob) (w : World) :
    Calls Tryd.prog 5 #[o.v] w fun e w' => e = .returned (.tuple #[.string (encB o), .int .i64 o.chk]) ∧ Below w.heap.size w w' := by
  unfold encB
  by_cases h : o.chk = 0
  · obtain ⟨hok, hg⟩ := Ob.chk_zero h
    rw [if_pos h, h]
    exact encode_ok o w hok hg
  · rw [if_neg h]
    exact encode_no o w h
set_option maxRecDepth 100000 in
set_option maxHeartbeats 2000000 in
theorem hashes_no (a b : Ob) (w : World) (h : a.chk ≠ 0 ∨ b.chk ≠ 0) (hst : Steps w) :
    Calls Tryd.prog 4 #[a.v, b.v] w fun e w' => e = .returned (.bool true) ∧ Below w.heap.size w w' := by
  have HEa : Hid (∀ w, Calls Tryd.prog 5 #[a.v] w fun e w' => e = .returned (.tuple #[.string (encB a), .int .i64 a.chk]) ∧ Below w.heap.size w w') := fun w => encode_any a w
  have HEb : Hid (∀ w, Calls Tryd.prog 5 #[b.v] w fun e w' => e = .returned (.tuple #[.string (encB b), .int .i64 b.chk]) ∧ Below w.heap.size w w') := fun w => encode_any b w
  have HS : Hid (Steps w) := hst
  clear hst
  generalize encB a = x at HEa
  generalize encB b = y at HEb
  generalize a.chk = r at HEa h
  generalize b.chk = t at HEb h
  obtain ⟨kd, ⟨c, k⟩, th, p, n, d, g, z⟩ := a
  obtain ⟨kd', ⟨c', k'⟩, th', p', n', d', g', z'⟩ := b
  unfold Ob.v at HEa HEb ⊢
  dsimp only at HEa HEb ⊢
  by_cases hr : r = 0
  · have ht : (t == 0) = false := beq_eq_false_iff_ne.2 (h.resolve_left (fun x => x hr))
    subst hr
    clear h
    go_enter Tryd.func4, Tryd.ntmps4
    go_wp2_with (first
      | (go_at_call 5; refine (HEa.out _).mono ?_; clear HEa; rintro e w1 ⟨rfl, k1⟩; have I : Hid (HAt 26 w.heap.size (Ob.mk kd ⟨c, k⟩ th p n d g z) (Ob.mk kd' ⟨c', k'⟩ th' p' n' d' g' z') w w1) := HAt.start HS.out k1; clear k1; obtain ⟨c0, c1, c2, c3, c4, c5, c6, c7, c8⟩ := cells9 I.out.hb)
      | (go_at_call 5; refine (HEb.out _).mono ?_; clear HEb; rintro e w2 ⟨rfl, k2⟩; replace I : Hid (HAt 26 w.heap.size (Ob.mk kd ⟨c, k⟩ th p n d g z) (Ob.mk kd' ⟨c', k'⟩ th' p' n' d' g' z') w w2) := I.out.step k2; clear k2 c0 c1 c2 c3 c4 c5 c6 c7 c8)
      | (go_at_call 8; refine (awakeOp_any _).mono ?_; rintro e w5 ⟨rfl, k5⟩))
    go_ret
    exact ⟨rfl, I.out.below.trans (k5.mono I.out.below.size)⟩
  · have hr0 : (r == 0) = false := beq_eq_false_iff_ne.2 hr
    clear h hr
    go_enter Tryd.func4, Tryd.ntmps4
    go_wp2_with (first
      | (go_at_call 5; refine (HEa.out _).mono ?_; clear HEa; rintro e w1 ⟨rfl, k1⟩; have I : Hid (HAt 26 w.heap.size (Ob.mk kd ⟨c, k⟩ th p n d g z) (Ob.mk kd' ⟨c', k'⟩ th' p' n' d' g' z') w w1) := HAt.start HS.out k1; clear k1; obtain ⟨c0, c1, c2, c3, c4, c5, c6, c7, c8⟩ := cells9 I.out.hb)
      | (go_at_call 5; refine (HEb.out _).mono ?_; clear HEb; rintro e w2 ⟨rfl, k2⟩; replace I : Hid (HAt 26 w.heap.size (Ob.mk kd ⟨c, k⟩ th p n d g z) (Ob.mk kd' ⟨c', k'⟩ th' p' n' d' g' z') w w2) := I.out.step k2; clear k2 c0 c1 c2 c3 c4 c5 c6 c7 c8)
      | (go_at_call 8; refine (awakeOp_any _).mono ?_; rintro e w5 ⟨rfl, k5⟩))
    go_ret
    exact ⟨rfl, I.out.below.trans (k5.mono I.out.below.size)⟩
set_option maxRecDepth 100000 in
set_option maxHeartbeats 4000000 in
theorem hashes_unlike (a b : Ob) (w : World) (ha : a.tm.Ok) (ga : a.Good) (hb : b.tm.Ok) (gb : b.Good) (hne : a.bytesB ≠ b.bytesB) (hst : Steps w) :
    Calls Tryd.prog 4 #[a.v, b.v] w fun e w' => e = .returned (.bool true) ∧ Below w.heap.size w w' := by
  have HEa : Hid (∀ w, Calls Tryd.prog 5 #[a.v] w fun e w' => e = .returned (.tuple #[.string a.bytesB, .int .i64 0]) ∧ Below w.heap.size w w') := fun w => encode_ok a w ha ga
  have HEb : Hid (∀ w, Calls Tryd.prog 5 #[b.v] w fun e w' => e = .returned (.tuple #[.string b.bytesB, .int .i64 0]) ∧ Below w.heap.size w w') := fun w => encode_ok b w hb gb
  have HTa : Hid (∀ w, Steps w → Calls Tryd.prog 20 #[.int .u8 79, .slice (some ⟨w.heap.size, 0, none⟩) 1 1] (w.alloc (.cells #[.string a.bytesB] 9)) fun e w' => e = .returned (.string (tag a.bytes)) ∧ Below (w.alloc (.cells #[.string a.bytesB] 9)).heap.size (w.alloc (.cells #[.string a.bytesB] 9)) w') := fun w h => by
    have := tagOne a.bytesB w (by have := bytesB_size ga; omega) h
    rwa [bytesB_list] at this
  have HTb : Hid (∀ w, Steps w → Calls Tryd.prog 20 #[.int .u8 79, .slice (some ⟨w.heap.size, 0, none⟩) 1 1] (w.alloc (.cells #[.string b.bytesB] 9)) fun e w' => e = .returned (.string (tag b.bytes)) ∧ Below (w.alloc (.cells #[.string b.bytesB] 9)).heap.size (w.alloc (.cells #[.string b.bytesB] 9)) w') := fun w h => by
    have := tagOne b.bytesB w (by have := bytesB_size gb; omega) h
    rwa [bytesB_list] at this
  have HHa : Hid (∀ w, Steps w → Calls Tryd.prog 18 #[a.v] w fun e w' => e = .returned (.string (tag a.bytes)) ∧ Below w.heap.size w w') := fun w h => hashOp_any a w ha ga h
  have HHb : Hid (∀ w, Steps w → Calls Tryd.prog 18 #[b.v] w fun e w' => e = .returned (.string (tag b.bytes)) ∧ Below w.heap.size w w') := fun w h => hashOp_any b w hb gb h
  have hab : a.eqb b = false := eqb_no (fun e => hne (by rw [e]))
  have hxy := beq_no hne
  have HS : Hid (Steps w) := hst
  clear hst ha ga hb gb hne
  generalize tag a.bytes = D at HTa HHa
  generalize tag b.bytes = D' at HTb HHb
  generalize a.bytesB = x at HEa HTa hxy
  generalize b.bytesB = y at HEb HTb hxy
  have HX : Hid ((x.toList == y.toList) = false) := hxy
  have hx1 : ¬ x.toList = y.toList := beq_eq_false_iff_ne.1 hxy
  obtain ⟨kd, ⟨c, k⟩, th, p, n, d, g, z⟩ := a
  obtain ⟨kd', ⟨c', k'⟩, th', p', n', d', g', z'⟩ := b
  have HB : Hid (((Ob.mk kd ⟨c, k⟩ th p n d g z)).eqb (Ob.mk kd' ⟨c', k'⟩ th' p' n' d' g' z') = false) := hab
  clear hab
  unfold Ob.v at HEa HEb HHa HHb ⊢
  dsimp only at HEa HEb HHa HHb ⊢
  by_cases hD : D = D'
  · subst hD
    clear HHa HHb
    go_enter Tryd.func4, Tryd.ntmps4
    go_wp2_with (first
      | (go_at_call 5; refine (HEa.out _).mono ?_; clear HEa; rintro e w1 ⟨rfl, k1⟩; have I : Hid (HAt 26 w.heap.size (Ob.mk kd ⟨c, k⟩ th p n d g z) (Ob.mk kd' ⟨c', k'⟩ th' p' n' d' g' z') w w1) := HAt.start HS.out k1; clear k1; obtain ⟨c0, c1, c2, c3, c4, c5, c6, c7, c8⟩ := cells9 I.out.hb)
      | (go_at_call 5; refine (HEb.out _).mono ?_; clear HEb; rintro e w2 ⟨rfl, k2⟩; replace I : Hid (HAt 26 w.heap.size (Ob.mk kd ⟨c, k⟩ th p n d g z) (Ob.mk kd' ⟨c', k'⟩ th' p' n' d' g' z') w w2) := I.out.step k2; clear k2 c0 c1 c2 c3 c4 c5 c6 c7 c8)
      | (go_at_call 20; refine (HTa.out w2 I.out.steps).mono ?_; clear HTa; rintro e w3 ⟨rfl, k3⟩; replace I : Hid (HAt 26 w.heap.size (Ob.mk kd ⟨c, k⟩ th p n d g z) (Ob.mk kd' ⟨c', k'⟩ th' p' n' d' g' z') w w3) := I.out.step (below_alloc_call k3); clear k3)
      | (go_at_call 20; refine (HTb.out w3 I.out.steps).mono ?_; clear HTb; rintro e w4 ⟨rfl, k4⟩; replace I : Hid (HAt 26 w.heap.size (Ob.mk kd ⟨c, k⟩ th p n d g z) (Ob.mk kd' ⟨c', k'⟩ th' p' n' d' g' z') w w4) := I.out.step (below_alloc_call k4); clear k4)
      | (go_at_call 8; refine (awakeOp_any _).mono ?_; rintro e w5 ⟨rfl, k5⟩))
    go_ret
    exact ⟨rfl, I.out.below.trans (k5.mono I.out.below.size)⟩
  · have HD : Hid ((D.toList == D'.toList) = false) := beq_no hD
    have hd1 : (D.toList == D'.toList) = false := beq_no hD
    clear hD
    go_enter Tryd.func4, Tryd.ntmps4
    go_wp2_with (first
      | (go_at_call 5; refine (HEa.out _).mono ?_; clear HEa; rintro e w1 ⟨rfl, k1⟩; have I : Hid (HAt 26 w.heap.size (Ob.mk kd ⟨c, k⟩ th p n d g z) (Ob.mk kd' ⟨c', k'⟩ th' p' n' d' g' z') w w1) := HAt.start HS.out k1; clear k1; obtain ⟨c0, c1, c2, c3, c4, c5, c6, c7, c8⟩ := cells9 I.out.hb)
      | (go_at_call 5; refine (HEb.out _).mono ?_; clear HEb; rintro e w2 ⟨rfl, k2⟩; replace I : Hid (HAt 26 w.heap.size (Ob.mk kd ⟨c, k⟩ th p n d g z) (Ob.mk kd' ⟨c', k'⟩ th' p' n' d' g' z') w w2) := I.out.step k2; clear k2 c0 c1 c2 c3 c4 c5 c6 c7 c8)
      | (go_at_call 20; refine (HTa.out w2 I.out.steps).mono ?_; clear HTa; rintro e w3 ⟨rfl, k3⟩; replace I : Hid (HAt 26 w.heap.size (Ob.mk kd ⟨c, k⟩ th p n d g z) (Ob.mk kd' ⟨c', k'⟩ th' p' n' d' g' z') w w3) := I.out.step (below_alloc_call k3); clear k3)
      | (go_at_call 20; refine (HTb.out w3 I.out.steps).mono ?_; clear HTb; rintro e w4 ⟨rfl, k4⟩; replace I : Hid (HAt 26 w.heap.size (Ob.mk kd ⟨c, k⟩ th p n d g z) (Ob.mk kd' ⟨c', k'⟩ th' p' n' d' g' z') w w4) := I.out.step (below_alloc_call k4); clear k4))
    refine QuietCalls.region (by kernel_rfl) (by kernel_rfl) ?_
    refine QuietCalls.call0 rfl rfl Tryd.call8 (fun w _ => awakeOp_any w) ?_; simp only [Act.put, List.setIfInBounds_toArray, List.set_cons_succ, List.set_cons_zero]
    refine QuietClass.move rfl rfl rfl ?_; simp only [Act.put, List.setIfInBounds_toArray, List.set_cons_succ, List.set_cons_zero]
    refine QuietClass.move rfl rfl rfl ?_; simp only [Act.put, List.setIfInBounds_toArray, List.set_cons_succ, List.set_cons_zero]
    refine QuietClass.move rfl rfl rfl ?_; simp only [Act.put, List.setIfInBounds_toArray, List.set_cons_succ, List.set_cons_zero]
    refine QuietClass.eqStrV rfl rfl rfl rfl HX.out ?_; simp only [Act.put, List.setIfInBounds_toArray, List.set_cons_succ, List.set_cons_zero]
    refine QuietCalls.load rfl 26 _ rfl _ rfl _ _ _ _ I.out.ha Tryd.underlying26 rfl infoOp ?_; simp only [Act.put, List.setIfInBounds_toArray, List.set_cons_succ, List.set_cons_zero]
    refine QuietCalls.load rfl 26 _ rfl _ rfl _ _ _ _ I.out.hb Tryd.underlying26 rfl infoOp ?_; simp only [Act.put, List.setIfInBounds_toArray, List.set_cons_succ, List.set_cons_zero]
    refine QuietCalls.hand rfl _ (fun w => (eql_op rfl (Ob.mk kd ⟨c, k⟩ th p n d g z) (Ob.mk kd' ⟨c', k'⟩ th' p' n' d' g' z') rfl rfl w).trans (by rw [HB.out])) ?_; simp only [Act.put, List.setIfInBounds_toArray, List.set_cons_succ, List.set_cons_zero]
    refine QuietClass.eqBool rfl rfl rfl rfl Tryd.underlying4 ?_; simp only [Act.put, List.setIfInBounds_toArray, List.set_cons_succ, List.set_cons_zero]
    refine QuietClass.pick rfl rfl rfl rfl ?_; simp only [Act.put, List.setIfInBounds_toArray, List.set_cons_succ, List.set_cons_zero]
    refine QuietClass.move rfl rfl rfl ?_; simp only [Act.put, List.setIfInBounds_toArray, List.set_cons_succ, List.set_cons_zero]
    refine QuietCalls.load rfl 26 _ rfl _ rfl _ _ _ _ I.out.ha Tryd.underlying26 rfl infoOp ?_; simp only [Act.put, List.setIfInBounds_toArray, List.set_cons_succ, List.set_cons_zero]
    refine QuietCalls.call1 rfl rfl Tryd.call18 (fun w k => HHa.out w (I.out.steps.below k I.out.steps.pos)) rfl ?_; simp only [Act.put, List.setIfInBounds_toArray, List.set_cons_succ, List.set_cons_zero]
    refine QuietCalls.load rfl 26 _ rfl _ rfl _ _ _ _ I.out.hb Tryd.underlying26 rfl infoOp ?_; simp only [Act.put, List.setIfInBounds_toArray, List.set_cons_succ, List.set_cons_zero]
    refine QuietCalls.call1 rfl rfl Tryd.call18 (fun w k => HHb.out w (I.out.steps.below k I.out.steps.pos)) rfl ?_; simp only [Act.put, List.setIfInBounds_toArray, List.set_cons_succ, List.set_cons_zero]
    refine QuietClass.eqStrV rfl rfl rfl rfl HD.out ?_; simp only [Act.put, List.setIfInBounds_toArray, List.set_cons_succ, List.set_cons_zero]
    refine QuietCalls.load rfl 26 _ rfl _ rfl _ _ _ _ I.out.ha Tryd.underlying26 rfl infoOp ?_; simp only [Act.put, List.setIfInBounds_toArray, List.set_cons_succ, List.set_cons_zero]
    refine QuietCalls.load rfl 26 _ rfl _ rfl _ _ _ _ I.out.hb Tryd.underlying26 rfl infoOp ?_; simp only [Act.put, List.setIfInBounds_toArray, List.set_cons_succ, List.set_cons_zero]
    refine QuietCalls.hand rfl _ (fun w => (eql_op rfl (Ob.mk kd ⟨c, k⟩ th p n d g z) (Ob.mk kd' ⟨c', k'⟩ th' p' n' d' g' z') rfl rfl w).trans (by rw [HB.out])) ?_; simp only [Act.put, List.setIfInBounds_toArray, List.set_cons_succ, List.set_cons_zero]
    refine QuietClass.eqBool rfl rfl rfl rfl Tryd.underlying4 ?_; simp only [Act.put, List.setIfInBounds_toArray, List.set_cons_succ, List.set_cons_zero]
    refine QuietClass.pick rfl rfl rfl rfl ?_; simp only [Act.put, List.setIfInBounds_toArray, List.set_cons_succ, List.set_cons_zero]
    refine QuietCalls.assign rfl rfl rfl ?_; simp only [Act.put, List.setIfInBounds_toArray, List.set_cons_succ, List.set_cons_zero]
    refine wpQuiet_nil ?_
    intro w6 k6
    go_wp2_with fail
    go_ret
    exact ⟨rfl, I.out.below.trans (k6.mono I.out.below.size)⟩
set_option maxRecDepth 100000 in
set_option maxHeartbeats 4000000 in
theorem hashes_same (a : Ob) (w : World) (ha : a.tm.Ok) (ga : a.Good) (hst : Steps w) :
    Calls Tryd.prog 4 #[a.v, a.v] w fun e w' => e = .returned (.bool true) ∧ Below w.heap.size w w' := by
  have HEa : Hid (∀ w, Calls Tryd.prog 5 #[a.v] w fun e w' => e = .returned (.tuple #[.string a.bytesB, .int .i64 0]) ∧ Below w.heap.size w w') := fun w => encode_ok a w ha ga
  have HEb := HEa
  have HHa : Hid (∀ w, Steps w → Calls Tryd.prog 18 #[a.v] w fun e w' => e = .returned (.string (tag a.bytes)) ∧ Below w.heap.size w w') := fun w h => hashOp_any a w ha ga h
  have HHb := HHa
  have HS : Hid (Steps w) := hst
  clear hst ha ga
  generalize tag a.bytes = D at HHa HHb
  generalize a.bytesB = x at HEa HEb
  obtain ⟨kd, ⟨c, k⟩, th, p, n, d, g, z⟩ := a
  unfold Ob.v at HEa HEb HHa HHb ⊢
  dsimp only at HEa HEb HHa HHb ⊢
  go_enter Tryd.func4, Tryd.ntmps4
  go_wp2_with (first
    | (go_at_call 5; refine (HEa.out _).mono ?_; clear HEa; rintro e w1 ⟨rfl, k1⟩; have I : Hid (HAt 26 w.heap.size (Ob.mk kd ⟨c, k⟩ th p n d g z) (Ob.mk kd ⟨c, k⟩ th p n d g z) w w1) := HAt.start HS.out k1; clear k1; obtain ⟨c0, c1, c2, c3, c4, c5, c6, c7, c8⟩ := cells9 I.out.hb)
    | (go_at_call 5; refine (HEb.out _).mono ?_; clear HEb; rintro e w2 ⟨rfl, k2⟩; replace I : Hid (HAt 26 w.heap.size (Ob.mk kd ⟨c, k⟩ th p n d g z) (Ob.mk kd ⟨c, k⟩ th p n d g z) w w2) := I.out.step k2; clear k2 c0 c1 c2 c3 c4 c5 c6 c7 c8))
  refine QuietCalls.region (by kernel_rfl) (by kernel_rfl) ?_
  refine QuietCalls.call0 rfl rfl Tryd.call8 (fun w _ => awakeOp_any w) ?_; simp only [Act.put, List.setIfInBounds_toArray, List.set_cons_succ, List.set_cons_zero]
  refine QuietClass.move rfl rfl rfl ?_; simp only [Act.put, List.setIfInBounds_toArray, List.set_cons_succ, List.set_cons_zero]
  refine QuietClass.move rfl rfl rfl ?_; simp only [Act.put, List.setIfInBounds_toArray, List.set_cons_succ, List.set_cons_zero]
  refine QuietClass.move rfl rfl rfl ?_; simp only [Act.put, List.setIfInBounds_toArray, List.set_cons_succ, List.set_cons_zero]
  refine QuietClass.eqStrV rfl rfl rfl rfl (beq_yes _) ?_; simp only [Act.put, List.setIfInBounds_toArray, List.set_cons_succ, List.set_cons_zero]
  refine QuietCalls.load rfl 26 _ rfl _ rfl _ _ _ _ I.out.ha Tryd.underlying26 rfl infoOp ?_; simp only [Act.put, List.setIfInBounds_toArray, List.set_cons_succ, List.set_cons_zero]
  refine QuietCalls.load rfl 26 _ rfl _ rfl _ _ _ _ I.out.hb Tryd.underlying26 rfl infoOp ?_; simp only [Act.put, List.setIfInBounds_toArray, List.set_cons_succ, List.set_cons_zero]
  refine QuietCalls.hand rfl _ (fun w => (eql_op rfl (Ob.mk kd ⟨c, k⟩ th p n d g z) (Ob.mk kd ⟨c, k⟩ th p n d g z) rfl rfl w).trans (by rw [eqb_yes])) ?_; simp only [Act.put, List.setIfInBounds_toArray, List.set_cons_succ, List.set_cons_zero]
  refine QuietClass.eqBool rfl rfl rfl rfl Tryd.underlying4 ?_; simp only [Act.put, List.setIfInBounds_toArray, List.set_cons_succ, List.set_cons_zero]
  refine QuietClass.pick rfl rfl rfl rfl ?_; simp only [Act.put, List.setIfInBounds_toArray, List.set_cons_succ, List.set_cons_zero]
  refine QuietClass.move rfl rfl rfl ?_; simp only [Act.put, List.setIfInBounds_toArray, List.set_cons_succ, List.set_cons_zero]
  refine QuietCalls.load rfl 26 _ rfl _ rfl _ _ _ _ I.out.ha Tryd.underlying26 rfl infoOp ?_; simp only [Act.put, List.setIfInBounds_toArray, List.set_cons_succ, List.set_cons_zero]
  refine QuietCalls.call1 rfl rfl Tryd.call18 (fun w k => HHa.out w (I.out.steps.below k I.out.steps.pos)) rfl ?_; simp only [Act.put, List.setIfInBounds_toArray, List.set_cons_succ, List.set_cons_zero]
  refine QuietCalls.load rfl 26 _ rfl _ rfl _ _ _ _ I.out.hb Tryd.underlying26 rfl infoOp ?_; simp only [Act.put, List.setIfInBounds_toArray, List.set_cons_succ, List.set_cons_zero]
  refine QuietCalls.call1 rfl rfl Tryd.call18 (fun w k => HHb.out w (I.out.steps.below k I.out.steps.pos)) rfl ?_; simp only [Act.put, List.setIfInBounds_toArray, List.set_cons_succ, List.set_cons_zero]
  refine QuietClass.eqStrV rfl rfl rfl rfl (beq_yes _) ?_; simp only [Act.put, List.setIfInBounds_toArray, List.set_cons_succ, List.set_cons_zero]
  refine QuietCalls.load rfl 26 _ rfl _ rfl _ _ _ _ I.out.ha Tryd.underlying26 rfl infoOp ?_; simp only [Act.put, List.setIfInBounds_toArray, List.set_cons_succ, List.set_cons_zero]
  refine QuietCalls.load rfl 26 _ rfl _ rfl _ _ _ _ I.out.hb Tryd.underlying26 rfl infoOp ?_; simp only [Act.put, List.setIfInBounds_toArray, List.set_cons_succ, List.set_cons_zero]
  refine QuietCalls.hand rfl _ (fun w => (eql_op rfl (Ob.mk kd ⟨c, k⟩ th p n d g z) (Ob.mk kd ⟨c, k⟩ th p n d g z) rfl rfl w).trans (by rw [eqb_yes])) ?_; simp only [Act.put, List.setIfInBounds_toArray, List.set_cons_succ, List.set_cons_zero]
  refine QuietClass.eqBool rfl rfl rfl rfl Tryd.underlying4 ?_; simp only [Act.put, List.setIfInBounds_toArray, List.set_cons_succ, List.set_cons_zero]
  refine QuietClass.pick rfl rfl rfl rfl ?_; simp only [Act.put, List.setIfInBounds_toArray, List.set_cons_succ, List.set_cons_zero]
  refine QuietCalls.assign rfl rfl rfl ?_; simp only [Act.put, List.setIfInBounds_toArray, List.set_cons_succ, List.set_cons_zero]
  refine wpQuiet_nil ?_
  intro w6 k6
  go_wp2_with fail
  go_ret
  exact ⟨rfl, I.out.below.trans (k6.mono I.out.below.size)⟩
theorem opHashes_any (a b : Ob) (w : World) (_ : a.Fits) (_ : b.Fits) (hst : Steps w) :
    Calls Tryd.prog 4 #[a.v, b.v] w fun e w' => e = .returned (.bool true) ∧ Below w.heap.size w w' := by
  by_cases h : a.chk = 0 ∧ b.chk = 0
  · obtain ⟨ha, ga⟩ := Ob.chk_zero h.1
    obtain ⟨hb, gb⟩ := Ob.chk_zero h.2
    by_cases e : a.bytesB = b.bytesB
    · obtain rfl := bytesB_inj ha ga hb gb e
      exact hashes_same a w ha ga hst
    · exact hashes_unlike a b w ha ga hb gb e hst
  · refine hashes_no a b w ?_ hst
    by_cases h1 : a.chk = 0
    · exact .inr fun h2 => h ⟨h1, h2⟩
    · exact .inl h1
end Go.Proofs.YtdcgemaaohldmaaDoor
