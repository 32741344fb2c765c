/- Several texts in one: NodePutAll. -/
import Derived.Test.YtcdmdpafkiljdaaDoorOpOne
import Derived.Test.YtcdmdpafkiljdaaDoorWireOut
/- Contracts: any operation put, whether it may be or not. -/
namespace Go.Proofs.YtcdmdpafkiljdaaDoor
open Go.RowKit Go.Wire Go.Stamp Go.Opn
set_option maxHeartbeats 400000 in
theorem putStamp_all (B : Nat) (v : Value) (l : List UInt8) (c : Nat) (k : Int) (kk : Nat) (w : World) (h : WAt 104 B v l w) (hl : v = .pointer none ∨ l.length + 32 ≤ 140737488355328) (hB : B ≤ w.heap.size) (hc : c < 18446744073709551616) (e1 : IntKind.u64.wrap k = kk) (hk : kk < 18446744073709551616) :
    Calls Tryd.prog 68 #[v, .agg #[.int .u64 c, .int .i64 k]] w fun e w' => e = .returned (.tuple #[]) ∧ WAt 104 B v (l ++ num 16 c ++ num 2 kk) w' ∧ Wrote B v w w' := by
  have H1 : Hid (∀ o, Calls Tryd.prog 47 #[v, .int .u64 c, .int .i64 8] (w.alloc o) fun e w' => e = .returned (.tuple #[]) ∧ WAt 104 B v (l ++ num 16 c) w' ∧ Wrote B v (w.alloc o) w') := fun o =>
    wnumber_sp B v l c 8 _ (h.below ((Below.refl _ _).alloc (Nat.le_refl _) _)) (hl.imp id fun x => by omega) (by simp; omega) hc
  have H2 : Hid (∀ w', WAt 104 B v (l ++ num 16 c) w' → B ≤ w'.heap.size → Calls Tryd.prog 47 #[v, .int .u64 kk, .int .i64 1] w' fun e w'' => e = .returned (.tuple #[]) ∧ WAt 104 B v (l ++ num 16 c ++ num 2 kk) w'' ∧ Wrote B v w' w'') := fun w' h' hB' =>
    wnumber_sp B v _ kk 1 w' h' (hl.imp id fun x => by rw [List.length_append, num_length]; omega) hB' hk
  have HA : Hid (∀ o, Wrote B v w (w.alloc o)) := fun o => Wrote.of ((Below.refl _ _).alloc (Nat.le_refl _) o) hB
  have HB : Hid (B ≤ w.heap.size) := hB
  have HV : Hid (v ≠ .pointer (some ⟨w.heap.size, 0, none⟩)) := wat_ne h (Nat.le_refl _)
  clear h hl hB
  go_enter Tryd.func68, Tryd.ntmps68
  go_wp2_with (first
    | (go_at_call_of 47 (Value.int IntKind.i64 8); refine (H1.out _).mono ?_; rintro e w1 ⟨rfl, h1, k1⟩; obtain ⟨c0, c1, c2, c3⟩ := cells2 (k1.row HV.out (by decide) (heap_alloc_new _ _)))
    | (go_at_call_of 47 (Value.int IntKind.i64 1); refine (H2.out _ h1 (Nat.le_trans HB.out (Nat.le_trans (by simp) k1.below.size))).mono ?_; rintro e w2 ⟨rfl, h2, k2⟩))
  go_end0
  exact ⟨rfl, h2, ((HA.out _).trans k1).trans k2⟩
set_option maxRecDepth 100000 in
set_option maxHeartbeats 1000000 in
theorem putOp_mk (c : Nat) (k : Int) (kk th p : Nat) (n : ByteArray) (d : Bool) (g : ByteArray) (z : Int) (B : Nat) (v : Value) (l : List UInt8) (w : World) (hc : c < 18446744073709551616) (hkk : IntKind.u64.wrap k = kk) (hk : kk < 18446744073709551616) (ht : th < 18446744073709551616) (hp : p < 18446744073709551616) (hn : n.size ≤ 2000000) (_ : z ≤ 9223372036854775807) (h : WAt 104 B v l w) (hl : l.length + 9000000 ≤ 140737488355328) (hB : B ≤ w.heap.size) :
    Calls Tryd.prog 49 #[v, (Ob.mk 1 ⟨c, k⟩ th p n d g z).v] w fun e w' => e = .returned (.tuple #[]) ∧ WAt 104 B v (l ++ (num 2 1 ++ num 16 c ++ num 2 kk ++ num 16 th ++ [letter d] ++ num 16 p ++ (num 8 n.size ++ n.data.toList))) w' ∧ Wrote B v w w' := by
  have hKD : 1 < 18446744073709551616 := by decide
  have el : l ++ (num 2 1 ++ num 16 c ++ num 2 kk ++ num 16 th ++ [letter d] ++ num 16 p ++ (num 8 n.size ++ n.data.toList)) = l ++ num 2 1 ++ num 16 c ++ num 2 kk ++ num 16 th ++ [letter d] ++ num 16 p ++ (num 8 n.size ++ n.data.toList) := by simp only [List.append_assoc]
  rw [el]
  clear el
  have I : Hid (PutAt 104 27 B w.heap.size v (Ob.mk 1 ⟨c, k⟩ th p n d g z) w l (w.alloc (.cells (Ob.mk 1 ⟨c, k⟩ th p n d g z).cs 27))) :=
    ⟨h.below ((Below.refl _ _).alloc (Nat.le_refl _) _), heap_alloc_new _ _, by simp; omega, Wrote.of ((Below.refl _ _).alloc (Nat.le_refl _) _) hB⟩
  have HV : v ≠ .pointer (some ⟨w.heap.size, 0, none⟩) := wat_ne h (Nat.le_refl _)
  have HN1 : Hid (∀ (m : Nat) (L : List UInt8) (w1 : World), PutAt 104 27 B w.heap.size v (Ob.mk 1 ⟨c, k⟩ th p n d g z) w L w1 → L.length ≤ l.length + 3000000 → m < 18446744073709551616 → Calls Tryd.prog 47 #[v, .int .u64 m, .int .i64 1] w1 fun e w' => e = .returned (.tuple #[]) ∧ PutAt 104 27 B w.heap.size v (Ob.mk 1 ⟨c, k⟩ th p n d g z) w (L ++ num 2 m) w') := fun m L w1 j hL hm =>
    (wnumber_sp B v L m 1 w1 j.hw (.inr (by omega)) j.hB hm).mono fun e w' ⟨a, b, c⟩ => ⟨a, j.step HV (by decide) b c⟩
  have HN8 : Hid (∀ (m : Nat) (L : List UInt8) (w1 : World), PutAt 104 27 B w.heap.size v (Ob.mk 1 ⟨c, k⟩ th p n d g z) w L w1 → L.length ≤ l.length + 3000000 → m < 18446744073709551616 → Calls Tryd.prog 47 #[v, .int .u64 m, .int .i64 8] w1 fun e w' => e = .returned (.tuple #[]) ∧ PutAt 104 27 B w.heap.size v (Ob.mk 1 ⟨c, k⟩ th p n d g z) w (L ++ num 16 m) w') := fun m L w1 j hL hm =>
    (wnumber_sp B v L m 8 w1 j.hw (.inr (by omega)) j.hB hm).mono fun e w' ⟨a, b, c⟩ => ⟨a, j.step HV (by decide) b c⟩
  have HP : Hid (∀ (L : List UInt8) (w1 : World), PutAt 104 27 B w.heap.size v (Ob.mk 1 ⟨c, k⟩ th p n d g z) w L w1 → L.length ≤ l.length + 3000000 → Calls Tryd.prog 68 #[v, .agg #[.int .u64 c, .int .i64 k]] w1 fun e w' => e = .returned (.tuple #[]) ∧ PutAt 104 27 B w.heap.size v (Ob.mk 1 ⟨c, k⟩ th p n d g z) w (L ++ num 16 c ++ num 2 kk) w') := fun L w1 j hL =>
    (putStamp_all B v L c k kk w1 j.hw (.inr (by omega)) j.hB hc hkk hk).mono fun e w' ⟨a, b, d⟩ => ⟨a, j.step HV (by decide) b d⟩
  have HBo : Hid (∀ (x : Bool) (L : List UInt8) (w1 : World), PutAt 104 27 B w.heap.size v (Ob.mk 1 ⟨c, k⟩ th p n d g z) w L w1 → L.length ≤ l.length + 3000000 → Calls Tryd.prog 69 #[v, .bool x] w1 fun e w' => e = .returned (.tuple #[]) ∧ PutAt 104 27 B w.heap.size v (Ob.mk 1 ⟨c, k⟩ th p n d g z) w (L ++ [letter x]) w') := fun x L w1 j hL =>
    (wbool_sp B v L x w1 j.hw (.inr (by omega)) j.hB).mono fun e w' ⟨a, b, c⟩ => ⟨a, j.step HV (by decide) b c⟩
  have HTx : Hid (∀ (x : ByteArray) (L : List UInt8) (w1 : World), PutAt 104 27 B w.heap.size v (Ob.mk 1 ⟨c, k⟩ th p n d g z) w L w1 → L.length ≤ l.length + 3000000 → x.size ≤ 2000000 → Calls Tryd.prog 70 #[v, .string x] w1 fun e w' => e = .returned (.tuple #[]) ∧ PutAt 104 27 B w.heap.size v (Ob.mk 1 ⟨c, k⟩ th p n d g z) w (L ++ (num 8 x.size ++ x.data.toList)) w') := fun x L w1 j hL hx =>
    (wtext_sp B v L x w1 j.hw (.inr (by omega)) j.hB (by unfold maxLen; omega)).mono fun e w' ⟨a, b, c⟩ => ⟨a, j.step HV (by decide) b c⟩
  have HHa : Hid (∀ (x : ByteArray) (L : List UInt8) (w1 : World), PutAt 104 27 B w.heap.size v (Ob.mk 1 ⟨c, k⟩ th p n d g z) w L w1 → L.length ≤ l.length + 3000000 → Calls Tryd.prog 48 #[v, .string x] w1 fun e w' => e = .returned (.tuple #[]) ∧ PutAt 104 27 B w.heap.size v (Ob.mk 1 ⟨c, k⟩ th p n d g z) w (L ++ pad x.data.toList) w') := fun x L w1 j hL =>
    (whash_sp B v L x w1 j.hw (.inr (by omega)) j.hB).mono fun e w' ⟨a, b, c⟩ => ⟨a, j.step HV (by decide) b c⟩
  have HCo : Hid (∀ (m : Int) (L : List UInt8) (w1 : World), PutAt 104 27 B w.heap.size v (Ob.mk 1 ⟨c, k⟩ th p n d g z) w L w1 → L.length ≤ l.length + 3000000 → m ≤ 9223372036854775807 → Calls Tryd.prog 71 #[v, .int .i64 m] w1 fun e w' => e = .returned (.tuple #[]) ∧ PutAt 104 27 B w.heap.size v (Ob.mk 1 ⟨c, k⟩ th p n d g z) w (L ++ num 8 (max m 0).toNat) w') := fun m L w1 j hL hm =>
    (wcount_sp B v L m w1 j.hw (.inr (by omega)) j.hB hm).mono fun e w' ⟨a, b, c⟩ => ⟨a, j.step HV (by decide) b c⟩
  clear h hB HV
  unfold Ob.v
  dsimp only
  go_enter Tryd.func49, Tryd.ntmps49
  go_wp2_with (first
    | (go_at_call_of 47 (Value.int IntKind.i64 1); refine (HN1.out 1 _ _ I.out (by omega) hKD).mono ?_; rintro e w1 ⟨rfl, i⟩; replace I : Hid _ := i; clear i; obtain ⟨c0, c1, c2, c3, c4, c5, c6, c7, c8⟩ := cells9 I.out.ho)
    | (go_at_call 68; refine (HP.out _ _ I.out (by simp only [List.length_append, num_length]; omega)).mono ?_; rintro e w1 ⟨rfl, i⟩; replace I : Hid _ := i; clear i c0 c1 c2 c3 c4 c5 c6 c7 c8; obtain ⟨c0, c1, c2, c3, c4, c5, c6, c7, c8⟩ := cells9 I.out.ho)
    | (go_at_call_of 47 (Value.int IntKind.u64 (th : Int)); refine (HN8.out th _ _ I.out (by simp only [List.length_append, num_length]; omega) ht).mono ?_; rintro e w1 ⟨rfl, i⟩; replace I : Hid _ := i; clear i c0 c1 c2 c3 c4 c5 c6 c7 c8; obtain ⟨c0, c1, c2, c3, c4, c5, c6, c7, c8⟩ := cells9 I.out.ho)
    | (go_at_call 69; refine (HBo.out d _ _ I.out (by simp only [List.length_append, num_length]; omega)).mono ?_; rintro e w1 ⟨rfl, i⟩; replace I : Hid _ := i; clear i c0 c1 c2 c3 c4 c5 c6 c7 c8; obtain ⟨c0, c1, c2, c3, c4, c5, c6, c7, c8⟩ := cells9 I.out.ho)
    | (go_at_call_of 47 (Value.int IntKind.u64 (p : Int)); refine (HN8.out p _ _ I.out (by simp only [List.length_append, num_length, List.length_singleton]; omega) hp).mono ?_; rintro e w1 ⟨rfl, i⟩; replace I : Hid _ := i; clear i c0 c1 c2 c3 c4 c5 c6 c7 c8; obtain ⟨c0, c1, c2, c3, c4, c5, c6, c7, c8⟩ := cells9 I.out.ho)
    | (go_at_call 70; refine (HTx.out n _ _ I.out (by simp only [List.length_append, num_length, List.length_singleton]; omega) hn).mono ?_; rintro e w1 ⟨rfl, i⟩; replace I : Hid _ := i; clear i c0 c1 c2 c3 c4 c5 c6 c7 c8; obtain ⟨c0, c1, c2, c3, c4, c5, c6, c7, c8⟩ := cells9 I.out.ho))
  go_end0
  exact ⟨rfl, I.out.hw, I.out.wrote⟩
set_option maxRecDepth 100000 in
set_option maxHeartbeats 1000000 in
theorem putOp_mv (c : Nat) (k : Int) (kk th p : Nat) (n : ByteArray) (d : Bool) (g : ByteArray) (z : Int) (B : Nat) (v : Value) (l : List UInt8) (w : World) (hc : c < 18446744073709551616) (hkk : IntKind.u64.wrap k = kk) (hk : kk < 18446744073709551616) (ht : th < 18446744073709551616) (hp : p < 18446744073709551616) (hn : n.size ≤ 2000000) (_ : z ≤ 9223372036854775807) (h : WAt 104 B v l w) (hl : l.length + 9000000 ≤ 140737488355328) (hB : B ≤ w.heap.size) :
    Calls Tryd.prog 49 #[v, (Ob.mk 2 ⟨c, k⟩ th p n d g z).v] w fun e w' => e = .returned (.tuple #[]) ∧ WAt 104 B v (l ++ (num 2 2 ++ num 16 c ++ num 2 kk ++ num 16 th ++ num 16 p ++ (num 8 n.size ++ n.data.toList))) w' ∧ Wrote B v w w' := by
  have hKD : 2 < 18446744073709551616 := by decide
  have el : l ++ (num 2 2 ++ num 16 c ++ num 2 kk ++ num 16 th ++ num 16 p ++ (num 8 n.size ++ n.data.toList)) = l ++ num 2 2 ++ num 16 c ++ num 2 kk ++ num 16 th ++ num 16 p ++ (num 8 n.size ++ n.data.toList) := by simp only [List.append_assoc]
  rw [el]
  clear el
  have I : Hid (PutAt 104 27 B w.heap.size v (Ob.mk 2 ⟨c, k⟩ th p n d g z) w l (w.alloc (.cells (Ob.mk 2 ⟨c, k⟩ th p n d g z).cs 27))) :=
    ⟨h.below ((Below.refl _ _).alloc (Nat.le_refl _) _), heap_alloc_new _ _, by simp; omega, Wrote.of ((Below.refl _ _).alloc (Nat.le_refl _) _) hB⟩
  have HV : v ≠ .pointer (some ⟨w.heap.size, 0, none⟩) := wat_ne h (Nat.le_refl _)
  have HN1 : Hid (∀ (m : Nat) (L : List UInt8) (w1 : World), PutAt 104 27 B w.heap.size v (Ob.mk 2 ⟨c, k⟩ th p n d g z) w L w1 → L.length ≤ l.length + 3000000 → m < 18446744073709551616 → Calls Tryd.prog 47 #[v, .int .u64 m, .int .i64 1] w1 fun e w' => e = .returned (.tuple #[]) ∧ PutAt 104 27 B w.heap.size v (Ob.mk 2 ⟨c, k⟩ th p n d g z) w (L ++ num 2 m) w') := fun m L w1 j hL hm =>
    (wnumber_sp B v L m 1 w1 j.hw (.inr (by omega)) j.hB hm).mono fun e w' ⟨a, b, c⟩ => ⟨a, j.step HV (by decide) b c⟩
  have HN8 : Hid (∀ (m : Nat) (L : List UInt8) (w1 : World), PutAt 104 27 B w.heap.size v (Ob.mk 2 ⟨c, k⟩ th p n d g z) w L w1 → L.length ≤ l.length + 3000000 → m < 18446744073709551616 → Calls Tryd.prog 47 #[v, .int .u64 m, .int .i64 8] w1 fun e w' => e = .returned (.tuple #[]) ∧ PutAt 104 27 B w.heap.size v (Ob.mk 2 ⟨c, k⟩ th p n d g z) w (L ++ num 16 m) w') := fun m L w1 j hL hm =>
    (wnumber_sp B v L m 8 w1 j.hw (.inr (by omega)) j.hB hm).mono fun e w' ⟨a, b, c⟩ => ⟨a, j.step HV (by decide) b c⟩
  have HP : Hid (∀ (L : List UInt8) (w1 : World), PutAt 104 27 B w.heap.size v (Ob.mk 2 ⟨c, k⟩ th p n d g z) w L w1 → L.length ≤ l.length + 3000000 → Calls Tryd.prog 68 #[v, .agg #[.int .u64 c, .int .i64 k]] w1 fun e w' => e = .returned (.tuple #[]) ∧ PutAt 104 27 B w.heap.size v (Ob.mk 2 ⟨c, k⟩ th p n d g z) w (L ++ num 16 c ++ num 2 kk) w') := fun L w1 j hL =>
    (putStamp_all B v L c k kk w1 j.hw (.inr (by omega)) j.hB hc hkk hk).mono fun e w' ⟨a, b, d⟩ => ⟨a, j.step HV (by decide) b d⟩
  have HBo : Hid (∀ (x : Bool) (L : List UInt8) (w1 : World), PutAt 104 27 B w.heap.size v (Ob.mk 2 ⟨c, k⟩ th p n d g z) w L w1 → L.length ≤ l.length + 3000000 → Calls Tryd.prog 69 #[v, .bool x] w1 fun e w' => e = .returned (.tuple #[]) ∧ PutAt 104 27 B w.heap.size v (Ob.mk 2 ⟨c, k⟩ th p n d g z) w (L ++ [letter x]) w') := fun x L w1 j hL =>
    (wbool_sp B v L x w1 j.hw (.inr (by omega)) j.hB).mono fun e w' ⟨a, b, c⟩ => ⟨a, j.step HV (by decide) b c⟩
  have HTx : Hid (∀ (x : ByteArray) (L : List UInt8) (w1 : World), PutAt 104 27 B w.heap.size v (Ob.mk 2 ⟨c, k⟩ th p n d g z) w L w1 → L.length ≤ l.length + 3000000 → x.size ≤ 2000000 → Calls Tryd.prog 70 #[v, .string x] w1 fun e w' => e = .returned (.tuple #[]) ∧ PutAt 104 27 B w.heap.size v (Ob.mk 2 ⟨c, k⟩ th p n d g z) w (L ++ (num 8 x.size ++ x.data.toList)) w') := fun x L w1 j hL hx =>
    (wtext_sp B v L x w1 j.hw (.inr (by omega)) j.hB (by unfold maxLen; omega)).mono fun e w' ⟨a, b, c⟩ => ⟨a, j.step HV (by decide) b c⟩
  have HHa : Hid (∀ (x : ByteArray) (L : List UInt8) (w1 : World), PutAt 104 27 B w.heap.size v (Ob.mk 2 ⟨c, k⟩ th p n d g z) w L w1 → L.length ≤ l.length + 3000000 → Calls Tryd.prog 48 #[v, .string x] w1 fun e w' => e = .returned (.tuple #[]) ∧ PutAt 104 27 B w.heap.size v (Ob.mk 2 ⟨c, k⟩ th p n d g z) w (L ++ pad x.data.toList) w') := fun x L w1 j hL =>
    (whash_sp B v L x w1 j.hw (.inr (by omega)) j.hB).mono fun e w' ⟨a, b, c⟩ => ⟨a, j.step HV (by decide) b c⟩
  have HCo : Hid (∀ (m : Int) (L : List UInt8) (w1 : World), PutAt 104 27 B w.heap.size v (Ob.mk 2 ⟨c, k⟩ th p n d g z) w L w1 → L.length ≤ l.length + 3000000 → m ≤ 9223372036854775807 → Calls Tryd.prog 71 #[v, .int .i64 m] w1 fun e w' => e = .returned (.tuple #[]) ∧ PutAt 104 27 B w.heap.size v (Ob.mk 2 ⟨c, k⟩ th p n d g z) w (L ++ num 8 (max m 0).toNat) w') := fun m L w1 j hL hm =>
    (wcount_sp B v L m w1 j.hw (.inr (by omega)) j.hB hm).mono fun e w' ⟨a, b, c⟩ => ⟨a, j.step HV (by decide) b c⟩
  clear h hB HV
  unfold Ob.v
  dsimp only
  go_enter Tryd.func49, Tryd.ntmps49
  go_wp2_with (first
    | (go_at_call_of 47 (Value.int IntKind.i64 1); refine (HN1.out 2 _ _ I.out (by omega) hKD).mono ?_; rintro e w1 ⟨rfl, i⟩; replace I : Hid _ := i; clear i; obtain ⟨c0, c1, c2, c3, c4, c5, c6, c7, c8⟩ := cells9 I.out.ho)
    | (go_at_call 68; refine (HP.out _ _ I.out (by simp only [List.length_append, num_length]; omega)).mono ?_; rintro e w1 ⟨rfl, i⟩; replace I : Hid _ := i; clear i c0 c1 c2 c3 c4 c5 c6 c7 c8; obtain ⟨c0, c1, c2, c3, c4, c5, c6, c7, c8⟩ := cells9 I.out.ho)
    | (go_at_call_of 47 (Value.int IntKind.u64 (th : Int)); refine (HN8.out th _ _ I.out (by simp only [List.length_append, num_length]; omega) ht).mono ?_; rintro e w1 ⟨rfl, i⟩; replace I : Hid _ := i; clear i c0 c1 c2 c3 c4 c5 c6 c7 c8; obtain ⟨c0, c1, c2, c3, c4, c5, c6, c7, c8⟩ := cells9 I.out.ho)
    | (go_at_call_of 47 (Value.int IntKind.u64 (p : Int)); refine (HN8.out p _ _ I.out (by simp only [List.length_append, num_length]; omega) hp).mono ?_; rintro e w1 ⟨rfl, i⟩; replace I : Hid _ := i; clear i c0 c1 c2 c3 c4 c5 c6 c7 c8; obtain ⟨c0, c1, c2, c3, c4, c5, c6, c7, c8⟩ := cells9 I.out.ho)
    | (go_at_call 70; refine (HTx.out n _ _ I.out (by simp only [List.length_append, num_length]; omega) hn).mono ?_; rintro e w1 ⟨rfl, i⟩; replace I : Hid _ := i; clear i c0 c1 c2 c3 c4 c5 c6 c7 c8; obtain ⟨c0, c1, c2, c3, c4, c5, c6, c7, c8⟩ := cells9 I.out.ho))
  go_end0
  exact ⟨rfl, I.out.hw, I.out.wrote⟩
set_option maxRecDepth 100000 in
set_option maxHeartbeats 1000000 in
theorem putOp_ct (c : Nat) (k : Int) (kk th p : Nat) (n : ByteArray) (d : Bool) (g : ByteArray) (z : Int) (B : Nat) (v : Value) (l : List UInt8) (w : World) (hc : c < 18446744073709551616) (hkk : IntKind.u64.wrap k = kk) (hk : kk < 18446744073709551616) (ht : th < 18446744073709551616) (_ : p < 18446744073709551616) (_ : n.size ≤ 2000000) (hz : z ≤ 9223372036854775807) (h : WAt 104 B v l w) (hl : l.length + 9000000 ≤ 140737488355328) (hB : B ≤ w.heap.size) :
    Calls Tryd.prog 49 #[v, (Ob.mk 4 ⟨c, k⟩ th p n d g z).v] w fun e w' => e = .returned (.tuple #[]) ∧ WAt 104 B v (l ++ (num 2 4 ++ num 16 c ++ num 2 kk ++ num 16 th ++ pad g.data.toList ++ num 8 (max z 0).toNat)) w' ∧ Wrote B v w w' := by
  have hKD : 4 < 18446744073709551616 := by decide
  have el : l ++ (num 2 4 ++ num 16 c ++ num 2 kk ++ num 16 th ++ pad g.data.toList ++ num 8 (max z 0).toNat) = l ++ num 2 4 ++ num 16 c ++ num 2 kk ++ num 16 th ++ pad g.data.toList ++ num 8 (max z 0).toNat := by simp only [List.append_assoc]
  rw [el]
  clear el
  have I : Hid (PutAt 104 27 B w.heap.size v (Ob.mk 4 ⟨c, k⟩ th p n d g z) w l (w.alloc (.cells (Ob.mk 4 ⟨c, k⟩ th p n d g z).cs 27))) :=
    ⟨h.below ((Below.refl _ _).alloc (Nat.le_refl _) _), heap_alloc_new _ _, by simp; omega, Wrote.of ((Below.refl _ _).alloc (Nat.le_refl _) _) hB⟩
  have HV : v ≠ .pointer (some ⟨w.heap.size, 0, none⟩) := wat_ne h (Nat.le_refl _)
  have HN1 : Hid (∀ (m : Nat) (L : List UInt8) (w1 : World), PutAt 104 27 B w.heap.size v (Ob.mk 4 ⟨c, k⟩ th p n d g z) w L w1 → L.length ≤ l.length + 3000000 → m < 18446744073709551616 → Calls Tryd.prog 47 #[v, .int .u64 m, .int .i64 1] w1 fun e w' => e = .returned (.tuple #[]) ∧ PutAt 104 27 B w.heap.size v (Ob.mk 4 ⟨c, k⟩ th p n d g z) w (L ++ num 2 m) w') := fun m L w1 j hL hm =>
    (wnumber_sp B v L m 1 w1 j.hw (.inr (by omega)) j.hB hm).mono fun e w' ⟨a, b, c⟩ => ⟨a, j.step HV (by decide) b c⟩
  have HN8 : Hid (∀ (m : Nat) (L : List UInt8) (w1 : World), PutAt 104 27 B w.heap.size v (Ob.mk 4 ⟨c, k⟩ th p n d g z) w L w1 → L.length ≤ l.length + 3000000 → m < 18446744073709551616 → Calls Tryd.prog 47 #[v, .int .u64 m, .int .i64 8] w1 fun e w' => e = .returned (.tuple #[]) ∧ PutAt 104 27 B w.heap.size v (Ob.mk 4 ⟨c, k⟩ th p n d g z) w (L ++ num 16 m) w') := fun m L w1 j hL hm =>
    (wnumber_sp B v L m 8 w1 j.hw (.inr (by omega)) j.hB hm).mono fun e w' ⟨a, b, c⟩ => ⟨a, j.step HV (by decide) b c⟩
  have HP : Hid (∀ (L : List UInt8) (w1 : World), PutAt 104 27 B w.heap.size v (Ob.mk 4 ⟨c, k⟩ th p n d g z) w L w1 → L.length ≤ l.length + 3000000 → Calls Tryd.prog 68 #[v, .agg #[.int .u64 c, .int .i64 k]] w1 fun e w' => e = .returned (.tuple #[]) ∧ PutAt 104 27 B w.heap.size v (Ob.mk 4 ⟨c, k⟩ th p n d g z) w (L ++ num 16 c ++ num 2 kk) w') := fun L w1 j hL =>
    (putStamp_all B v L c k kk w1 j.hw (.inr (by omega)) j.hB hc hkk hk).mono fun e w' ⟨a, b, d⟩ => ⟨a, j.step HV (by decide) b d⟩
  have HBo : Hid (∀ (x : Bool) (L : List UInt8) (w1 : World), PutAt 104 27 B w.heap.size v (Ob.mk 4 ⟨c, k⟩ th p n d g z) w L w1 → L.length ≤ l.length + 3000000 → Calls Tryd.prog 69 #[v, .bool x] w1 fun e w' => e = .returned (.tuple #[]) ∧ PutAt 104 27 B w.heap.size v (Ob.mk 4 ⟨c, k⟩ th p n d g z) w (L ++ [letter x]) w') := fun x L w1 j hL =>
    (wbool_sp B v L x w1 j.hw (.inr (by omega)) j.hB).mono fun e w' ⟨a, b, c⟩ => ⟨a, j.step HV (by decide) b c⟩
  have HTx : Hid (∀ (x : ByteArray) (L : List UInt8) (w1 : World), PutAt 104 27 B w.heap.size v (Ob.mk 4 ⟨c, k⟩ th p n d g z) w L w1 → L.length ≤ l.length + 3000000 → x.size ≤ 2000000 → Calls Tryd.prog 70 #[v, .string x] w1 fun e w' => e = .returned (.tuple #[]) ∧ PutAt 104 27 B w.heap.size v (Ob.mk 4 ⟨c, k⟩ th p n d g z) w (L ++ (num 8 x.size ++ x.data.toList)) w') := fun x L w1 j hL hx =>
    (wtext_sp B v L x w1 j.hw (.inr (by omega)) j.hB (by unfold maxLen; omega)).mono fun e w' ⟨a, b, c⟩ => ⟨a, j.step HV (by decide) b c⟩
  have HHa : Hid (∀ (x : ByteArray) (L : List UInt8) (w1 : World), PutAt 104 27 B w.heap.size v (Ob.mk 4 ⟨c, k⟩ th p n d g z) w L w1 → L.length ≤ l.length + 3000000 → Calls Tryd.prog 48 #[v, .string x] w1 fun e w' => e = .returned (.tuple #[]) ∧ PutAt 104 27 B w.heap.size v (Ob.mk 4 ⟨c, k⟩ th p n d g z) w (L ++ pad x.data.toList) w') := fun x L w1 j hL =>
    (whash_sp B v L x w1 j.hw (.inr (by omega)) j.hB).mono fun e w' ⟨a, b, c⟩ => ⟨a, j.step HV (by decide) b c⟩
  have HCo : Hid (∀ (m : Int) (L : List UInt8) (w1 : World), PutAt 104 27 B w.heap.size v (Ob.mk 4 ⟨c, k⟩ th p n d g z) w L w1 → L.length ≤ l.length + 3000000 → m ≤ 9223372036854775807 → Calls Tryd.prog 71 #[v, .int .i64 m] w1 fun e w' => e = .returned (.tuple #[]) ∧ PutAt 104 27 B w.heap.size v (Ob.mk 4 ⟨c, k⟩ th p n d g z) w (L ++ num 8 (max m 0).toNat) w') := fun m L w1 j hL hm =>
    (wcount_sp B v L m w1 j.hw (.inr (by omega)) j.hB hm).mono fun e w' ⟨a, b, c⟩ => ⟨a, j.step HV (by decide) b c⟩
  clear h hB HV
  unfold Ob.v
  dsimp only
  go_enter Tryd.func49, Tryd.ntmps49
  go_wp2_with (first
    | (go_at_call_of 47 (Value.int IntKind.i64 1); refine (HN1.out 4 _ _ I.out (by omega) hKD).mono ?_; rintro e w1 ⟨rfl, i⟩; replace I : Hid _ := i; clear i; obtain ⟨c0, c1, c2, c3, c4, c5, c6, c7, c8⟩ := cells9 I.out.ho)
    | (go_at_call 68; refine (HP.out _ _ I.out (by simp only [List.length_append, num_length]; omega)).mono ?_; rintro e w1 ⟨rfl, i⟩; replace I : Hid _ := i; clear i c0 c1 c2 c3 c4 c5 c6 c7 c8; obtain ⟨c0, c1, c2, c3, c4, c5, c6, c7, c8⟩ := cells9 I.out.ho)
    | (go_at_call_of 47 (Value.int IntKind.u64 (th : Int)); refine (HN8.out th _ _ I.out (by simp only [List.length_append, num_length]; omega) ht).mono ?_; rintro e w1 ⟨rfl, i⟩; replace I : Hid _ := i; clear i c0 c1 c2 c3 c4 c5 c6 c7 c8; obtain ⟨c0, c1, c2, c3, c4, c5, c6, c7, c8⟩ := cells9 I.out.ho)
    | (go_at_call 48; refine (HHa.out g _ _ I.out (by simp only [List.length_append, num_length]; omega)).mono ?_; rintro e w1 ⟨rfl, i⟩; replace I : Hid _ := i; clear i c0 c1 c2 c3 c4 c5 c6 c7 c8; obtain ⟨c0, c1, c2, c3, c4, c5, c6, c7, c8⟩ := cells9 I.out.ho)
    | (go_at_call 71; refine (HCo.out z _ _ I.out (by simp only [List.length_append, num_length, pad_length]; omega) hz).mono ?_; rintro e w1 ⟨rfl, i⟩; replace I : Hid _ := i; clear i c0 c1 c2 c3 c4 c5 c6 c7 c8; obtain ⟨c0, c1, c2, c3, c4, c5, c6, c7, c8⟩ := cells9 I.out.ho))
  go_end0
  exact ⟨rfl, I.out.hw, I.out.wrote⟩
set_option maxRecDepth 100000 in
set_option maxHeartbeats 1000000 in
theorem putOp_el (kd : Int) (Kd : Nat) (c : Nat) (k : Int) (kk th p : Nat) (n : ByteArray) (d : Bool) (g : ByteArray) (z : Int) (B : Nat) (v : Value) (l : List UInt8) (w : World) (hKD : Kd < 18446744073709551616) (hkd : IntKind.u64.wrap kd = Kd) (h1 : ¬ kd = 1) (h2 : ¬ kd = 2) (h4 : ¬ kd = 4) (hc : c < 18446744073709551616) (hkk : IntKind.u64.wrap k = kk) (hk : kk < 18446744073709551616) (ht : th < 18446744073709551616) (_ : p < 18446744073709551616) (_ : n.size ≤ 2000000) (_ : z ≤ 9223372036854775807) (h : WAt 104 B v l w) (hl : l.length + 9000000 ≤ 140737488355328) (hB : B ≤ w.heap.size) :
    Calls Tryd.prog 49 #[v, (Ob.mk kd ⟨c, k⟩ th p n d g z).v] w fun e w' => e = .returned (.tuple #[]) ∧ WAt 104 B v (l ++ (num 2 Kd ++ num 16 c ++ num 2 kk ++ num 16 th)) w' ∧ Wrote B v w w' := by
  have el : l ++ (num 2 Kd ++ num 16 c ++ num 2 kk ++ num 16 th) = l ++ num 2 Kd ++ num 16 c ++ num 2 kk ++ num 16 th := by simp only [List.append_assoc]
  rw [el]
  clear el
  have I : Hid (PutAt 104 27 B w.heap.size v (Ob.mk kd ⟨c, k⟩ th p n d g z) w l (w.alloc (.cells (Ob.mk kd ⟨c, k⟩ th p n d g z).cs 27))) :=
    ⟨h.below ((Below.refl _ _).alloc (Nat.le_refl _) _), heap_alloc_new _ _, by simp; omega, Wrote.of ((Below.refl _ _).alloc (Nat.le_refl _) _) hB⟩
  have HV : v ≠ .pointer (some ⟨w.heap.size, 0, none⟩) := wat_ne h (Nat.le_refl _)
  have HN1 : Hid (∀ (m : Nat) (L : List UInt8) (w1 : World), PutAt 104 27 B w.heap.size v (Ob.mk kd ⟨c, k⟩ th p n d g z) w L w1 → L.length ≤ l.length + 3000000 → m < 18446744073709551616 → Calls Tryd.prog 47 #[v, .int .u64 m, .int .i64 1] w1 fun e w' => e = .returned (.tuple #[]) ∧ PutAt 104 27 B w.heap.size v (Ob.mk kd ⟨c, k⟩ th p n d g z) w (L ++ num 2 m) w') := fun m L w1 j hL hm =>
    (wnumber_sp B v L m 1 w1 j.hw (.inr (by omega)) j.hB hm).mono fun e w' ⟨a, b, c⟩ => ⟨a, j.step HV (by decide) b c⟩
  have HN8 : Hid (∀ (m : Nat) (L : List UInt8) (w1 : World), PutAt 104 27 B w.heap.size v (Ob.mk kd ⟨c, k⟩ th p n d g z) w L w1 → L.length ≤ l.length + 3000000 → m < 18446744073709551616 → Calls Tryd.prog 47 #[v, .int .u64 m, .int .i64 8] w1 fun e w' => e = .returned (.tuple #[]) ∧ PutAt 104 27 B w.heap.size v (Ob.mk kd ⟨c, k⟩ th p n d g z) w (L ++ num 16 m) w') := fun m L w1 j hL hm =>
    (wnumber_sp B v L m 8 w1 j.hw (.inr (by omega)) j.hB hm).mono fun e w' ⟨a, b, c⟩ => ⟨a, j.step HV (by decide) b c⟩
  have HP : Hid (∀ (L : List UInt8) (w1 : World), PutAt 104 27 B w.heap.size v (Ob.mk kd ⟨c, k⟩ th p n d g z) w L w1 → L.length ≤ l.length + 3000000 → Calls Tryd.prog 68 #[v, .agg #[.int .u64 c, .int .i64 k]] w1 fun e w' => e = .returned (.tuple #[]) ∧ PutAt 104 27 B w.heap.size v (Ob.mk kd ⟨c, k⟩ th p n d g z) w (L ++ num 16 c ++ num 2 kk) w') := fun L w1 j hL =>
    (putStamp_all B v L c k kk w1 j.hw (.inr (by omega)) j.hB hc hkk hk).mono fun e w' ⟨a, b, d⟩ => ⟨a, j.step HV (by decide) b d⟩
  have HBo : Hid (∀ (x : Bool) (L : List UInt8) (w1 : World), PutAt 104 27 B w.heap.size v (Ob.mk kd ⟨c, k⟩ th p n d g z) w L w1 → L.length ≤ l.length + 3000000 → Calls Tryd.prog 69 #[v, .bool x] w1 fun e w' => e = .returned (.tuple #[]) ∧ PutAt 104 27 B w.heap.size v (Ob.mk kd ⟨c, k⟩ th p n d g z) w (L ++ [letter x]) w') := fun x L w1 j hL =>
    (wbool_sp B v L x w1 j.hw (.inr (by omega)) j.hB).mono fun e w' ⟨a, b, c⟩ => ⟨a, j.step HV (by decide) b c⟩
  have HTx : Hid (∀ (x : ByteArray) (L : List UInt8) (w1 : World), PutAt 104 27 B w.heap.size v (Ob.mk kd ⟨c, k⟩ th p n d g z) w L w1 → L.length ≤ l.length + 3000000 → x.size ≤ 2000000 → Calls Tryd.prog 70 #[v, .string x] w1 fun e w' => e = .returned (.tuple #[]) ∧ PutAt 104 27 B w.heap.size v (Ob.mk kd ⟨c, k⟩ th p n d g z) w (L ++ (num 8 x.size ++ x.data.toList)) w') := fun x L w1 j hL hx =>
    (wtext_sp B v L x w1 j.hw (.inr (by omega)) j.hB (by unfold maxLen; omega)).mono fun e w' ⟨a, b, c⟩ => ⟨a, j.step HV (by decide) b c⟩
  have HHa : Hid (∀ (x : ByteArray) (L : List UInt8) (w1 : World), PutAt 104 27 B w.heap.size v (Ob.mk kd ⟨c, k⟩ th p n d g z) w L w1 → L.length ≤ l.length + 3000000 → Calls Tryd.prog 48 #[v, .string x] w1 fun e w' => e = .returned (.tuple #[]) ∧ PutAt 104 27 B w.heap.size v (Ob.mk kd ⟨c, k⟩ th p n d g z) w (L ++ pad x.data.toList) w') := fun x L w1 j hL =>
    (whash_sp B v L x w1 j.hw (.inr (by omega)) j.hB).mono fun e w' ⟨a, b, c⟩ => ⟨a, j.step HV (by decide) b c⟩
  have HCo : Hid (∀ (m : Int) (L : List UInt8) (w1 : World), PutAt 104 27 B w.heap.size v (Ob.mk kd ⟨c, k⟩ th p n d g z) w L w1 → L.length ≤ l.length + 3000000 → m ≤ 9223372036854775807 → Calls Tryd.prog 71 #[v, .int .i64 m] w1 fun e w' => e = .returned (.tuple #[]) ∧ PutAt 104 27 B w.heap.size v (Ob.mk kd ⟨c, k⟩ th p n d g z) w (L ++ num 8 (max m 0).toNat) w') := fun m L w1 j hL hm =>
    (wcount_sp B v L m w1 j.hw (.inr (by omega)) j.hB hm).mono fun e w' ⟨a, b, c⟩ => ⟨a, j.step HV (by decide) b c⟩
  clear h hB HV
  unfold Ob.v
  dsimp only
  go_enter Tryd.func49, Tryd.ntmps49
  go_wp2_with (first
    | (go_at_call_of 47 (Value.int IntKind.i64 1); refine (HN1.out Kd _ _ I.out (by omega) hKD).mono ?_; rintro e w1 ⟨rfl, i⟩; replace I : Hid _ := i; clear i; obtain ⟨c0, c1, c2, c3, c4, c5, c6, c7, c8⟩ := cells9 I.out.ho)
    | (go_at_call 68; refine (HP.out _ _ I.out (by simp only [List.length_append, num_length]; omega)).mono ?_; rintro e w1 ⟨rfl, i⟩; replace I : Hid _ := i; clear i c0 c1 c2 c3 c4 c5 c6 c7 c8; obtain ⟨c0, c1, c2, c3, c4, c5, c6, c7, c8⟩ := cells9 I.out.ho)
    | (go_at_call_of 47 (Value.int IntKind.u64 (th : Int)); refine (HN8.out th _ _ I.out (by simp only [List.length_append, num_length]; omega) ht).mono ?_; rintro e w1 ⟨rfl, i⟩; replace I : Hid _ := i; clear i c0 c1 c2 c3 c4 c5 c6 c7 c8; obtain ⟨c0, c1, c2, c3, c4, c5, c6, c7, c8⟩ := cells9 I.out.ho))
  go_end0
  exact ⟨rfl, I.out.hw, I.out.wrote⟩
end Go.Proofs.YtcdmdpafkiljdaaDoor
