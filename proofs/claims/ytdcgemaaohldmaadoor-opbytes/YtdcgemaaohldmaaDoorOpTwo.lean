/- Several texts in one: OpPut, OpEncode, OpRefBytes. -/
import Derived.Test.YtdcgemaaohldmaaDoorOpOne
import Derived.Test.YtdcgemaaohldmaaDoorWireThree
import Derived.Test.YtdcgemaaohldmaaDoorStampOne
/- Contracts: an operation put, its bytes, the program's. -/
namespace Go.Opn
open Go.RowKit Go.Wire Go.Stamp
/-- An operation in block g is being put into the writer v, which has l. -/
structure PutAt (T S B g : Nat) (v : Value) (o : Ob) (w0 : World) (l : List UInt8) (w : World) : Prop where
  hw : WAt T B v l w
  ho : w.heap[g]? = some (.cells o.cs S (0, 0))
  hB : B ≤ w.heap.size
  wrote : Wrote B v w0 w
theorem PutAt.step {T S B g : Nat} {v : Value} {o : Ob} {w0 w w' : World} {l l' : List UInt8} (i : PutAt T S B g v o w0 l w) (hv : v ≠ .pointer (some ⟨g, 0, none⟩)) (hS : S ≠ 5) (h : WAt T B v l' w') (k : Wrote B v w w') : PutAt T S B g v o w0 l' w' :=
  ⟨h, k.row hv hS i.ho, Nat.le_trans i.hB k.below.size, i.wrote.trans k⟩
theorem pad_full (x : ByteArray) (h : x.size = 32) : pad x.data.toList = x.data.toList := by
  rw [size_list] at h
  unfold pad
  rw [h, List.take_of_length_le (by omega)]
  simp
end Go.Opn
namespace Go.Proofs.YtdcgemaaohldmaaDoor
open Go.RowKit Go.Wire Go.Stamp Go.Opn
set_option maxRecDepth 100000 in
set_option maxHeartbeats 1000000 in
theorem putOp_any (B : Nat) (v : Value) (l : List UInt8) (o : Ob) (w : World) (h : WAt 64 B v l w) (hl : l.length + 200 ≤ 140737488355328) (hB : B ≤ w.heap.size) (hok : o.tm.Ok) (hg : o.Good) :
    Calls Tryd.prog 12 #[v, o.v] w fun e w' => e = .returned (.tuple #[]) ∧ WAt 64 B v (l ++ o.bytes) w' ∧ Wrote B v w w' := by
  have i := Ob.good_is hg
  have I : Hid (PutAt 64 26 B w.heap.size v o w l (w.alloc (.cells o.cs 26))) :=
    ⟨h.below ((Below.refl _ _).alloc (Nat.le_refl _) _), heap_alloc_new _ _, by simp; omega, Wrote.of ((Below.refl _ _).alloc (Nat.le_refl _) _) hB⟩
  have HV : v ≠ .pointer (some ⟨w.heap.size, 0, none⟩) := wat_ne h (Nat.le_refl _)
  have HN1 : Hid (∀ (n : Nat) (L : List UInt8) (w1 : World), PutAt 64 26 B w.heap.size v o w L w1 → L.length ≤ l.length + 100 → n < 18446744073709551616 → Calls Tryd.prog 31 #[v, .int .u64 n, .int .i64 1] w1 fun e w' => e = .returned (.tuple #[]) ∧ PutAt 64 26 B w.heap.size v o w (L ++ num 2 n) w') := fun n L w1 j hL hn =>
    (wnumber_sp B v L n 1 w1 j.hw (.inr (by omega)) j.hB hn).mono fun e w' ⟨a, b, c⟩ => ⟨a, j.step HV (by decide) b c⟩
  have HN8 : Hid (∀ (n : Nat) (L : List UInt8) (w1 : World), PutAt 64 26 B w.heap.size v o w L w1 → L.length ≤ l.length + 100 → n < 18446744073709551616 → Calls Tryd.prog 31 #[v, .int .u64 n, .int .i64 8] w1 fun e w' => e = .returned (.tuple #[]) ∧ PutAt 64 26 B w.heap.size v o w (L ++ num 16 n) w') := fun n L w1 j hL hn =>
    (wnumber_sp B v L n 8 w1 j.hw (.inr (by omega)) j.hB hn).mono fun e w' ⟨a, b, c⟩ => ⟨a, j.step HV (by decide) b c⟩
  have HP : Hid (∀ (c k : Nat) (L : List UInt8) (w1 : World), PutAt 64 26 B w.heap.size v o w L w1 → L.length ≤ l.length + 100 → c < 18446744073709551616 → k < 256 → Calls Tryd.prog 32 #[v, .agg #[.int .u64 c, .int .i64 k]] w1 fun e w' => e = .returned (.tuple #[]) ∧ PutAt 64 26 B w.heap.size v o w (L ++ num 16 c ++ num 2 k) w') := fun c k L w1 j hL hc hk =>
    (put_any B v L c k w1 j.hw (.inr (by omega)) j.hB hc hk).mono fun e w' ⟨a, b, d⟩ => ⟨a, j.step HV (by decide) b d⟩
  have HBo : Hid (∀ (x : Bool) (L : List UInt8) (w1 : World), PutAt 64 26 B w.heap.size v o w L w1 → L.length ≤ l.length + 100 → Calls Tryd.prog 33 #[v, .bool x] w1 fun e w' => e = .returned (.tuple #[]) ∧ PutAt 64 26 B w.heap.size v o w (L ++ [letter x]) w') := fun x L w1 j hL =>
    (wbool_sp B v L x w1 j.hw (.inr (by omega)) j.hB).mono fun e w' ⟨a, b, c⟩ => ⟨a, j.step HV (by decide) b c⟩
  have HTx : Hid (∀ (x : ByteArray) (L : List UInt8) (w1 : World), PutAt 64 26 B w.heap.size v o w L w1 → L.length ≤ l.length + 100 → x.size ≤ 32 → Calls Tryd.prog 34 #[v, .string x] w1 fun e w' => e = .returned (.tuple #[]) ∧ PutAt 64 26 B w.heap.size v o w (L ++ (num 8 x.size ++ x.data.toList)) w') := fun x L w1 j hL hx =>
    (wtext_sp B v L x w1 j.hw (.inr (by omega)) j.hB (by unfold maxLen; omega)).mono fun e w' ⟨a, b, c⟩ => ⟨a, j.step HV (by decide) b c⟩
  have HHa : Hid (∀ (x : ByteArray) (L : List UInt8) (w1 : World), PutAt 64 26 B w.heap.size v o w L w1 → L.length ≤ l.length + 100 → x.size = 32 → Calls Tryd.prog 35 #[v, .string x] w1 fun e w' => e = .returned (.tuple #[]) ∧ PutAt 64 26 B w.heap.size v o w (L ++ x.data.toList) w') := fun x L w1 j hL hx =>
    (whash_sp B v L x w1 j.hw (.inr (by omega)) j.hB).mono fun e w' ⟨a, b, c⟩ => ⟨a, j.step HV (by decide) (by rw [pad_full x hx] at b; exact b) c⟩
  have HCo : Hid (∀ (n : Nat) (L : List UInt8) (w1 : World), PutAt 64 26 B w.heap.size v o w L w1 → L.length ≤ l.length + 100 → n ≤ 8192 → Calls Tryd.prog 36 #[v, .int .i64 n] w1 fun e w' => e = .returned (.tuple #[]) ∧ PutAt 64 26 B w.heap.size v o w (L ++ num 8 n) w') := fun n L w1 j hL hn =>
    (wcount_sp B v L n w1 j.hw (.inr (by omega)) j.hB (by omega)).mono fun e w' ⟨a, b, c⟩ => ⟨a, j.step HV (by decide) (by rw [show (max (n : Int) 0).toNat = n by omega] at b; exact b) c⟩
  obtain ⟨i1, i2, i3, i4, i5, i6⟩ := i
  clear h hg
  unfold Tm.Ok at hok
  obtain ⟨kd, ⟨c, k⟩, th, p, n, d, g, z⟩ := o
  dsimp only at hok i1 i2 i3 i4 i5 i6
  obtain ⟨c, rfl⟩ : ∃ c' : Nat, c = c' := ⟨c.toNat, by omega⟩
  obtain ⟨k, rfl⟩ : ∃ k' : Nat, k = k' := ⟨k.toNat, by omega⟩
  obtain ⟨th, rfl⟩ : ∃ t' : Nat, th = t' := ⟨th.toNat, by omega⟩
  obtain ⟨p, rfl⟩ : ∃ t' : Nat, p = t' := ⟨p.toNat, by omega⟩
  obtain ⟨z, rfl⟩ : ∃ t' : Nat, z = t' := ⟨z.toNat, by omega⟩
  have hz : z ≤ 8192 := by omega
  have hp : p < 18446744073709551616 := by omega
  have ht : th < 18446744073709551616 := by omega
  have hc : c < 18446744073709551616 := by omega
  have hk : k < 256 := by omega
  clear hok i1 i2 i4 hB
  unfold Ob.v
  rcases i6 with ⟨rfl, hd, hz0⟩ | ⟨rfl, hd, hz0, hdir⟩ | ⟨rfl, hp0, hn0, hd, hz0, hdir⟩ | ⟨rfl, hp0, hn0, hdir, hdg⟩
  · have eb : (Ob.mk 1 ⟨c, k⟩ th p n d g z).bytes = num 2 1 ++ (num 16 c ++ num 2 k) ++ num 16 th ++ [letter d] ++ (num 16 p ++ (num 8 n.size ++ n.data.toList)) := by
      unfold Ob.bytes Ob.head Ob.spot; rw [if_pos rfl]; rfl
    have el : l ++ (num 2 1 ++ (num 16 c ++ num 2 k) ++ num 16 th ++ [letter d] ++ (num 16 p ++ (num 8 n.size ++ n.data.toList))) = l ++ num 2 1 ++ num 16 c ++ num 2 k ++ num 16 th ++ [letter d] ++ num 16 p ++ (num 8 n.size ++ n.data.toList) := by simp only [List.append_assoc]
    rw [eb, el]
    clear eb el hd hz0
    go_enter Tryd.func12, Tryd.ntmps12
    go_wp2_with (first
      | (go_at_call_of 31 (Value.int IntKind.i64 1); refine (HN1.out 1 _ _ I.out (by omega) (by decide)).mono ?_; rintro e w1 ⟨rfl, i⟩; replace I : Hid _ := i; clear i; obtain ⟨c0, c1, c2, c3, c4, c5, c6, c7, c8⟩ := cells9 I.out.ho)
      | (go_at_call 32; refine (HP.out c k _ _ I.out (by simp only [List.length_append, num_length]; omega) hc hk).mono ?_; rintro e w1 ⟨rfl, i⟩; replace I : Hid _ := i; clear i c0 c1 c2 c3 c4 c5 c6 c7 c8; obtain ⟨c0, c1, c2, c3, c4, c5, c6, c7, c8⟩ := cells9 I.out.ho)
      | (go_at_call_of 31 (Value.int IntKind.u64 (th : Int)); refine (HN8.out th _ _ I.out (by simp only [List.length_append, num_length]; omega) ht).mono ?_; rintro e w1 ⟨rfl, i⟩; replace I : Hid _ := i; clear i c0 c1 c2 c3 c4 c5 c6 c7 c8; obtain ⟨c0, c1, c2, c3, c4, c5, c6, c7, c8⟩ := cells9 I.out.ho)
      | (go_at_call 33; refine (HBo.out d _ _ I.out (by simp only [List.length_append, num_length]; omega)).mono ?_; rintro e w1 ⟨rfl, i⟩; replace I : Hid _ := i; clear i c0 c1 c2 c3 c4 c5 c6 c7 c8; obtain ⟨c0, c1, c2, c3, c4, c5, c6, c7, c8⟩ := cells9 I.out.ho)
      | (go_at_call_of 31 (Value.int IntKind.u64 (p : Int)); refine (HN8.out p _ _ I.out (by simp only [List.length_append, num_length, List.length_singleton]; omega) hp).mono ?_; rintro e w1 ⟨rfl, i⟩; replace I : Hid _ := i; clear i c0 c1 c2 c3 c4 c5 c6 c7 c8; obtain ⟨c0, c1, c2, c3, c4, c5, c6, c7, c8⟩ := cells9 I.out.ho)
      | (go_at_call 34; refine (HTx.out n _ _ I.out (by simp only [List.length_append, num_length, List.length_singleton]; omega) i3).mono ?_; rintro e w1 ⟨rfl, i⟩; replace I : Hid _ := i; clear i c0 c1 c2 c3 c4 c5 c6 c7 c8; obtain ⟨c0, c1, c2, c3, c4, c5, c6, c7, c8⟩ := cells9 I.out.ho))
    go_end0
    exact ⟨rfl, I.out.hw, I.out.wrote⟩
  · have eb : (Ob.mk 2 ⟨c, k⟩ th p n d g z).bytes = num 2 2 ++ (num 16 c ++ num 2 k) ++ num 16 th ++ (num 16 p ++ (num 8 n.size ++ n.data.toList)) := by
      unfold Ob.bytes Ob.head Ob.spot; rw [if_neg (show ¬ ((2 : Int) = 1) by decide), if_pos rfl]; rfl
    have el : l ++ (num 2 2 ++ (num 16 c ++ num 2 k) ++ num 16 th ++ (num 16 p ++ (num 8 n.size ++ n.data.toList))) = l ++ num 2 2 ++ num 16 c ++ num 2 k ++ num 16 th ++ num 16 p ++ (num 8 n.size ++ n.data.toList) := by simp only [List.append_assoc]
    rw [eb, el]
    clear eb el hd hz0 hdir
    go_enter Tryd.func12, Tryd.ntmps12
    go_wp2_with (first
      | (go_at_call_of 31 (Value.int IntKind.i64 1); refine (HN1.out 2 _ _ I.out (by omega) (by decide)).mono ?_; rintro e w1 ⟨rfl, i⟩; replace I : Hid _ := i; clear i; obtain ⟨c0, c1, c2, c3, c4, c5, c6, c7, c8⟩ := cells9 I.out.ho)
      | (go_at_call 32; refine (HP.out c k _ _ I.out (by simp only [List.length_append, num_length]; omega) hc hk).mono ?_; rintro e w1 ⟨rfl, i⟩; replace I : Hid _ := i; clear i c0 c1 c2 c3 c4 c5 c6 c7 c8; obtain ⟨c0, c1, c2, c3, c4, c5, c6, c7, c8⟩ := cells9 I.out.ho)
      | (go_at_call_of 31 (Value.int IntKind.u64 (th : Int)); refine (HN8.out th _ _ I.out (by simp only [List.length_append, num_length]; omega) ht).mono ?_; rintro e w1 ⟨rfl, i⟩; replace I : Hid _ := i; clear i c0 c1 c2 c3 c4 c5 c6 c7 c8; obtain ⟨c0, c1, c2, c3, c4, c5, c6, c7, c8⟩ := cells9 I.out.ho)
      | (go_at_call_of 31 (Value.int IntKind.u64 (p : Int)); refine (HN8.out p _ _ I.out (by simp only [List.length_append, num_length]; omega) hp).mono ?_; rintro e w1 ⟨rfl, i⟩; replace I : Hid _ := i; clear i c0 c1 c2 c3 c4 c5 c6 c7 c8; obtain ⟨c0, c1, c2, c3, c4, c5, c6, c7, c8⟩ := cells9 I.out.ho)
      | (go_at_call 34; refine (HTx.out n _ _ I.out (by simp only [List.length_append, num_length]; omega) i3).mono ?_; rintro e w1 ⟨rfl, i⟩; replace I : Hid _ := i; clear i c0 c1 c2 c3 c4 c5 c6 c7 c8; obtain ⟨c0, c1, c2, c3, c4, c5, c6, c7, c8⟩ := cells9 I.out.ho))
    go_end0
    exact ⟨rfl, I.out.hw, I.out.wrote⟩
  · have eb : (Ob.mk 3 ⟨c, k⟩ th p n d g z).bytes = num 2 3 ++ (num 16 c ++ num 2 k) ++ num 16 th := by
      unfold Ob.bytes Ob.head Ob.spot; rw [if_neg (show ¬ ((3 : Int) = 1) by decide), if_neg (show ¬ ((3 : Int) = 2) by decide), if_neg (show ¬ ((3 : Int) = 4) by decide)]; rfl
    have el : l ++ (num 2 3 ++ (num 16 c ++ num 2 k) ++ num 16 th) = l ++ num 2 3 ++ num 16 c ++ num 2 k ++ num 16 th := by simp only [List.append_assoc]
    rw [eb, el]
    clear eb el hd hz0 hdir hn0 hp0
    go_enter Tryd.func12, Tryd.ntmps12
    go_wp2_with (first
      | (go_at_call_of 31 (Value.int IntKind.i64 1); refine (HN1.out 3 _ _ I.out (by omega) (by decide)).mono ?_; rintro e w1 ⟨rfl, i⟩; replace I : Hid _ := i; clear i; obtain ⟨c0, c1, c2, c3, c4, c5, c6, c7, c8⟩ := cells9 I.out.ho)
      | (go_at_call 32; refine (HP.out c k _ _ I.out (by simp only [List.length_append, num_length]; omega) hc hk).mono ?_; rintro e w1 ⟨rfl, i⟩; replace I : Hid _ := i; clear i c0 c1 c2 c3 c4 c5 c6 c7 c8; obtain ⟨c0, c1, c2, c3, c4, c5, c6, c7, c8⟩ := cells9 I.out.ho)
      | (go_at_call_of 31 (Value.int IntKind.u64 (th : Int)); refine (HN8.out th _ _ I.out (by simp only [List.length_append, num_length]; omega) ht).mono ?_; rintro e w1 ⟨rfl, i⟩; replace I : Hid _ := i; clear i c0 c1 c2 c3 c4 c5 c6 c7 c8; obtain ⟨c0, c1, c2, c3, c4, c5, c6, c7, c8⟩ := cells9 I.out.ho))
    go_end0
    exact ⟨rfl, I.out.hw, I.out.wrote⟩
  · have eb : (Ob.mk 4 ⟨c, k⟩ th p n d g z).bytes = num 2 4 ++ (num 16 c ++ num 2 k) ++ num 16 th ++ g.data.toList ++ num 8 z := by
      unfold Ob.bytes Ob.head Ob.spot; rw [if_neg (show ¬ ((4 : Int) = 1) by decide), if_neg (show ¬ ((4 : Int) = 2) by decide), if_pos rfl]; rfl
    have el : l ++ (num 2 4 ++ (num 16 c ++ num 2 k) ++ num 16 th ++ g.data.toList ++ num 8 z) = l ++ num 2 4 ++ num 16 c ++ num 2 k ++ num 16 th ++ g.data.toList ++ num 8 z := by simp only [List.append_assoc]
    rw [eb, el]
    clear eb el hdir hn0 hp0
    go_enter Tryd.func12, Tryd.ntmps12
    go_wp2_with (first
      | (go_at_call_of 31 (Value.int IntKind.i64 1); refine (HN1.out 4 _ _ I.out (by omega) (by decide)).mono ?_; rintro e w1 ⟨rfl, i⟩; replace I : Hid _ := i; clear i; obtain ⟨c0, c1, c2, c3, c4, c5, c6, c7, c8⟩ := cells9 I.out.ho)
      | (go_at_call 32; refine (HP.out c k _ _ I.out (by simp only [List.length_append, num_length]; omega) hc hk).mono ?_; rintro e w1 ⟨rfl, i⟩; replace I : Hid _ := i; clear i c0 c1 c2 c3 c4 c5 c6 c7 c8; obtain ⟨c0, c1, c2, c3, c4, c5, c6, c7, c8⟩ := cells9 I.out.ho)
      | (go_at_call_of 31 (Value.int IntKind.u64 (th : Int)); refine (HN8.out th _ _ I.out (by simp only [List.length_append, num_length]; omega) ht).mono ?_; rintro e w1 ⟨rfl, i⟩; replace I : Hid _ := i; clear i c0 c1 c2 c3 c4 c5 c6 c7 c8; obtain ⟨c0, c1, c2, c3, c4, c5, c6, c7, c8⟩ := cells9 I.out.ho)
      | (go_at_call 35; refine (HHa.out g _ _ I.out (by simp only [List.length_append, num_length]; omega) hdg).mono ?_; rintro e w1 ⟨rfl, i⟩; replace I : Hid _ := i; clear i c0 c1 c2 c3 c4 c5 c6 c7 c8; obtain ⟨c0, c1, c2, c3, c4, c5, c6, c7, c8⟩ := cells9 I.out.ho)
      | (go_at_call 36; refine (HCo.out z _ _ I.out (by simp only [List.length_append, num_length, ← size_list]; omega) hz).mono ?_; rintro e w1 ⟨rfl, i⟩; replace I : Hid _ := i; clear i c0 c1 c2 c3 c4 c5 c6 c7 c8; obtain ⟨c0, c1, c2, c3, c4, c5, c6, c7, c8⟩ := cells9 I.out.ho))
    go_end0
    exact ⟨rfl, I.out.hw, I.out.wrote⟩
end Go.Proofs.YtdcgemaaohldmaaDoor
/- Contracts: an operation's bytes, the program's. -/
namespace Go.Proofs.YtdcgemaaohldmaaDoor
open Go.RowKit Go.Wire Go.Stamp Go.Opn
set_option maxRecDepth 100000 in
set_option maxHeartbeats 1000000 in
theorem allOp_any (o : Ob) (w : World) (hok : o.tm.Ok) (hg : o.Good) :
    Calls Tryd.prog 21 #[o.v] w fun e w' => e = .returned (.string o.bytesB) ∧ Below w.heap.size w w' := by
  have HP : Hid (∀ (b : Nat) (w : World), Wr 64 b b [] w → b ≤ w.heap.size → Calls Tryd.prog 12 #[.pointer (some ⟨b, 0, none⟩), o.v] w fun e w' => e = .returned (.tuple #[]) ∧ Wt 64 b b o.bytes w' ∧ Below b w w') := fun b w h hb =>
    (putOp_any b (.pointer (some ⟨b, 0, none⟩)) [] o w (.inr ⟨b, rfl, h⟩) (by decide) hb hok hg).mono fun e w' ⟨he, h, hw⟩ => ⟨he, by
      rcases h with h | ⟨b', h, hr⟩
      · cases h
      · obtain rfl : b = b' := by simpa using h
        exact hr.told, hw.below⟩
  have HA : Hid (∀ (b : Nat) (w : World), b ≤ w.heap.size → Wt 64 b b o.bytes w → Calls Tryd.prog 16 #[.pointer (some ⟨b, 0, none⟩)] w fun e w' => e = .returned (.string o.bytesB) ∧ Below b w w') := fun b w hb h =>
    (all_told b b _ w hb h).mono fun e w' ⟨h1, _, h3⟩ => ⟨h1, h3.below⟩
  clear hok hg
  generalize o.bytesB = X at HA
  generalize o.bytes = l at HA HP
  obtain ⟨kd, ⟨c, k⟩, th, p, n, d, g, z⟩ := o
  unfold Ob.v at HP ⊢
  dsimp only at HP ⊢
  go_enter Tryd.func21, Tryd.ntmps21
  go_wp2_with (first
    | (go_at_call 11; refine (newWriter_any _).mono ?_; rintro e w1 ⟨rfl, h1, k1⟩; have h1 : Wr 64 (w.heap.size + 1) (w.heap.size + 1) [] w1 := (by simpa using h1); have k2 := below_alloc_call k1; have r1 : w1.heap[w.heap.size]? = some (.cells (Ob.mk kd ⟨c, k⟩ th p n d g z).cs 26 (0, 0)) := kept_block (heap_alloc_new _ _) k1; obtain ⟨c0, c1, c2, c3, c4, c5, c6, c7, c8⟩ := cells9 r1; clear r1; have s1 : w.heap.size + 1 ≤ w1.heap.size := (by simpa using k1.size); clear k1)
    | (go_at_call 12; refine (HP.out _ _ h1 s1).mono ?_; rintro e w2 ⟨rfl, h2, k3⟩)
    | (go_at_call 16; refine (HA.out (w.heap.size + 1) _ (Nat.le_trans s1 k3.size) h2).mono ?_; rintro e w3 ⟨rfl, k4⟩))
  go_ret
  exact ⟨rfl, (k2.trans (k3.mono (by omega))).trans (k4.mono (by omega))⟩
set_option maxHeartbeats 1000000 in
theorem encode_ok (o : Ob) (w : World) (hok : o.tm.Ok) (hg : o.Good) :
    Calls Tryd.prog 5 #[o.v] w fun e w' => e = .returned (.tuple #[.string o.bytesB, .int .i64 0]) ∧ Below w.heap.size w w' := by
  have HC : Hid (∀ w, Calls Tryd.prog 9 #[o.v] w fun e w' => e = .returned (.int .i64 0) ∧ Below w.heap.size w w') := fun w => by
    have := checkOp_any o w
    rwa [Ob.chk_ok hok hg] at this
  have HA : Hid (∀ w, Calls Tryd.prog 21 #[o.v] w fun e w' => e = .returned (.string o.bytesB) ∧ Below w.heap.size w w') := fun w => allOp_any o w hok hg
  clear hok hg
  generalize o.bytesB = X at HA
  obtain ⟨kd, ⟨c, k⟩, th, p, n, d, g, z⟩ := o
  unfold Ob.v at HC HA ⊢
  dsimp only at HC HA ⊢
  go_enter Tryd.func5, Tryd.ntmps5
  go_wp2_with (first
    | (go_at_call 9; refine (HC.out _).mono ?_; rintro e w1 ⟨rfl, k1⟩; have k2 := below_alloc_call k1; have r1 : w1.heap[w.heap.size]? = some (.cells (Ob.mk kd ⟨c, k⟩ th p n d g z).cs 26 (0, 0)) := kept_block (heap_alloc_new _ _) k1; obtain ⟨c0, c1, c2, c3, c4, c5, c6, c7, c8⟩ := cells9 r1; clear r1; clear k1)
    | (go_at_call 21; refine (HA.out _).mono ?_; rintro e w2 ⟨rfl, k3⟩))
  go_ret2
  exact ⟨rfl, k2.trans (k3.mono k2.size)⟩
set_option maxHeartbeats 1000000 in
theorem encode_no (o : Ob) (w : World) (h : o.chk ≠ 0) :
    Calls Tryd.prog 5 #[o.v] w fun e w' => e = .returned (.tuple #[.string ⟨#[]⟩, .int .i64 o.chk]) ∧ Below w.heap.size w w' := by
  have HC : Hid (∀ w, Calls Tryd.prog 9 #[o.v] w fun e w' => e = .returned (.int .i64 o.chk) ∧ Below w.heap.size w w') := fun w => checkOp_any o w
  have h0 : (o.chk == 0) = false := beq_eq_false_iff_ne.2 h
  clear h
  generalize o.chk = r at HC h0
  obtain ⟨kd, ⟨c, k⟩, th, p, n, d, g, z⟩ := o
  unfold Ob.v at HC ⊢
  dsimp only at HC ⊢
  go_enter Tryd.func5, Tryd.ntmps5
  go_wp2_with (go_at_call 9; refine (HC.out _).mono ?_; rintro e w1 ⟨rfl, k1⟩)
  go_ret2
  exact ⟨rfl, below_alloc_call k1⟩
end Go.Proofs.YtdcgemaaohldmaaDoor
/- Contract: an operation's bytes, the document's. -/
namespace Go.Proofs.YtdcgemaaohldmaaDoor
open Go.RowKit Go.Wire Go.Stamp Go.Opn
set_option maxRecDepth 100000 in
set_option maxHeartbeats 2000000 in
theorem rbytesOp_any (o : Ob) (w : World) (hok : o.tm.Ok) (hg : o.Good) :
    Calls Tryd.prog 15 #[o.v] w fun e w' => e = .returned (.string o.bytesB) ∧ Below w.heap.size w w' := by
  obtain ⟨i1, i2, i3, i4, i5, i6⟩ := Ob.good_is hg
  clear hg
  unfold Tm.Ok at hok
  obtain ⟨kd, ⟨c, k⟩, th, p, n, d, g, z⟩ := o
  dsimp only at hok i1 i2 i3 i4 i5 i6
  obtain ⟨c, rfl⟩ : ∃ c' : Nat, c = c' := ⟨c.toNat, by omega⟩
  obtain ⟨k, rfl⟩ : ∃ k' : Nat, k = k' := ⟨k.toNat, by omega⟩
  obtain ⟨th, rfl⟩ : ∃ t' : Nat, th = t' := ⟨th.toNat, by omega⟩
  obtain ⟨p, rfl⟩ : ∃ t' : Nat, p = t' := ⟨p.toNat, by omega⟩
  obtain ⟨z, rfl⟩ : ∃ t' : Nat, z = t' := ⟨z.toNat, by omega⟩
  have HT : Hid (∀ w, Calls Tryd.prog 46 #[.agg #[.int .u64 c, .int .i64 k]] w fun e w' => e = .returned (.string (numB 16 c ++ numB 2 k)) ∧ Below w.heap.size w w') := fun w => rbytesOf_any c k w (by omega) (by omega)
  have HTh : Hid (∀ w, Calls Tryd.prog 45 #[.int .u64 th, .int .i64 8] w fun e w' => e = .returned (.string (numB 16 th)) ∧ Below w.heap.size w w') := fun w => rnum_any th 8 w (by omega) (by decide)
  have HP : Hid (∀ w, Calls Tryd.prog 45 #[.int .u64 p, .int .i64 8] w fun e w' => e = .returned (.string (numB 16 p)) ∧ Below w.heap.size w w') := fun w => rnum_any p 8 w (by omega) (by decide)
  have HX : Hid (∀ w, Calls Tryd.prog 47 #[.string n] w fun e w' => e = .returned (.string (textB n)) ∧ Below w.heap.size w w') := fun w => rtextB_any n w (by omega)
  have HD : Hid (∀ w, Calls Tryd.prog 48 #[.bool d] w fun e w' => e = .returned (.string ⟨#[letter d]⟩) ∧ Below w.heap.size w w') := fun w => (rboolB_any d w).mono fun e w' ⟨h, k⟩ => ⟨h, by rw [k]; exact Below.refl _ _⟩
  have HZ : Hid (∀ w, Calls Tryd.prog 45 #[.int .u64 z, .int .i64 4] w fun e w' => e = .returned (.string (numB 8 z)) ∧ Below w.heap.size w w') := fun w => rnum_any z 4 w (by omega) (by decide)
  have HH : Hid (∀ w, Calls Tryd.prog 49 #[.string g] w fun e w' => e = .returned (.string ⟨(pad g.data.toList).toArray⟩) ∧ Below w.heap.size w w') := fun w => (rhash_any g w (by omega)).mono fun e w' ⟨h, k⟩ => ⟨h, by rw [k]; exact Below.refl _ _⟩
  have ez : IntKind.u64.wrap (z : Int) = z := by rw [Wire.wrap_u64]; omega
  have s1 : (numB 16 c ++ numB 2 k).size = 18 := by rw [ByteArray.size_append, numB_size, numB_size]
  have s2 := numB_size 16 th
  have s3 := numB_size 16 p
  have s4 : (textB n).size ≤ 40 := by rw [textB_size]; omega
  have s5 : (⟨#[letter d]⟩ : ByteArray).size = 1 := rfl
  have s6 := numB_size 8 z
  have s7 : (⟨(pad g.data.toList).toArray⟩ : ByteArray).size = 32 := by rw [size_list]; simp [pad_length]
  clear hok i1 i2 i4
  rcases i6 with ⟨rfl, hd, hz0⟩ | ⟨rfl, hd, hz0, hdir⟩ | ⟨rfl, hp0, hn0, hd, hz0, hdir⟩ | ⟨rfl, hp0, hn0, hdir, hdg⟩
  · have eb : (Ob.mk 1 ⟨c, k⟩ th p n d g z).bytesB = numB 2 1 ++ (numB 16 c ++ numB 2 k) ++ numB 16 th ++ ⟨#[letter d]⟩ ++ (numB 16 p ++ textB n) := by
      unfold Ob.bytesB Ob.bytes Ob.head Ob.spot
      rw [if_pos rfl]
      apply ext_list
      simp only [app_list, numB_list, textB]
      simp
    rw [eb]
    clear eb hd hz0
    have HK : Hid (∀ w, Calls Tryd.prog 45 #[.int .u64 1, .int .i64 1] w fun e w' => e = .returned (.string (numB 2 1)) ∧ Below w.heap.size w w') := fun w => rnum_any 1 1 w (by decide) (by decide)
    have s0 := numB_size 2 1
    generalize numB 2 1 = x0 at HK s0 ⊢
    generalize numB 16 c ++ numB 2 k = x1 at HT s1 ⊢
    generalize numB 16 th = x2 at HTh s2 ⊢
    generalize numB 16 p = x3 at HP s3 ⊢
    generalize textB n = x4 at HX s4 ⊢
    generalize (⟨#[letter d]⟩ : ByteArray) = x5 at HD s5 ⊢
    generalize numB 8 z = x6 at HZ s6 ⊢
    generalize (⟨(pad g.data.toList).toArray⟩ : ByteArray) = x7 at HH s7 ⊢
    unfold Ob.v
    dsimp only
    go_enter Tryd.func15, Tryd.ntmps15
    go_wp2_with fail
    obtain ⟨W, hW⟩ : ∃ W, W = w.alloc (.cells (Ob.mk 1 ⟨c, k⟩ th p n d g z).cs 33) := ⟨_, rfl⟩
    rw [← hW]
    have HW : Hid (W.heap[w.heap.size]? = some (.cells (Ob.mk 1 ⟨c, k⟩ th p n d g z).cs 33 (0, 0)) ∧ Below w.heap.size w W) := by rw [hW]; exact ⟨heap_alloc_new _ _, (Below.refl _ _).alloc (Nat.le_refl _) _⟩
    clear hW
    have c0 := cell_regrown (cells9 HW.out.1).1
    have c3 := cell_regrown (cells9 HW.out.1).2.2.2.1
    refine QuietCalls.region (by kernel_rfl) (by kernel_rfl) ?_
    first | go_big_quiet_step (fail) | quiet_step (fail)
    first | go_big_quiet_step (fail) | quiet_step (fail)
    first | go_big_quiet_step (fail) | quiet_step (fail)
    refine QuietCalls.call2 rfl rfl Tryd.call45 (fun w _ => HK.out w) rfl rfl ?_; simp only [Act.put, List.setIfInBounds_toArray, List.set_cons_succ, List.set_cons_zero]
    first | go_big_quiet_step (fail) | quiet_step (fail)
    refine QuietCalls.loadMid rfl 31 _ rfl _ _ rfl [.int .u64 c, .int .i64 k] _ (fun w k => range_tm (kept_block HW.out.1 k)) Tryd.underlying31 rfl info27 ?_; simp only [Act.put, List.setIfInBounds_toArray, List.set_cons_succ, List.set_cons_zero]
    refine QuietCalls.call1 rfl rfl Tryd.call46 (fun w _ => HT.out w) rfl ?_; simp only [Act.put, List.setIfInBounds_toArray, List.set_cons_succ, List.set_cons_zero]
    first | go_big_quiet_step (fail) | quiet_step (fail)
    first | go_big_quiet_step (fail) | quiet_step (fail)
    first | go_big_quiet_step (fail) | quiet_step (fail)
    refine QuietCalls.call2 rfl rfl Tryd.call45 (fun w _ => HTh.out w) rfl rfl ?_; simp only [Act.put, List.setIfInBounds_toArray, List.set_cons_succ, List.set_cons_zero]
    first | go_big_quiet_step (fail) | quiet_step (fail)
    first | go_big_quiet_step (fail) | quiet_step (fail)
    refine wpQuiet_nil ?_
    intro w1 k1
    replace HW : Hid (w1.heap[w.heap.size]? = some (.cells (Ob.mk 1 ⟨c, k⟩ th p n d g z).cs 33 (0, 0)) ∧ Below w.heap.size w w1) := ⟨kept_block HW.out.1 k1, HW.out.2.trans (k1.mono HW.out.2.size)⟩
    clear k1 c0 c3
    go_wp2_with fail
    have c4 := cell_regrown (cells9 HW.out.1).2.2.2.2.1
    have c5 := cell_regrown (cells9 HW.out.1).2.2.2.2.2.1
    refine QuietCalls.region (by kernel_rfl) (by kernel_rfl) ?_
    first | go_big_quiet_step (fail) | quiet_step (fail)
    first | go_big_quiet_step (fail) | quiet_step (fail)
    refine QuietCalls.call2 rfl rfl Tryd.call45 (fun w _ => HP.out w) rfl rfl ?_; simp only [Act.put, List.setIfInBounds_toArray, List.set_cons_succ, List.set_cons_zero]
    first | go_big_quiet_step (fail) | quiet_step (fail)
    first | go_big_quiet_step (fail) | quiet_step (fail)
    refine QuietCalls.call1 rfl rfl Tryd.call47 (fun w _ => HX.out w) rfl ?_; simp only [Act.put, List.setIfInBounds_toArray, List.set_cons_succ, List.set_cons_zero]
    first | go_big_quiet_step (fail) | quiet_step (fail)
    first | go_big_quiet_step (fail) | quiet_step (fail)
    refine wpQuiet_nil ?_
    intro w2 k2
    replace HW : Hid (w2.heap[w.heap.size]? = some (.cells (Ob.mk 1 ⟨c, k⟩ th p n d g z).cs 33 (0, 0)) ∧ Below w.heap.size w w2) := ⟨kept_block HW.out.1 k2, HW.out.2.trans (k2.mono HW.out.2.size)⟩
    clear k2 c4 c5
    obtain ⟨c0, c1, c2, c3, c4, c5, c6, c7, c8⟩ := cells9 HW.out.1
    go_wp2_with (go_at_call 48; refine (HD.out _).mono ?_; rintro e w3 ⟨rfl, k3⟩)
    go_ret
    exact ⟨rfl, HW.out.2.trans (k3.mono HW.out.2.size)⟩
  · have eb : (Ob.mk 2 ⟨c, k⟩ th p n d g z).bytesB = numB 2 2 ++ (numB 16 c ++ numB 2 k) ++ numB 16 th ++ (numB 16 p ++ textB n) := by
      unfold Ob.bytesB Ob.bytes Ob.head Ob.spot
      rw [if_neg (show ¬ ((2 : Int) = 1) by decide), if_pos rfl]
      apply ext_list
      simp only [app_list, numB_list, textB]
      simp
    rw [eb]
    clear eb hd hz0 hdir
    have HK : Hid (∀ w, Calls Tryd.prog 45 #[.int .u64 2, .int .i64 1] w fun e w' => e = .returned (.string (numB 2 2)) ∧ Below w.heap.size w w') := fun w => rnum_any 2 1 w (by decide) (by decide)
    have s0 := numB_size 2 2
    generalize numB 2 2 = x0 at HK s0 ⊢
    generalize numB 16 c ++ numB 2 k = x1 at HT s1 ⊢
    generalize numB 16 th = x2 at HTh s2 ⊢
    generalize numB 16 p = x3 at HP s3 ⊢
    generalize textB n = x4 at HX s4 ⊢
    generalize (⟨#[letter d]⟩ : ByteArray) = x5 at HD s5 ⊢
    generalize numB 8 z = x6 at HZ s6 ⊢
    generalize (⟨(pad g.data.toList).toArray⟩ : ByteArray) = x7 at HH s7 ⊢
    unfold Ob.v
    dsimp only
    go_enter Tryd.func15, Tryd.ntmps15
    go_wp2_with fail
    obtain ⟨W, hW⟩ : ∃ W, W = w.alloc (.cells (Ob.mk 2 ⟨c, k⟩ th p n d g z).cs 33) := ⟨_, rfl⟩
    rw [← hW]
    have HW : Hid (W.heap[w.heap.size]? = some (.cells (Ob.mk 2 ⟨c, k⟩ th p n d g z).cs 33 (0, 0)) ∧ Below w.heap.size w W) := by rw [hW]; exact ⟨heap_alloc_new _ _, (Below.refl _ _).alloc (Nat.le_refl _) _⟩
    clear hW
    have c0 := cell_regrown (cells9 HW.out.1).1
    have c3 := cell_regrown (cells9 HW.out.1).2.2.2.1
    refine QuietCalls.region (by kernel_rfl) (by kernel_rfl) ?_
    first | go_big_quiet_step (fail) | quiet_step (fail)
    first | go_big_quiet_step (fail) | quiet_step (fail)
    first | go_big_quiet_step (fail) | quiet_step (fail)
    refine QuietCalls.call2 rfl rfl Tryd.call45 (fun w _ => HK.out w) rfl rfl ?_; simp only [Act.put, List.setIfInBounds_toArray, List.set_cons_succ, List.set_cons_zero]
    first | go_big_quiet_step (fail) | quiet_step (fail)
    refine QuietCalls.loadMid rfl 31 _ rfl _ _ rfl [.int .u64 c, .int .i64 k] _ (fun w k => range_tm (kept_block HW.out.1 k)) Tryd.underlying31 rfl info27 ?_; simp only [Act.put, List.setIfInBounds_toArray, List.set_cons_succ, List.set_cons_zero]
    refine QuietCalls.call1 rfl rfl Tryd.call46 (fun w _ => HT.out w) rfl ?_; simp only [Act.put, List.setIfInBounds_toArray, List.set_cons_succ, List.set_cons_zero]
    first | go_big_quiet_step (fail) | quiet_step (fail)
    first | go_big_quiet_step (fail) | quiet_step (fail)
    first | go_big_quiet_step (fail) | quiet_step (fail)
    refine QuietCalls.call2 rfl rfl Tryd.call45 (fun w _ => HTh.out w) rfl rfl ?_; simp only [Act.put, List.setIfInBounds_toArray, List.set_cons_succ, List.set_cons_zero]
    first | go_big_quiet_step (fail) | quiet_step (fail)
    first | go_big_quiet_step (fail) | quiet_step (fail)
    refine wpQuiet_nil ?_
    intro w1 k1
    replace HW : Hid (w1.heap[w.heap.size]? = some (.cells (Ob.mk 2 ⟨c, k⟩ th p n d g z).cs 33 (0, 0)) ∧ Below w.heap.size w w1) := ⟨kept_block HW.out.1 k1, HW.out.2.trans (k1.mono HW.out.2.size)⟩
    clear k1 c0 c3
    go_wp2_with fail
    have c4 := cell_regrown (cells9 HW.out.1).2.2.2.2.1
    have c5 := cell_regrown (cells9 HW.out.1).2.2.2.2.2.1
    refine QuietCalls.region (by kernel_rfl) (by kernel_rfl) ?_
    first | go_big_quiet_step (fail) | quiet_step (fail)
    first | go_big_quiet_step (fail) | quiet_step (fail)
    refine QuietCalls.call2 rfl rfl Tryd.call45 (fun w _ => HP.out w) rfl rfl ?_; simp only [Act.put, List.setIfInBounds_toArray, List.set_cons_succ, List.set_cons_zero]
    first | go_big_quiet_step (fail) | quiet_step (fail)
    first | go_big_quiet_step (fail) | quiet_step (fail)
    refine QuietCalls.call1 rfl rfl Tryd.call47 (fun w _ => HX.out w) rfl ?_; simp only [Act.put, List.setIfInBounds_toArray, List.set_cons_succ, List.set_cons_zero]
    first | go_big_quiet_step (fail) | quiet_step (fail)
    first | go_big_quiet_step (fail) | quiet_step (fail)
    refine wpQuiet_nil ?_
    intro w2 k2
    replace HW : Hid (w2.heap[w.heap.size]? = some (.cells (Ob.mk 2 ⟨c, k⟩ th p n d g z).cs 33 (0, 0)) ∧ Below w.heap.size w w2) := ⟨kept_block HW.out.1 k2, HW.out.2.trans (k2.mono HW.out.2.size)⟩
    clear k2 c4 c5
    obtain ⟨c0, c1, c2, c3, c4, c5, c6, c7, c8⟩ := cells9 HW.out.1
    go_wp2_with fail
    go_ret
    exact ⟨rfl, HW.out.2⟩
  · have eb : (Ob.mk 3 ⟨c, k⟩ th p n d g z).bytesB = numB 2 3 ++ (numB 16 c ++ numB 2 k) ++ numB 16 th := by
      unfold Ob.bytesB Ob.bytes Ob.head Ob.spot
      rw [if_neg (show ¬ ((3 : Int) = 1) by decide), if_neg (show ¬ ((3 : Int) = 2) by decide), if_neg (show ¬ ((3 : Int) = 4) by decide)]
      apply ext_list
      simp only [app_list, numB_list]
      simp
    rw [eb]
    clear eb hd hz0 hdir hn0 hp0
    have HK : Hid (∀ w, Calls Tryd.prog 45 #[.int .u64 3, .int .i64 1] w fun e w' => e = .returned (.string (numB 2 3)) ∧ Below w.heap.size w w') := fun w => rnum_any 3 1 w (by decide) (by decide)
    have s0 := numB_size 2 3
    generalize numB 2 3 = x0 at HK s0 ⊢
    generalize numB 16 c ++ numB 2 k = x1 at HT s1 ⊢
    generalize numB 16 th = x2 at HTh s2 ⊢
    generalize numB 16 p = x3 at HP s3 ⊢
    generalize textB n = x4 at HX s4 ⊢
    generalize (⟨#[letter d]⟩ : ByteArray) = x5 at HD s5 ⊢
    generalize numB 8 z = x6 at HZ s6 ⊢
    generalize (⟨(pad g.data.toList).toArray⟩ : ByteArray) = x7 at HH s7 ⊢
    unfold Ob.v
    dsimp only
    go_enter Tryd.func15, Tryd.ntmps15
    go_wp2_with fail
    obtain ⟨W, hW⟩ : ∃ W, W = w.alloc (.cells (Ob.mk 3 ⟨c, k⟩ th p n d g z).cs 33) := ⟨_, rfl⟩
    rw [← hW]
    have HW : Hid (W.heap[w.heap.size]? = some (.cells (Ob.mk 3 ⟨c, k⟩ th p n d g z).cs 33 (0, 0)) ∧ Below w.heap.size w W) := by rw [hW]; exact ⟨heap_alloc_new _ _, (Below.refl _ _).alloc (Nat.le_refl _) _⟩
    clear hW
    have c0 := cell_regrown (cells9 HW.out.1).1
    have c3 := cell_regrown (cells9 HW.out.1).2.2.2.1
    refine QuietCalls.region (by kernel_rfl) (by kernel_rfl) ?_
    first | go_big_quiet_step (fail) | quiet_step (fail)
    first | go_big_quiet_step (fail) | quiet_step (fail)
    first | go_big_quiet_step (fail) | quiet_step (fail)
    refine QuietCalls.call2 rfl rfl Tryd.call45 (fun w _ => HK.out w) rfl rfl ?_; simp only [Act.put, List.setIfInBounds_toArray, List.set_cons_succ, List.set_cons_zero]
    first | go_big_quiet_step (fail) | quiet_step (fail)
    refine QuietCalls.loadMid rfl 31 _ rfl _ _ rfl [.int .u64 c, .int .i64 k] _ (fun w k => range_tm (kept_block HW.out.1 k)) Tryd.underlying31 rfl info27 ?_; simp only [Act.put, List.setIfInBounds_toArray, List.set_cons_succ, List.set_cons_zero]
    refine QuietCalls.call1 rfl rfl Tryd.call46 (fun w _ => HT.out w) rfl ?_; simp only [Act.put, List.setIfInBounds_toArray, List.set_cons_succ, List.set_cons_zero]
    first | go_big_quiet_step (fail) | quiet_step (fail)
    first | go_big_quiet_step (fail) | quiet_step (fail)
    first | go_big_quiet_step (fail) | quiet_step (fail)
    refine QuietCalls.call2 rfl rfl Tryd.call45 (fun w _ => HTh.out w) rfl rfl ?_; simp only [Act.put, List.setIfInBounds_toArray, List.set_cons_succ, List.set_cons_zero]
    first | go_big_quiet_step (fail) | quiet_step (fail)
    first | go_big_quiet_step (fail) | quiet_step (fail)
    refine wpQuiet_nil ?_
    intro w1 k1
    replace HW : Hid (w1.heap[w.heap.size]? = some (.cells (Ob.mk 3 ⟨c, k⟩ th p n d g z).cs 33 (0, 0)) ∧ Below w.heap.size w w1) := ⟨kept_block HW.out.1 k1, HW.out.2.trans (k1.mono HW.out.2.size)⟩
    clear k1 c0 c3
    go_wp2_with fail
    have c4 := cell_regrown (cells9 HW.out.1).2.2.2.2.1
    have c5 := cell_regrown (cells9 HW.out.1).2.2.2.2.2.1
    refine QuietCalls.region (by kernel_rfl) (by kernel_rfl) ?_
    first | go_big_quiet_step (fail) | quiet_step (fail)
    first | go_big_quiet_step (fail) | quiet_step (fail)
    refine QuietCalls.call2 rfl rfl Tryd.call45 (fun w _ => HP.out w) rfl rfl ?_; simp only [Act.put, List.setIfInBounds_toArray, List.set_cons_succ, List.set_cons_zero]
    first | go_big_quiet_step (fail) | quiet_step (fail)
    first | go_big_quiet_step (fail) | quiet_step (fail)
    refine QuietCalls.call1 rfl rfl Tryd.call47 (fun w _ => HX.out w) rfl ?_; simp only [Act.put, List.setIfInBounds_toArray, List.set_cons_succ, List.set_cons_zero]
    first | go_big_quiet_step (fail) | quiet_step (fail)
    first | go_big_quiet_step (fail) | quiet_step (fail)
    refine wpQuiet_nil ?_
    intro w2 k2
    replace HW : Hid (w2.heap[w.heap.size]? = some (.cells (Ob.mk 3 ⟨c, k⟩ th p n d g z).cs 33 (0, 0)) ∧ Below w.heap.size w w2) := ⟨kept_block HW.out.1 k2, HW.out.2.trans (k2.mono HW.out.2.size)⟩
    clear k2 c4 c5
    obtain ⟨c0, c1, c2, c3, c4, c5, c6, c7, c8⟩ := cells9 HW.out.1
    go_wp2_with fail
    go_ret
    exact ⟨rfl, HW.out.2⟩
  · have eb : (Ob.mk 4 ⟨c, k⟩ th p n d g z).bytesB = numB 2 4 ++ (numB 16 c ++ numB 2 k) ++ numB 16 th ++ ⟨(pad g.data.toList).toArray⟩ ++ numB 8 z := by
      unfold Ob.bytesB Ob.bytes Ob.head Ob.spot
      rw [if_neg (show ¬ ((4 : Int) = 1) by decide), if_neg (show ¬ ((4 : Int) = 2) by decide), if_pos rfl]
      apply ext_list
      simp only [app_list, numB_list, pad_full g hdg]
      simp
    rw [eb]
    clear eb hdir hn0 hp0 hdg
    have HK : Hid (∀ w, Calls Tryd.prog 45 #[.int .u64 4, .int .i64 1] w fun e w' => e = .returned (.string (numB 2 4)) ∧ Below w.heap.size w w') := fun w => rnum_any 4 1 w (by decide) (by decide)
    have s0 := numB_size 2 4
    generalize numB 2 4 = x0 at HK s0 ⊢
    generalize numB 16 c ++ numB 2 k = x1 at HT s1 ⊢
    generalize numB 16 th = x2 at HTh s2 ⊢
    generalize numB 16 p = x3 at HP s3 ⊢
    generalize textB n = x4 at HX s4 ⊢
    generalize (⟨#[letter d]⟩ : ByteArray) = x5 at HD s5 ⊢
    generalize numB 8 z = x6 at HZ s6 ⊢
    generalize (⟨(pad g.data.toList).toArray⟩ : ByteArray) = x7 at HH s7 ⊢
    unfold Ob.v
    dsimp only
    go_enter Tryd.func15, Tryd.ntmps15
    go_wp2_with fail
    obtain ⟨W, hW⟩ : ∃ W, W = w.alloc (.cells (Ob.mk 4 ⟨c, k⟩ th p n d g z).cs 33) := ⟨_, rfl⟩
    rw [← hW]
    have HW : Hid (W.heap[w.heap.size]? = some (.cells (Ob.mk 4 ⟨c, k⟩ th p n d g z).cs 33 (0, 0)) ∧ Below w.heap.size w W) := by rw [hW]; exact ⟨heap_alloc_new _ _, (Below.refl _ _).alloc (Nat.le_refl _) _⟩
    clear hW
    have c0 := cell_regrown (cells9 HW.out.1).1
    have c3 := cell_regrown (cells9 HW.out.1).2.2.2.1
    refine QuietCalls.region (by kernel_rfl) (by kernel_rfl) ?_
    first | go_big_quiet_step (fail) | quiet_step (fail)
    first | go_big_quiet_step (fail) | quiet_step (fail)
    first | go_big_quiet_step (fail) | quiet_step (fail)
    refine QuietCalls.call2 rfl rfl Tryd.call45 (fun w _ => HK.out w) rfl rfl ?_; simp only [Act.put, List.setIfInBounds_toArray, List.set_cons_succ, List.set_cons_zero]
    first | go_big_quiet_step (fail) | quiet_step (fail)
    refine QuietCalls.loadMid rfl 31 _ rfl _ _ rfl [.int .u64 c, .int .i64 k] _ (fun w k => range_tm (kept_block HW.out.1 k)) Tryd.underlying31 rfl info27 ?_; simp only [Act.put, List.setIfInBounds_toArray, List.set_cons_succ, List.set_cons_zero]
    refine QuietCalls.call1 rfl rfl Tryd.call46 (fun w _ => HT.out w) rfl ?_; simp only [Act.put, List.setIfInBounds_toArray, List.set_cons_succ, List.set_cons_zero]
    first | go_big_quiet_step (fail) | quiet_step (fail)
    first | go_big_quiet_step (fail) | quiet_step (fail)
    first | go_big_quiet_step (fail) | quiet_step (fail)
    refine QuietCalls.call2 rfl rfl Tryd.call45 (fun w _ => HTh.out w) rfl rfl ?_; simp only [Act.put, List.setIfInBounds_toArray, List.set_cons_succ, List.set_cons_zero]
    first | go_big_quiet_step (fail) | quiet_step (fail)
    first | go_big_quiet_step (fail) | quiet_step (fail)
    refine wpQuiet_nil ?_
    intro w1 k1
    replace HW : Hid (w1.heap[w.heap.size]? = some (.cells (Ob.mk 4 ⟨c, k⟩ th p n d g z).cs 33 (0, 0)) ∧ Below w.heap.size w w1) := ⟨kept_block HW.out.1 k1, HW.out.2.trans (k1.mono HW.out.2.size)⟩
    clear k1 c0 c3
    go_wp2_with fail
    have c4 := cell_regrown (cells9 HW.out.1).2.2.2.2.1
    have c5 := cell_regrown (cells9 HW.out.1).2.2.2.2.2.1
    refine QuietCalls.region (by kernel_rfl) (by kernel_rfl) ?_
    first | go_big_quiet_step (fail) | quiet_step (fail)
    first | go_big_quiet_step (fail) | quiet_step (fail)
    refine QuietCalls.call2 rfl rfl Tryd.call45 (fun w _ => HP.out w) rfl rfl ?_; simp only [Act.put, List.setIfInBounds_toArray, List.set_cons_succ, List.set_cons_zero]
    first | go_big_quiet_step (fail) | quiet_step (fail)
    first | go_big_quiet_step (fail) | quiet_step (fail)
    refine QuietCalls.call1 rfl rfl Tryd.call47 (fun w _ => HX.out w) rfl ?_; simp only [Act.put, List.setIfInBounds_toArray, List.set_cons_succ, List.set_cons_zero]
    first | go_big_quiet_step (fail) | quiet_step (fail)
    first | go_big_quiet_step (fail) | quiet_step (fail)
    refine wpQuiet_nil ?_
    intro w2 k2
    replace HW : Hid (w2.heap[w.heap.size]? = some (.cells (Ob.mk 4 ⟨c, k⟩ th p n d g z).cs 33 (0, 0)) ∧ Below w.heap.size w w2) := ⟨kept_block HW.out.1 k2, HW.out.2.trans (k2.mono HW.out.2.size)⟩
    clear k2 c4 c5
    obtain ⟨c0, c1, c2, c3, c4, c5, c6, c7, c8⟩ := cells9 HW.out.1
    go_wp2_with fail
    replace c7 := cell_regrown c7
    replace c8 := cell_regrown c8
    refine QuietCalls.region (by kernel_rfl) (by kernel_rfl) ?_
    first | go_big_quiet_step (fail) | quiet_step (fail)
    first | go_big_quiet_step (fail) | quiet_step (fail)
    first | go_big_quiet_step (fail) | quiet_step (fail)
    refine QuietCalls.call1 rfl rfl Tryd.call49 (fun w _ => HH.out w) rfl ?_; simp only [Act.put, List.setIfInBounds_toArray, List.set_cons_succ, List.set_cons_zero]
    first | go_big_quiet_step (fail) | quiet_step (fail)
    first | go_big_quiet_step (fail) | quiet_step (fail)
    first | go_big_quiet_step (fail) | quiet_step (fail)
    first | go_big_quiet_step (fail) | quiet_step (fail)
    refine QuietCalls.call2 rfl rfl Tryd.call45 (fun w _ => HZ.out w) rfl rfl ?_; simp only [Act.put, List.setIfInBounds_toArray, List.set_cons_succ, List.set_cons_zero]
    first | go_big_quiet_step (fail) | quiet_step (fail)
    first | go_big_quiet_step (fail) | quiet_step (fail)
    refine wpQuiet_nil ?_
    intro w3 k3
    go_wp2_with fail
    go_ret
    exact ⟨rfl, HW.out.2.trans (k3.mono HW.out.2.size)⟩
end Go.Proofs.YtdcgemaaohldmaaDoor
