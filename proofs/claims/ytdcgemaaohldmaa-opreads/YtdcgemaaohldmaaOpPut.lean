/- Contracts: an operation put, its bytes, the program's. -/
import Derived.Test.YtdcgemaaohldmaaOpCheck2
namespace Go.Opn
open Go.RowKit Go.Wire Go.Stamp
/-- An operation in block g is being put into the writer v, which has l. -/
structure PutAt (T S B g : Nat) (v : Value) (o : Ob) (w0 : World) (l : List UInt8) (w : World) : Prop where
  hw : WAt T B v l w
  ho : w.heap[g]? = some (.cells o.cs S (0, 0))
  hB : B ≤ w.heap.size
  wrote : Wrote B v w0 w
theorem PutAt.step {T S B g : Nat} {v : Value} {o : Ob} {w0 w w' : World} {l l' : List UInt8} (i : PutAt T S B g v o w0 l w) (hv : v ≠ .pointer (some ⟨g, 0, none⟩)) (hS : S ≠ 5) (h : WAt T B v l' w') (k : Wrote B v w w') : PutAt T S B g v o w0 l' w' :=
  ⟨h, k.row hv hS i.ho, Nat.le_trans i.hB k.below.size, i.wrote.trans k⟩
theorem pad_full (x : ByteArray) (h : x.size = 32) : pad x.data.toList = x.data.toList := by
  rw [size_list] at h
  unfold pad
  rw [h, List.take_of_length_le (by omega)]
  simp
end Go.Opn
namespace Go.Proofs.Ytdcgemaaohldmaa
open Go.RowKit Go.Wire Go.Stamp Go.Opn
set_option maxRecDepth 100000 in
set_option maxHeartbeats 1000000 in
theorem putOp_any (B : Nat) (v : Value) (l : List UInt8) (o : Ob) (w : World) (h : WAt 99 B v l w) (hl : l.length + 200 ≤ 140737488355328) (hB : B ≤ w.heap.size) (hok : o.tm.Ok) (hg : o.Good) :
    Calls Try.prog 57 #[v, o.v] w fun e w' => e = .returned (.tuple #[]) ∧ WAt 99 B v (l ++ o.bytes) w' ∧ Wrote B v w w' := by
  have i := Ob.good_is hg
  have I : Hid (PutAt 99 26 B w.heap.size v o w l (w.alloc (.cells o.cs 26))) :=
    ⟨h.below ((Below.refl _ _).alloc (Nat.le_refl _) _), heap_alloc_new _ _, by simp; omega, Wrote.of ((Below.refl _ _).alloc (Nat.le_refl _) _) hB⟩
  have HV : v ≠ .pointer (some ⟨w.heap.size, 0, none⟩) := wat_ne h (Nat.le_refl _)
  have HN1 : Hid (∀ (n : Nat) (L : List UInt8) (w1 : World), PutAt 99 26 B w.heap.size v o w L w1 → L.length ≤ l.length + 100 → n < 18446744073709551616 → Calls Try.prog 60 #[v, .int .u64 n, .int .i64 1] w1 fun e w' => e = .returned (.tuple #[]) ∧ PutAt 99 26 B w.heap.size v o w (L ++ num 2 n) w') := fun n L w1 j hL hn =>
    (wnumber_sp B v L n 1 w1 j.hw (.inr (by omega)) j.hB hn).mono fun e w' ⟨a, b, c⟩ => ⟨a, j.step HV (by decide) b c⟩
  have HN8 : Hid (∀ (n : Nat) (L : List UInt8) (w1 : World), PutAt 99 26 B w.heap.size v o w L w1 → L.length ≤ l.length + 100 → n < 18446744073709551616 → Calls Try.prog 60 #[v, .int .u64 n, .int .i64 8] w1 fun e w' => e = .returned (.tuple #[]) ∧ PutAt 99 26 B w.heap.size v o w (L ++ num 16 n) w') := fun n L w1 j hL hn =>
    (wnumber_sp B v L n 8 w1 j.hw (.inr (by omega)) j.hB hn).mono fun e w' ⟨a, b, c⟩ => ⟨a, j.step HV (by decide) b c⟩
  have HP : Hid (∀ (c k : Nat) (L : List UInt8) (w1 : World), PutAt 99 26 B w.heap.size v o w L w1 → L.length ≤ l.length + 100 → c < 18446744073709551616 → k < 256 → Calls Try.prog 61 #[v, .agg #[.int .u64 c, .int .i64 k]] w1 fun e w' => e = .returned (.tuple #[]) ∧ PutAt 99 26 B w.heap.size v o w (L ++ num 16 c ++ num 2 k) w') := fun c k L w1 j hL hc hk =>
    (put_any B v L c k w1 j.hw (.inr (by omega)) j.hB hc hk).mono fun e w' ⟨a, b, d⟩ => ⟨a, j.step HV (by decide) b d⟩
  have HBo : Hid (∀ (x : Bool) (L : List UInt8) (w1 : World), PutAt 99 26 B w.heap.size v o w L w1 → L.length ≤ l.length + 100 → Calls Try.prog 62 #[v, .bool x] w1 fun e w' => e = .returned (.tuple #[]) ∧ PutAt 99 26 B w.heap.size v o w (L ++ [letter x]) w') := fun x L w1 j hL =>
    (wbool_sp B v L x w1 j.hw (.inr (by omega)) j.hB).mono fun e w' ⟨a, b, c⟩ => ⟨a, j.step HV (by decide) b c⟩
  have HTx : Hid (∀ (x : ByteArray) (L : List UInt8) (w1 : World), PutAt 99 26 B w.heap.size v o w L w1 → L.length ≤ l.length + 100 → x.size ≤ 32 → Calls Try.prog 63 #[v, .string x] w1 fun e w' => e = .returned (.tuple #[]) ∧ PutAt 99 26 B w.heap.size v o w (L ++ (num 8 x.size ++ x.data.toList)) w') := fun x L w1 j hL hx =>
    (wtext_sp B v L x w1 j.hw (.inr (by omega)) j.hB (by unfold maxLen; omega)).mono fun e w' ⟨a, b, c⟩ => ⟨a, j.step HV (by decide) b c⟩
  have HHa : Hid (∀ (x : ByteArray) (L : List UInt8) (w1 : World), PutAt 99 26 B w.heap.size v o w L w1 → L.length ≤ l.length + 100 → x.size = 32 → Calls Try.prog 64 #[v, .string x] w1 fun e w' => e = .returned (.tuple #[]) ∧ PutAt 99 26 B w.heap.size v o w (L ++ x.data.toList) w') := fun x L w1 j hL hx =>
    (whash_sp B v L x w1 j.hw (.inr (by omega)) j.hB).mono fun e w' ⟨a, b, c⟩ => ⟨a, j.step HV (by decide) (by rw [pad_full x hx] at b; exact b) c⟩
  have HCo : Hid (∀ (n : Nat) (L : List UInt8) (w1 : World), PutAt 99 26 B w.heap.size v o w L w1 → L.length ≤ l.length + 100 → n ≤ 8192 → Calls Try.prog 65 #[v, .int .i64 n] w1 fun e w' => e = .returned (.tuple #[]) ∧ PutAt 99 26 B w.heap.size v o w (L ++ num 8 n) w') := fun n L w1 j hL hn =>
    (wcount_sp B v L n w1 j.hw (.inr (by omega)) j.hB (by omega)).mono fun e w' ⟨a, b, c⟩ => ⟨a, j.step HV (by decide) (by rw [show (max (n : Int) 0).toNat = n by omega] at b; exact b) c⟩
  obtain ⟨i1, i2, i3, i4, i5, i6⟩ := i
  clear h hg
  unfold Tm.Ok at hok
  obtain ⟨kd, ⟨c, k⟩, th, p, n, d, g, z⟩ := o
  dsimp only at hok i1 i2 i3 i4 i5 i6
  obtain ⟨c, rfl⟩ : ∃ c' : Nat, c = c' := ⟨c.toNat, by omega⟩
  obtain ⟨k, rfl⟩ : ∃ k' : Nat, k = k' := ⟨k.toNat, by omega⟩
  obtain ⟨th, rfl⟩ : ∃ t' : Nat, th = t' := ⟨th.toNat, by omega⟩
  obtain ⟨p, rfl⟩ : ∃ t' : Nat, p = t' := ⟨p.toNat, by omega⟩
  obtain ⟨z, rfl⟩ : ∃ t' : Nat, z = t' := ⟨z.toNat, by omega⟩
  have hz : z ≤ 8192 := by omega
  have hp : p < 18446744073709551616 := by omega
  have ht : th < 18446744073709551616 := by omega
  have hc : c < 18446744073709551616 := by omega
  have hk : k < 256 := by omega
  clear hok i1 i2 i4 hB
  unfold Ob.v
  rcases i6 with ⟨rfl, hd, hz0⟩ | ⟨rfl, hd, hz0, hdir⟩ | ⟨rfl, hp0, hn0, hd, hz0, hdir⟩ | ⟨rfl, hp0, hn0, hdir, hdg⟩
  · have eb : (Ob.mk 1 ⟨c, k⟩ th p n d g z).bytes = num 2 1 ++ (num 16 c ++ num 2 k) ++ num 16 th ++ [letter d] ++ (num 16 p ++ (num 8 n.size ++ n.data.toList)) := by
      unfold Ob.bytes Ob.head Ob.spot; rw [if_pos rfl]; rfl
    have el : l ++ (num 2 1 ++ (num 16 c ++ num 2 k) ++ num 16 th ++ [letter d] ++ (num 16 p ++ (num 8 n.size ++ n.data.toList))) = l ++ num 2 1 ++ num 16 c ++ num 2 k ++ num 16 th ++ [letter d] ++ num 16 p ++ (num 8 n.size ++ n.data.toList) := by simp only [List.append_assoc]
    rw [eb, el]
    clear eb el hd hz0
    go_enter Try.func57, Try.ntmps57
    go_wp2_with (first
      | (go_at_call_of 60 (Value.int IntKind.i64 1); refine (HN1.out 1 _ _ I.out (by omega) (by decide)).mono ?_; rintro e w1 ⟨rfl, i⟩; replace I : Hid _ := i; clear i; obtain ⟨c0, c1, c2, c3, c4, c5, c6, c7, c8⟩ := cells9 I.out.ho)
      | (go_at_call 61; refine (HP.out c k _ _ I.out (by simp only [List.length_append, num_length]; omega) hc hk).mono ?_; rintro e w1 ⟨rfl, i⟩; replace I : Hid _ := i; clear i c0 c1 c2 c3 c4 c5 c6 c7 c8; obtain ⟨c0, c1, c2, c3, c4, c5, c6, c7, c8⟩ := cells9 I.out.ho)
      | (go_at_call_of 60 (Value.int IntKind.u64 (th : Int)); refine (HN8.out th _ _ I.out (by simp only [List.length_append, num_length]; omega) ht).mono ?_; rintro e w1 ⟨rfl, i⟩; replace I : Hid _ := i; clear i c0 c1 c2 c3 c4 c5 c6 c7 c8; obtain ⟨c0, c1, c2, c3, c4, c5, c6, c7, c8⟩ := cells9 I.out.ho)
      | (go_at_call 62; refine (HBo.out d _ _ I.out (by simp only [List.length_append, num_length]; omega)).mono ?_; rintro e w1 ⟨rfl, i⟩; replace I : Hid _ := i; clear i c0 c1 c2 c3 c4 c5 c6 c7 c8; obtain ⟨c0, c1, c2, c3, c4, c5, c6, c7, c8⟩ := cells9 I.out.ho)
      | (go_at_call_of 60 (Value.int IntKind.u64 (p : Int)); refine (HN8.out p _ _ I.out (by simp only [List.length_append, num_length, List.length_singleton]; omega) hp).mono ?_; rintro e w1 ⟨rfl, i⟩; replace I : Hid _ := i; clear i c0 c1 c2 c3 c4 c5 c6 c7 c8; obtain ⟨c0, c1, c2, c3, c4, c5, c6, c7, c8⟩ := cells9 I.out.ho)
      | (go_at_call 63; refine (HTx.out n _ _ I.out (by simp only [List.length_append, num_length, List.length_singleton]; omega) i3).mono ?_; rintro e w1 ⟨rfl, i⟩; replace I : Hid _ := i; clear i c0 c1 c2 c3 c4 c5 c6 c7 c8; obtain ⟨c0, c1, c2, c3, c4, c5, c6, c7, c8⟩ := cells9 I.out.ho))
    go_end0
    exact ⟨rfl, I.out.hw, I.out.wrote⟩
  · have eb : (Ob.mk 2 ⟨c, k⟩ th p n d g z).bytes = num 2 2 ++ (num 16 c ++ num 2 k) ++ num 16 th ++ (num 16 p ++ (num 8 n.size ++ n.data.toList)) := by
      unfold Ob.bytes Ob.head Ob.spot; rw [if_neg (show ¬ ((2 : Int) = 1) by decide), if_pos rfl]; rfl
    have el : l ++ (num 2 2 ++ (num 16 c ++ num 2 k) ++ num 16 th ++ (num 16 p ++ (num 8 n.size ++ n.data.toList))) = l ++ num 2 2 ++ num 16 c ++ num 2 k ++ num 16 th ++ num 16 p ++ (num 8 n.size ++ n.data.toList) := by simp only [List.append_assoc]
    rw [eb, el]
    clear eb el hd hz0 hdir
    go_enter Try.func57, Try.ntmps57
    go_wp2_with (first
      | (go_at_call_of 60 (Value.int IntKind.i64 1); refine (HN1.out 2 _ _ I.out (by omega) (by decide)).mono ?_; rintro e w1 ⟨rfl, i⟩; replace I : Hid _ := i; clear i; obtain ⟨c0, c1, c2, c3, c4, c5, c6, c7, c8⟩ := cells9 I.out.ho)
      | (go_at_call 61; refine (HP.out c k _ _ I.out (by simp only [List.length_append, num_length]; omega) hc hk).mono ?_; rintro e w1 ⟨rfl, i⟩; replace I : Hid _ := i; clear i c0 c1 c2 c3 c4 c5 c6 c7 c8; obtain ⟨c0, c1, c2, c3, c4, c5, c6, c7, c8⟩ := cells9 I.out.ho)
      | (go_at_call_of 60 (Value.int IntKind.u64 (th : Int)); refine (HN8.out th _ _ I.out (by simp only [List.length_append, num_length]; omega) ht).mono ?_; rintro e w1 ⟨rfl, i⟩; replace I : Hid _ := i; clear i c0 c1 c2 c3 c4 c5 c6 c7 c8; obtain ⟨c0, c1, c2, c3, c4, c5, c6, c7, c8⟩ := cells9 I.out.ho)
      | (go_at_call_of 60 (Value.int IntKind.u64 (p : Int)); refine (HN8.out p _ _ I.out (by simp only [List.length_append, num_length]; omega) hp).mono ?_; rintro e w1 ⟨rfl, i⟩; replace I : Hid _ := i; clear i c0 c1 c2 c3 c4 c5 c6 c7 c8; obtain ⟨c0, c1, c2, c3, c4, c5, c6, c7, c8⟩ := cells9 I.out.ho)
      | (go_at_call 63; refine (HTx.out n _ _ I.out (by simp only [List.length_append, num_length]; omega) i3).mono ?_; rintro e w1 ⟨rfl, i⟩; replace I : Hid _ := i; clear i c0 c1 c2 c3 c4 c5 c6 c7 c8; obtain ⟨c0, c1, c2, c3, c4, c5, c6, c7, c8⟩ := cells9 I.out.ho))
    go_end0
    exact ⟨rfl, I.out.hw, I.out.wrote⟩
  · have eb : (Ob.mk 3 ⟨c, k⟩ th p n d g z).bytes = num 2 3 ++ (num 16 c ++ num 2 k) ++ num 16 th := by
      unfold Ob.bytes Ob.head Ob.spot; rw [if_neg (show ¬ ((3 : Int) = 1) by decide), if_neg (show ¬ ((3 : Int) = 2) by decide), if_neg (show ¬ ((3 : Int) = 4) by decide)]; rfl
    have el : l ++ (num 2 3 ++ (num 16 c ++ num 2 k) ++ num 16 th) = l ++ num 2 3 ++ num 16 c ++ num 2 k ++ num 16 th := by simp only [List.append_assoc]
    rw [eb, el]
    clear eb el hd hz0 hdir hn0 hp0
    go_enter Try.func57, Try.ntmps57
    go_wp2_with (first
      | (go_at_call_of 60 (Value.int IntKind.i64 1); refine (HN1.out 3 _ _ I.out (by omega) (by decide)).mono ?_; rintro e w1 ⟨rfl, i⟩; replace I : Hid _ := i; clear i; obtain ⟨c0, c1, c2, c3, c4, c5, c6, c7, c8⟩ := cells9 I.out.ho)
      | (go_at_call 61; refine (HP.out c k _ _ I.out (by simp only [List.length_append, num_length]; omega) hc hk).mono ?_; rintro e w1 ⟨rfl, i⟩; replace I : Hid _ := i; clear i c0 c1 c2 c3 c4 c5 c6 c7 c8; obtain ⟨c0, c1, c2, c3, c4, c5, c6, c7, c8⟩ := cells9 I.out.ho)
      | (go_at_call_of 60 (Value.int IntKind.u64 (th : Int)); refine (HN8.out th _ _ I.out (by simp only [List.length_append, num_length]; omega) ht).mono ?_; rintro e w1 ⟨rfl, i⟩; replace I : Hid _ := i; clear i c0 c1 c2 c3 c4 c5 c6 c7 c8; obtain ⟨c0, c1, c2, c3, c4, c5, c6, c7, c8⟩ := cells9 I.out.ho))
    go_end0
    exact ⟨rfl, I.out.hw, I.out.wrote⟩
  · have eb : (Ob.mk 4 ⟨c, k⟩ th p n d g z).bytes = num 2 4 ++ (num 16 c ++ num 2 k) ++ num 16 th ++ g.data.toList ++ num 8 z := by
      unfold Ob.bytes Ob.head Ob.spot; rw [if_neg (show ¬ ((4 : Int) = 1) by decide), if_neg (show ¬ ((4 : Int) = 2) by decide), if_pos rfl]; rfl
    have el : l ++ (num 2 4 ++ (num 16 c ++ num 2 k) ++ num 16 th ++ g.data.toList ++ num 8 z) = l ++ num 2 4 ++ num 16 c ++ num 2 k ++ num 16 th ++ g.data.toList ++ num 8 z := by simp only [List.append_assoc]
    rw [eb, el]
    clear eb el hdir hn0 hp0
    go_enter Try.func57, Try.ntmps57
    go_wp2_with (first
      | (go_at_call_of 60 (Value.int IntKind.i64 1); refine (HN1.out 4 _ _ I.out (by omega) (by decide)).mono ?_; rintro e w1 ⟨rfl, i⟩; replace I : Hid _ := i; clear i; obtain ⟨c0, c1, c2, c3, c4, c5, c6, c7, c8⟩ := cells9 I.out.ho)
      | (go_at_call 61; refine (HP.out c k _ _ I.out (by simp only [List.length_append, num_length]; omega) hc hk).mono ?_; rintro e w1 ⟨rfl, i⟩; replace I : Hid _ := i; clear i c0 c1 c2 c3 c4 c5 c6 c7 c8; obtain ⟨c0, c1, c2, c3, c4, c5, c6, c7, c8⟩ := cells9 I.out.ho)
      | (go_at_call_of 60 (Value.int IntKind.u64 (th : Int)); refine (HN8.out th _ _ I.out (by simp only [List.length_append, num_length]; omega) ht).mono ?_; rintro e w1 ⟨rfl, i⟩; replace I : Hid _ := i; clear i c0 c1 c2 c3 c4 c5 c6 c7 c8; obtain ⟨c0, c1, c2, c3, c4, c5, c6, c7, c8⟩ := cells9 I.out.ho)
      | (go_at_call 64; refine (HHa.out g _ _ I.out (by simp only [List.length_append, num_length]; omega) hdg).mono ?_; rintro e w1 ⟨rfl, i⟩; replace I : Hid _ := i; clear i c0 c1 c2 c3 c4 c5 c6 c7 c8; obtain ⟨c0, c1, c2, c3, c4, c5, c6, c7, c8⟩ := cells9 I.out.ho)
      | (go_at_call 65; refine (HCo.out z _ _ I.out (by simp only [List.length_append, num_length, ← size_list]; omega) hz).mono ?_; rintro e w1 ⟨rfl, i⟩; replace I : Hid _ := i; clear i c0 c1 c2 c3 c4 c5 c6 c7 c8; obtain ⟨c0, c1, c2, c3, c4, c5, c6, c7, c8⟩ := cells9 I.out.ho))
    go_end0
    exact ⟨rfl, I.out.hw, I.out.wrote⟩
end Go.Proofs.Ytdcgemaaohldmaa
