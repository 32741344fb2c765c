/- Contracts: an operation's bytes, the program's. -/
import Derived.Test.YtdcgemaaohldmaaOpPut
import Derived.Test.YtdcgemaaohldmaaWireAll
namespace Go.Proofs.Ytdcgemaaohldmaa
open Go.RowKit Go.Wire Go.Stamp Go.Opn
set_option maxRecDepth 100000 in
set_option maxHeartbeats 1000000 in
theorem allOp_any (o : Ob) (w : World) (hok : o.tm.Ok) (hg : o.Good) :
    Calls Try.prog 47 #[o.v] w fun e w' => e = .returned (.string o.bytesB) ∧ Below w.heap.size w w' := by
  have HP : Hid (∀ (b : Nat) (w : World), Wr 99 b b [] w → b ≤ w.heap.size → Calls Try.prog 57 #[.pointer (some ⟨b, 0, none⟩), o.v] w fun e w' => e = .returned (.tuple #[]) ∧ Wt 99 b b o.bytes w' ∧ Below b w w') := fun b w h hb =>
    (putOp_any b (.pointer (some ⟨b, 0, none⟩)) [] o w (.inr ⟨b, rfl, h⟩) (by decide) hb hok hg).mono fun e w' ⟨he, h, hw⟩ => ⟨he, by
      rcases h with h | ⟨b', h, hr⟩
      · cases h
      · obtain rfl : b = b' := by simpa using h
        exact hr.told, hw.below⟩
  have HA : Hid (∀ (b : Nat) (w : World), b ≤ w.heap.size → Wt 99 b b o.bytes w → Calls Try.prog 58 #[.pointer (some ⟨b, 0, none⟩)] w fun e w' => e = .returned (.string o.bytesB) ∧ Below b w w') := fun b w hb h =>
    (all_told b b _ w hb h).mono fun e w' ⟨h1, _, h3⟩ => ⟨h1, h3.below⟩
  clear hok hg
  generalize o.bytesB = X at HA
  generalize o.bytes = l at HA HP
  obtain ⟨kd, ⟨c, k⟩, th, p, n, d, g, z⟩ := o
  unfold Ob.v at HP ⊢
  dsimp only at HP ⊢
  go_enter Try.func47, Try.ntmps47
  go_wp2_with (first
    | (go_at_call 56; refine (newWriter_any _).mono ?_; rintro e w1 ⟨rfl, h1, k1⟩; have h1 : Wr 99 (w.heap.size + 1) (w.heap.size + 1) [] w1 := (by simpa using h1); have k2 := below_alloc_call k1; have r1 : w1.heap[w.heap.size]? = some (.cells (Ob.mk kd ⟨c, k⟩ th p n d g z).cs 26 (0, 0)) := kept_block (heap_alloc_new _ _) k1; obtain ⟨c0, c1, c2, c3, c4, c5, c6, c7, c8⟩ := cells9 r1; clear r1; have s1 : w.heap.size + 1 ≤ w1.heap.size := (by simpa using k1.size); clear k1)
    | (go_at_call 57; refine (HP.out _ _ h1 s1).mono ?_; rintro e w2 ⟨rfl, h2, k3⟩)
    | (go_at_call 58; refine (HA.out (w.heap.size + 1) _ (Nat.le_trans s1 k3.size) h2).mono ?_; rintro e w3 ⟨rfl, k4⟩))
  go_ret
  exact ⟨rfl, (k2.trans (k3.mono (by omega))).trans (k4.mono (by omega))⟩
set_option maxHeartbeats 1000000 in
theorem encode_ok (o : Ob) (w : World) (hok : o.tm.Ok) (hg : o.Good) :
    Calls Try.prog 23 #[o.v] w fun e w' => e = .returned (.tuple #[.string o.bytesB, .int .i64 0]) ∧ Below w.heap.size w w' := by
  have HC : Hid (∀ w, Calls Try.prog 11 #[o.v] w fun e w' => e = .returned (.int .i64 0) ∧ Below w.heap.size w w') := fun w => by
    have := checkOp_any o w
    rwa [Ob.chk_ok hok hg] at this
  have HA : Hid (∀ w, Calls Try.prog 47 #[o.v] w fun e w' => e = .returned (.string o.bytesB) ∧ Below w.heap.size w w') := fun w => allOp_any o w hok hg
  clear hok hg
  generalize o.bytesB = X at HA
  obtain ⟨kd, ⟨c, k⟩, th, p, n, d, g, z⟩ := o
  unfold Ob.v at HC HA ⊢
  dsimp only at HC HA ⊢
  go_enter Try.func23, Try.ntmps23
  go_wp2_with (first
    | (go_at_call 11; refine (HC.out _).mono ?_; rintro e w1 ⟨rfl, k1⟩; have k2 := below_alloc_call k1; have r1 : w1.heap[w.heap.size]? = some (.cells (Ob.mk kd ⟨c, k⟩ th p n d g z).cs 26 (0, 0)) := kept_block (heap_alloc_new _ _) k1; obtain ⟨c0, c1, c2, c3, c4, c5, c6, c7, c8⟩ := cells9 r1; clear r1; clear k1)
    | (go_at_call 47; refine (HA.out _).mono ?_; rintro e w2 ⟨rfl, k3⟩))
  go_ret2
  exact ⟨rfl, k2.trans (k3.mono k2.size)⟩
set_option maxHeartbeats 1000000 in
theorem encode_no (o : Ob) (w : World) (h : o.chk ≠ 0) :
    Calls Try.prog 23 #[o.v] w fun e w' => e = .returned (.tuple #[.string ⟨#[]⟩, .int .i64 o.chk]) ∧ Below w.heap.size w w' := by
  have HC : Hid (∀ w, Calls Try.prog 11 #[o.v] w fun e w' => e = .returned (.int .i64 o.chk) ∧ Below w.heap.size w w') := fun w => checkOp_any o w
  have h0 : (o.chk == 0) = false := beq_eq_false_iff_ne.2 h
  clear h
  generalize o.chk = r at HC h0
  obtain ⟨kd, ⟨c, k⟩, th, p, n, d, g, z⟩ := o
  unfold Ob.v at HC ⊢
  dsimp only at HC ⊢
  go_enter Try.func23, Try.ntmps23
  go_wp2_with (go_at_call 11; refine (HC.out _).mono ?_; rintro e w1 ⟨rfl, k1⟩)
  go_ret2
  exact ⟨rfl, below_alloc_call k1⟩
end Go.Proofs.Ytdcgemaaohldmaa
