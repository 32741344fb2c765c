/- The contract of the document's reader's numbers. -/
import Derived.Test.YtcdmdpafkiljdaaGreatDoorWireRef
import Derived.Test.YtcdmdpafkiljdaaGreatDoorWireFnv
namespace Go.Proofs.YtcdmdpafkiljdaaGreatDoor
open Go.RowKit Go.Wire
set_option maxHeartbeats 1000000 in
theorem rnumber_any (q : St) (k : Int) (w : World) (hq : q.pos ≤ q.s.size) (hs : q.s.size ≤ maxLen) :
    Calls Tryz.prog 35 #[q.v, .int .i64 k] w fun e w' => e = .returned (.tuple #[(q.number k).1.v, .int .u64 ((q.number k).2 : Nat)]) ∧ Below w.heap.size w w' := by
  have hs2 : q.s.size ≤ 9223372036854775807 := hs
  by_cases he : q.err = 0
  · by_cases hk : k < 0 ∨ 8 < k
    · rw [St.number_out q k hk, St.fail, if_pos he]
      obtain ⟨s, p, err⟩ := q
      simp only at he hq hs hs2
      subst he
      unfold St.v
      by_cases h0 : k < 0
      · clear hk
        go_enter Tryz.func35, Tryz.ntmps35
        go_wp2_with (go_at_call 76; refine (with_any _ _ _ _ _).mono ?_; rintro e w1 ⟨rfl, k1⟩; obtain ⟨ha, hb, k0⟩ := two_below k1; obtain ⟨c0, c1, c2, f0, f1, f2⟩ := cells3 hb)
        exact bodyPost_ret (results_cell2_row Tryz.results35 _ _ _ _ _ (0, 0) _ rfl (set3 (by assumption) _ _ _) Tryz.underlying72 rfl infoRef) rfl ⟨rfl, below3 (by assumption) (Nat.le_succ _) _ _ _⟩
      · have h8 : 8 < k := by omega
        clear hk
        go_enter Tryz.func35, Tryz.ntmps35
        go_wp2_with (go_at_call 76; refine (with_any _ _ _ _ _).mono ?_; rintro e w1 ⟨rfl, k1⟩; obtain ⟨ha, hb, k0⟩ := two_below k1; obtain ⟨c0, c1, c2, f0, f1, f2⟩ := cells3 hb)
        exact bodyPost_ret (results_cell2_row Tryz.results35 _ _ _ _ _ (0, 0) _ rfl (set3 (by assumption) _ _ _) Tryz.underlying72 rfl infoRef) rfl ⟨rfl, below3 (by assumption) (Nat.le_succ _) _ _ _⟩
    · have h0 : ¬ k < 0 := fun x => hk (.inl x)
      have h8 : ¬ 8 < k := fun x => hk (.inr x)
      have HK : Hid (¬ (k < 0 ∨ 8 < k)) := hk
      clear hk
      have hz : (q.bytes (2 * k)).2.size ≤ 16 := Nat.le_trans (q.bytes_size (2 * k)) (by omega)
      have hk2 : k + k = 2 * k := by omega
      have HB : Hid (∀ w : World, Calls Tryz.prog 36 #[q.v, .int .i64 (k + k)] w fun e w' => e = .returned (.tuple #[(q.bytes (2 * k)).1.v, .string (q.bytes (2 * k)).2]) ∧ Below w.heap.size w w') := fun w => by rw [hk2]; exact rbytes_any q (2 * k) w hq hs
      clear hk2
      have HNone : Hid (val (q.bytes (2 * k)).2.data.toList = none → q.number k = (⟨q.s, q.pos, 6⟩, 0)) := fun hv => by
        unfold St.number; rw [if_neg (fun x => HK.out x.2), hv]
      have HSome : Hid (∀ n, val (q.bytes (2 * k)).2.data.toList = some n → q.number k = ((q.bytes (2 * k)).1, n)) := fun n hv => St.number_some q k n HK.out hv
      obtain ⟨s, p, err⟩ := q
      simp only at he hq hs hs2
      subst he
      generalize (St.mk s p 0).number k = r at HNone HSome
      generalize (St.bytes (St.mk s p 0) (2 * k)).2 = t at hz HB HNone HSome
      generalize (St.bytes (St.mk s p 0) (2 * k)).1 = q1 at HB HNone HSome
      obtain ⟨s1, p1, e1⟩ := q1
      unfold St.v at HB ⊢
      go_enter Tryz.func35, Tryz.ntmps35
      go_wp2_with (go_at_call 36; refine (HB.out _).mono ?_; rintro e w1 ⟨rfl, k1⟩; obtain ⟨ha, hb, k0⟩ := two_below k1; obtain ⟨c0, c1, c2, f0, f1, f2⟩ := cells3 hb)
      have HC := heap_alloc_new w1 (.cells #[.string s1, .int .i64 p1, .int .i64 e1] 72 (0, 0))
      have hz1 := k1.size
      have HA := (Below.heap_alloc w1 (.cells #[.string s1, .int .i64 p1, .int .i64 e1] 72 (0, 0)) w.heap.size (by simp at hz1; omega)).trans ha
      have HD := (Below.heap_alloc w1 (.cells #[.string s1, .int .i64 p1, .int .i64 e1] 72 (0, 0)) (w.heap.size + 1) (by simp at hz1; omega)).trans hb
      have HE := k0.alloc k0.size (.cells #[.string s1, .int .i64 p1, .int .i64 e1] 72 (0, 0))
      clear hz1 c0 c1 c2 f0 f1 f2 ha hb k0 k1
      generalize w1.alloc (.cells #[.string s1, .int .i64 p1, .int .i64 e1] 72 (0, 0)) = W at HA HC HD HE
      generalize w1.heap.size = g at HC
      clear w1
      obtain ⟨a0, a1, a2, -, -, -⟩ := cells3 HA
      obtain ⟨b0, b1, b2, b3, b4, b5⟩ := cells3 HC
      obtain ⟨d0, d1, d2, d3, d4, d5⟩ := cells3 HD
      have HW : Hid (W.heap[w.heap.size + 1]? = some (.cells #[.string ⟨#[]⟩, .int .i64 0, .int .i64 0] 72 (0, 0)) ∧ Below w.heap.size w W) := ⟨HD, HE⟩
      clear HA HC HD HE
      go_loop [8, 9] (fun n i => ∃ k m : Nat, k ≤ t.size ∧ i = .int .i64 k ∧ n = .int .u64 m ∧ Hid (val (t.data.toList.take k) = some m)) (fun _ i => t.size - (intOf i).toNat)
      case atStart => exact ⟨0, 0, Nat.zero_le _, rfl, rfl, rfl⟩
      case round =>
        obtain ⟨k, m, hk, rfl, rfl, hv⟩ := hrel
        by_cases hlt : k < t.size
        · have hm := val_take_lt t k m hz hlt hv.out
          cases hd : dig t[k] with
          | none =>
            have HD : Hid (dig t[k] = none) := hd
            clear hd
            go_wp2_with (first
              | (go_at_call 77; refine (rvalue_none _ _ HD.out).mono ?_; rintro e w' ⟨rfl, rfl⟩)
              | (go_at_call 76; refine (with_any _ _ _ _ _).mono ?_; rintro e w1 ⟨rfl, k1⟩; have hb := kept_block HW.out.1 k1; have k0 := HW.out.2.trans (k1.mono HW.out.2.size); obtain ⟨c0, c1, c2, f0, f1, f2⟩ := cells3 hb))
            rw [HNone.out (val_stop t k hlt HD.out)]
            exact bodyPost_ret (results_cell2_row Tryz.results35 _ _ _ _ _ (0, 0) _ rfl (set3 (by assumption) _ _ _) Tryz.underlying72 rfl infoRef) rfl ⟨rfl, below3 (by assumption) (Nat.le_succ _) _ _ _⟩
          | some d =>
            have HD : Hid (dig t[k] = some d) := hd
            have hd16 := dig_lt hd
            clear hd
            go_wp2_with (go_at_call 77; refine (rvalue_some _ d _ HD.out).mono ?_; rintro e w' ⟨rfl, rfl⟩)
            go_round
            case rel => exact ⟨k + 1, m * 16 + d, by omega, by go_num, by go_num, val_step t k m d hlt hv.out HD.out⟩
            case measure => simp [intOf]; omega
        · have hv2 : Hid (val t.data.toList = some m) := by have := hv.out; rw [take_all t k hlt] at this; exact this
          clear hv
          go_wp2
          rw [HSome.out m hv2.out]
          exact bodyPost_ret (results_cell2_row Tryz.results35 _ _ _ _ _ (0, 0) _ rfl (set3 HW.out.1 _ _ _) Tryz.underlying72 rfl infoRef) rfl ⟨rfl, below3 HW.out.2 (Nat.le_succ _) _ _ _⟩
  · rw [St.err_keeps q he]
    have HB : Hid (∀ (n : Int) (w : World), Calls Tryz.prog 36 #[q.v, .int .i64 n] w fun e w' => e = .returned (.tuple #[q.v, .string ⟨#[]⟩]) ∧ Below w.heap.size w w') := fun n w => by
      have := rbytes_any q n w hq hs
      rwa [St.bytes_err q n he] at this
    unfold St.v at HB ⊢
    go_enter Tryz.func35, Tryz.ntmps35
    go_wp2_with (go_at_call 36; refine (HB.out _ _).mono ?_; rintro e w1 ⟨rfl, k1⟩; obtain ⟨ha, hb, k0⟩ := two_below k1; obtain ⟨c0, c1, c2, f0, f1, f2⟩ := cells3 hb)
    have HD := kept_alloc hb (.cells #[.string q.s, .int .i64 q.pos, .int .i64 q.err] 72 (0, 0))
    have HE := k0.alloc k0.size (.cells #[.string q.s, .int .i64 q.pos, .int .i64 q.err] 72 (0, 0))
    obtain ⟨d0, d1, d2, d3, d4, d5⟩ := cells3 HD
    clear c0 c1 c2 f0 f1 f2 ha hb k0 k1
    go_loop [8, 9] (fun n i => n = .int .u64 0 ∧ i = .int .i64 0) (fun _ _ => 0)
    case atStart => exact ⟨rfl, rfl⟩
    case round =>
      obtain ⟨rfl, rfl⟩ := hrel
      go_wp2
      exact bodyPost_ret (results_cell2_row Tryz.results35 _ _ _ _ _ (0, 0) _ rfl (set3 HD _ _ _) Tryz.underlying72 rfl infoRef) rfl ⟨rfl, below3 HE (Nat.le_succ _) _ _ _⟩
end Go.Proofs.YtcdmdpafkiljdaaGreatDoor
