/- Several texts in one: WireRef, WireRefNum, WireRefTakes. -/
import Derived.Test.YtoineobjmllicaaGreatDoorWirThree
import Derived.Laws.ResultCell
import Derived.Test.YtoineobjmllicaaGreatDoorWirTwo
/- Contracts of the document's reader: a value, and the reader behind each call. -/
namespace Go.Wire
open Go.RowKit
/-- A reader as a value. -/
def St.v (q : St) : Value := .agg #[.string q.s, .int .i64 q.pos, .int .i64 q.err]
theorem results_cell2_row {P : Program} {fn : Func} {p u : Tmp} {ty : TypeId} (h : fn.results = #[.cell p ty, .tmp u]) (tmps : Array Value) (w : World) (g : Nat) (t : TypeId) (cs : Array Value) (fr : Nat × Nat) (d : TypeDesc)
    (hp : tmps.getD p undef = .pointer (some ⟨g, 0, none⟩)) (hg : w.heap[g]? = some (.cells cs t fr))
    (hu : P.underlying ty = some d) (hd : (match d with | .struct _ | .array _ _ => true | _ => false) = true) (hi : (P.info? ty).map (·.size) = some cs.size) :
    (results fn tmps).run P w = .ok (.tuple #[.agg cs, tmps.getD u undef]) w := by
  rw [results_cell_tmp h, hp]
  simp [asAddr, Result.andThen, run_loadVar_row w g t ty cs fr d hg hu hd hi]
theorem cells3 {w : World} {g : Nat} {a b c : Value} {T : TypeId} (h : w.heap[g]? = some (.cells #[a, b, c] T (0, 0))) :
    w.cell? ⟨g, 0, none⟩ = some a ∧ w.cell? ⟨g, 1, none⟩ = some b ∧ w.cell? ⟨g, 2, none⟩ = some c ∧ w.frozen? ⟨g, 0, none⟩ = false ∧ w.frozen? ⟨g, 1, none⟩ = false ∧ w.frozen? ⟨g, 2, none⟩ = false :=
  ⟨cell_of_row _ _ _ _ _ _ h, cell_of_row _ _ _ _ _ _ h, cell_of_row _ _ _ _ _ _ h, frozen_of_row _ _ _ _ _ h, frozen_of_row _ _ _ _ _ h, frozen_of_row _ _ _ _ _ h⟩
theorem set3 {w : World} {g : Nat} {a b c : Value} {T : TypeId} (h : w.heap[g]? = some (.cells #[a, b, c] T (0, 0))) (x y z : Value) :
    (((w.setCell ⟨g, 0, none⟩ x).setCell ⟨g, 1, none⟩ y).setCell ⟨g, 2, none⟩ z).heap[g]? = some (.cells #[x, y, z] T (0, 0)) := by
  have h1 : (w.setCell ⟨g, 0, none⟩ x).heap[g]? = some (.cells #[x, b, c] T (0, 0)) := by rw [heap_setCell_same _ _ _ _ _ _ h]; rfl
  have h2 : ((w.setCell ⟨g, 0, none⟩ x).setCell ⟨g, 1, none⟩ y).heap[g]? = some (.cells #[x, y, c] T (0, 0)) := by rw [heap_setCell_same _ _ _ _ _ _ h1]; rfl
  rw [heap_setCell_same _ _ _ _ _ _ h2]; rfl
theorem below3 {B g : Nat} {w w1 : World} (h : Below B w w1) (hg : B ≤ g) (x y z : Value) : Below B w (((w1.setCell ⟨g, 0, none⟩ x).setCell ⟨g, 1, none⟩ y).setCell ⟨g, 2, none⟩ z) :=
  ((h.setCell (p := ⟨g, 0, none⟩) hg x).setCell (p := ⟨g, 1, none⟩) hg y).setCell (p := ⟨g, 2, none⟩) hg z
theorem kept_block {w w1 : World} {g : Nat} {o : Obj} (h : w.heap[g]? = some o) (k : Below w.heap.size w w1) : w1.heap[g]? = some o :=
  (k.block g (by
    rcases Nat.lt_or_ge g w.heap.size with x | x
    · exact x
    · rw [Array.getElem?_eq_none x] at h; cases h)).trans h
theorem kept_alloc {w : World} {g : Nat} {o : Obj} (h : w.heap[g]? = some o) (C : Obj) : (w.alloc C).heap[g]? = some o :=
  kept_block h ((Below.refl _ _).alloc (Nat.le_refl _) C)
/-- What two new blocks are behind a call. -/
theorem two_below {w w1 : World} {A B : Obj} (k : Below ((w.alloc A).alloc B).heap.size ((w.alloc A).alloc B) w1) : w1.heap[w.heap.size]? = some A ∧ w1.heap[w.heap.size + 1]? = some B ∧ Below w.heap.size w w1 := by
  have hz : ((w.alloc A).alloc B).heap.size = w.heap.size + 2 := by simp
  refine ⟨(k.block _ (by omega)).trans (heap_alloc2_old _ _ _), (k.block _ (by omega)).trans (heap_alloc2_new _ _ _), ?_⟩
  exact (((Below.refl w.heap.size w).alloc (Nat.le_refl _) A).alloc (by simp) B).trans (k.mono (by omega))
end Go.Wire
namespace Go.Proofs.YtoineobjmllicaaGreatDoor
open Go.RowKit Go.Wire
theorem infoRef : (Tryz.prog.info? 89).map (·.size) = some 3 := by kernel_rfl
set_option maxHeartbeats 400000 in
theorem with_any (s : ByteArray) (p : Nat) (err x : Int) (w : World) :
    Calls Tryz.prog 83 #[.agg #[.string s, .int .i64 p, .int .i64 err], .int .i64 x] w fun e w' => e = .returned (.agg #[.string s, .int .i64 p, .int .i64 x]) ∧ Below w.heap.size w w' := by
  go_enter Tryz.func83, Tryz.ntmps83
  go_wp2
  exact bodyPost_ret (results_cell_row Tryz.results83 _ _ _ _ _ (0, 0) _ rfl (heap_alloc2_new _ _ _) Tryz.underlying89 rfl infoRef) rfl ⟨rfl, ((Below.refl _ _).alloc (Nat.le_refl _) _).alloc (by simp) _⟩
set_option maxHeartbeats 1000000 in
theorem rbytes_any (q : St) (n : Int) (w : World) (hq : q.pos ≤ q.s.size) (hs : q.s.size ≤ maxLen) :
    Calls Tryz.prog 57 #[q.v, .int .i64 n] w fun e w' => e = .returned (.tuple #[(q.bytes n).1.v, .string (q.bytes n).2]) ∧ Below w.heap.size w w' := by
  have hs2 : q.s.size ≤ 9223372036854775807 := hs
  by_cases he : q.err = 0
  · obtain ⟨s, p, err⟩ := q
    simp only at he hq hs hs2
    subst he
    by_cases hn : n < 0
    · rw [St.bytes_neg _ n hn, St.fail, if_pos rfl]
      unfold St.v
      go_enter Tryz.func57, Tryz.ntmps57
      go_wp2_with (go_at_call 83; refine (with_any _ _ _ _ _).mono ?_; rintro e w1 ⟨rfl, k1⟩; obtain ⟨ha, hb, k0⟩ := two_below k1; obtain ⟨c0, c1, c2, f0, f1, f2⟩ := cells3 hb)
      exact bodyPost_ret (results_cell2_row Tryz.results57 _ _ _ _ _ (0, 0) _ rfl (set3 (by assumption) _ _ _) Tryz.underlying89 rfl infoRef) rfl ⟨rfl, below3 (by assumption) (Nat.le_succ _) _ _ _⟩
    · by_cases hl : (s.size : Int) - p < n
      · rw [St.bytes_cut _ n hn hl, St.fail, if_pos rfl]
        unfold St.v
        go_enter Tryz.func57, Tryz.ntmps57
        go_wp2_with (go_at_call 83; refine (with_any _ _ _ _ _).mono ?_; rintro e w1 ⟨rfl, k1⟩; obtain ⟨ha, hb, k0⟩ := two_below k1; obtain ⟨c0, c1, c2, f0, f1, f2⟩ := cells3 hb)
        exact bodyPost_ret (results_cell2_row Tryz.results57 _ _ _ _ _ (0, 0) _ rfl (set3 (by assumption) _ _ _) Tryz.underlying89 rfl infoRef) rfl ⟨rfl, below3 (by assumption) (Nat.le_succ _) _ _ _⟩
      · obtain ⟨m, rfl⟩ : ∃ m : Nat, n = m := ⟨n.toNat, by omega⟩
        rw [St.bytes_ok _ _ rfl hn hl]
        have hm : p + m ≤ s.size := by omega
        unfold St.v
        go_enter Tryz.func57, Tryz.ntmps57
        go_wp2
        go_region
        go_wp2
        exact bodyPost_ret (results_cell2_row Tryz.results57 _ _ _ _ _ (0, 0) _ rfl (heap_alloc2_new _ _ _) Tryz.underlying89 rfl infoRef) rfl ⟨rfl, (((Below.refl _ _).alloc (Nat.le_refl _) _).alloc (by simp) _).drew⟩
  · rw [St.bytes_err q n he]
    unfold St.v
    go_enter Tryz.func57, Tryz.ntmps57
    go_wp2
    exact bodyPost_ret (results_cell2_row Tryz.results57 _ _ _ _ _ (0, 0) _ rfl (heap_alloc2_new _ _ _) Tryz.underlying89 rfl infoRef) rfl ⟨rfl, ((Below.refl _ _).alloc (Nat.le_refl _) _).alloc (by simp) _⟩
end Go.Proofs.YtoineobjmllicaaGreatDoor
/- The contract of the document's reader's numbers. -/
namespace Go.Proofs.YtoineobjmllicaaGreatDoor
open Go.RowKit Go.Wire
set_option maxHeartbeats 1000000 in
theorem rnumber_any (q : St) (k : Int) (w : World) (hq : q.pos ≤ q.s.size) (hs : q.s.size ≤ maxLen) :
    Calls Tryz.prog 56 #[q.v, .int .i64 k] w fun e w' => e = .returned (.tuple #[(q.number k).1.v, .int .u64 ((q.number k).2 : Nat)]) ∧ Below w.heap.size w w' := by
  have hs2 : q.s.size ≤ 9223372036854775807 := hs
  by_cases he : q.err = 0
  · by_cases hk : k < 0 ∨ 8 < k
    · rw [St.number_out q k hk, St.fail, if_pos he]
      obtain ⟨s, p, err⟩ := q
      simp only at he hq hs hs2
      subst he
      unfold St.v
      by_cases h0 : k < 0
      · clear hk
        go_enter Tryz.func56, Tryz.ntmps56
        go_wp2_with (go_at_call 83; refine (with_any _ _ _ _ _).mono ?_; rintro e w1 ⟨rfl, k1⟩; obtain ⟨ha, hb, k0⟩ := two_below k1; obtain ⟨c0, c1, c2, f0, f1, f2⟩ := cells3 hb)
        exact bodyPost_ret (results_cell2_row Tryz.results56 _ _ _ _ _ (0, 0) _ rfl (set3 (by assumption) _ _ _) Tryz.underlying89 rfl infoRef) rfl ⟨rfl, below3 (by assumption) (Nat.le_succ _) _ _ _⟩
      · have h8 : 8 < k := by omega
        clear hk
        go_enter Tryz.func56, Tryz.ntmps56
        go_wp2_with (go_at_call 83; refine (with_any _ _ _ _ _).mono ?_; rintro e w1 ⟨rfl, k1⟩; obtain ⟨ha, hb, k0⟩ := two_below k1; obtain ⟨c0, c1, c2, f0, f1, f2⟩ := cells3 hb)
        exact bodyPost_ret (results_cell2_row Tryz.results56 _ _ _ _ _ (0, 0) _ rfl (set3 (by assumption) _ _ _) Tryz.underlying89 rfl infoRef) rfl ⟨rfl, below3 (by assumption) (Nat.le_succ _) _ _ _⟩
    · have h0 : ¬ k < 0 := fun x => hk (.inl x)
      have h8 : ¬ 8 < k := fun x => hk (.inr x)
      have HK : Hid (¬ (k < 0 ∨ 8 < k)) := hk
      clear hk
      have hz : (q.bytes (2 * k)).2.size ≤ 16 := Nat.le_trans (q.bytes_size (2 * k)) (by omega)
      have hk2 : k + k = 2 * k := by omega
      have HB : Hid (∀ w : World, Calls Tryz.prog 57 #[q.v, .int .i64 (k + k)] w fun e w' => e = .returned (.tuple #[(q.bytes (2 * k)).1.v, .string (q.bytes (2 * k)).2]) ∧ Below w.heap.size w w') := fun w => by rw [hk2]; exact rbytes_any q (2 * k) w hq hs
      clear hk2
      have HNone : Hid (val (q.bytes (2 * k)).2.data.toList = none → q.number k = (⟨q.s, q.pos, 6⟩, 0)) := fun hv => by
        unfold St.number; rw [if_neg (fun x => HK.out x.2), hv]
      have HSome : Hid (∀ n, val (q.bytes (2 * k)).2.data.toList = some n → q.number k = ((q.bytes (2 * k)).1, n)) := fun n hv => St.number_some q k n HK.out hv
      obtain ⟨s, p, err⟩ := q
      simp only at he hq hs hs2
      subst he
      generalize (St.mk s p 0).number k = r at HNone HSome
      generalize (St.bytes (St.mk s p 0) (2 * k)).2 = t at hz HB HNone HSome
      generalize (St.bytes (St.mk s p 0) (2 * k)).1 = q1 at HB HNone HSome
      obtain ⟨s1, p1, e1⟩ := q1
      unfold St.v at HB ⊢
      go_enter Tryz.func56, Tryz.ntmps56
      go_wp2_with (go_at_call 57; refine (HB.out _).mono ?_; rintro e w1 ⟨rfl, k1⟩; obtain ⟨ha, hb, k0⟩ := two_below k1; obtain ⟨c0, c1, c2, f0, f1, f2⟩ := cells3 hb)
      have HC := heap_alloc_new w1 (.cells #[.string s1, .int .i64 p1, .int .i64 e1] 89 (0, 0))
      have hz1 := k1.size
      have HA := (Below.heap_alloc w1 (.cells #[.string s1, .int .i64 p1, .int .i64 e1] 89 (0, 0)) w.heap.size (by simp at hz1; omega)).trans ha
      have HD := (Below.heap_alloc w1 (.cells #[.string s1, .int .i64 p1, .int .i64 e1] 89 (0, 0)) (w.heap.size + 1) (by simp at hz1; omega)).trans hb
      have HE := k0.alloc k0.size (.cells #[.string s1, .int .i64 p1, .int .i64 e1] 89 (0, 0))
      clear hz1 c0 c1 c2 f0 f1 f2 ha hb k0 k1
      generalize w1.alloc (.cells #[.string s1, .int .i64 p1, .int .i64 e1] 89 (0, 0)) = W at HA HC HD HE
      generalize w1.heap.size = g at HC
      clear w1
      obtain ⟨a0, a1, a2, -, -, -⟩ := cells3 HA
      obtain ⟨b0, b1, b2, b3, b4, b5⟩ := cells3 HC
      obtain ⟨d0, d1, d2, d3, d4, d5⟩ := cells3 HD
      have HW : Hid (W.heap[w.heap.size + 1]? = some (.cells #[.string ⟨#[]⟩, .int .i64 0, .int .i64 0] 89 (0, 0)) ∧ Below w.heap.size w W) := ⟨HD, HE⟩
      clear HA HC HD HE
      go_loop [8, 9] (fun n i => ∃ k m : Nat, k ≤ t.size ∧ i = .int .i64 k ∧ n = .int .u64 m ∧ Hid (val (t.data.toList.take k) = some m)) (fun _ i => t.size - (intOf i).toNat)
      case atStart => exact ⟨0, 0, Nat.zero_le _, rfl, rfl, rfl⟩
      case round =>
        obtain ⟨k, m, hk, rfl, rfl, hv⟩ := hrel
        by_cases hlt : k < t.size
        · have hm := val_take_lt t k m hz hlt hv.out
          cases hd : dig t[k] with
          | none =>
            have HD : Hid (dig t[k] = none) := hd
            clear hd
            go_wp2_with (first
              | (go_at_call 84; refine (rvalue_none _ _ HD.out).mono ?_; rintro e w' ⟨rfl, rfl⟩)
              | (go_at_call 83; refine (with_any _ _ _ _ _).mono ?_; rintro e w1 ⟨rfl, k1⟩; have hb := kept_block HW.out.1 k1; have k0 := HW.out.2.trans (k1.mono HW.out.2.size); obtain ⟨c0, c1, c2, f0, f1, f2⟩ := cells3 hb))
            rw [HNone.out (val_stop t k hlt HD.out)]
            exact bodyPost_ret (results_cell2_row Tryz.results56 _ _ _ _ _ (0, 0) _ rfl (set3 (by assumption) _ _ _) Tryz.underlying89 rfl infoRef) rfl ⟨rfl, below3 (by assumption) (Nat.le_succ _) _ _ _⟩
          | some d =>
            have HD : Hid (dig t[k] = some d) := hd
            have hd16 := dig_lt hd
            clear hd
            go_wp2_with (go_at_call 84; refine (rvalue_some _ d _ HD.out).mono ?_; rintro e w' ⟨rfl, rfl⟩)
            go_round
            case rel => exact ⟨k + 1, m * 16 + d, by omega, by go_num, by go_num, val_step t k m d hlt hv.out HD.out⟩
            case measure => simp [intOf]; omega
        · have hv2 : Hid (val t.data.toList = some m) := by have := hv.out; rw [take_all t k hlt] at this; exact this
          clear hv
          go_wp2
          rw [HSome.out m hv2.out]
          exact bodyPost_ret (results_cell2_row Tryz.results56 _ _ _ _ _ (0, 0) _ rfl (set3 HW.out.1 _ _ _) Tryz.underlying89 rfl infoRef) rfl ⟨rfl, below3 HW.out.2 (Nat.le_succ _) _ _ _⟩
  · rw [St.err_keeps q he]
    have HB : Hid (∀ (n : Int) (w : World), Calls Tryz.prog 57 #[q.v, .int .i64 n] w fun e w' => e = .returned (.tuple #[q.v, .string ⟨#[]⟩]) ∧ Below w.heap.size w w') := fun n w => by
      have := rbytes_any q n w hq hs
      rwa [St.bytes_err q n he] at this
    unfold St.v at HB ⊢
    go_enter Tryz.func56, Tryz.ntmps56
    go_wp2_with (go_at_call 57; refine (HB.out _ _).mono ?_; rintro e w1 ⟨rfl, k1⟩; obtain ⟨ha, hb, k0⟩ := two_below k1; obtain ⟨c0, c1, c2, f0, f1, f2⟩ := cells3 hb)
    have HD := kept_alloc hb (.cells #[.string q.s, .int .i64 q.pos, .int .i64 q.err] 89 (0, 0))
    have HE := k0.alloc k0.size (.cells #[.string q.s, .int .i64 q.pos, .int .i64 q.err] 89 (0, 0))
    obtain ⟨d0, d1, d2, d3, d4, d5⟩ := cells3 HD
    clear c0 c1 c2 f0 f1 f2 ha hb k0 k1
    go_loop [8, 9] (fun n i => n = .int .u64 0 ∧ i = .int .i64 0) (fun _ _ => 0)
    case atStart => exact ⟨rfl, rfl⟩
    case round =>
      obtain ⟨rfl, rfl⟩ := hrel
      go_wp2
      exact bodyPost_ret (results_cell2_row Tryz.results56 _ _ _ _ _ (0, 0) _ rfl (set3 HD _ _ _) Tryz.underlying89 rfl infoRef) rfl ⟨rfl, below3 HE (Nat.le_succ _) _ _ _⟩
end Go.Proofs.YtoineobjmllicaaGreatDoor
/- Contracts of the document's reader: counts, texts, yes and no, the end. -/
namespace Go.Proofs.YtoineobjmllicaaGreatDoor
open Go.RowKit Go.Wire
set_option maxHeartbeats 1000000 in
theorem rcount_any (q : St) (most : Int) (w : World) (hq : q.pos ≤ q.s.size) (hs : q.s.size ≤ maxLen) (hm1 : most ≤ 9223372036854775807) :
    Calls Tryz.prog 55 #[q.v, .int .i64 most] w fun e w' => e = .returned (.tuple #[(q.count most).1.v, .int .i64 ((q.count most).2 : Nat)]) ∧ Below w.heap.size w w' := by
  have hlt : (q.number 4).2 < 4294967296 := q.number_lt 4 (by decide)
  have HN : Hid (∀ w : World, Calls Tryz.prog 56 #[q.v, .int .i64 4] w fun e w' => e = .returned (.tuple #[(q.number 4).1.v, .int .u64 ((q.number 4).2 : Nat)]) ∧ Below w.heap.size w w') := fun w => rnumber_any q 4 w hq hs
  by_cases hc : (q.number 4).1.err = 0 ∧ (most < 0 ∨ most < (q.number 4).2)
  · have HR : q.count most = (⟨q.s, q.pos, 3⟩, 0) := by unfold St.count; rw [if_pos hc]
    rw [HR]
    generalize (q.number 4).2 = n at hlt HN hc
    generalize (q.number 4).1 = r at HN hc
    obtain ⟨s1, p1, e1⟩ := r
    obtain ⟨h0, hc⟩ := hc
    simp only at h0
    subst h0
    unfold St.v at HN ⊢
    by_cases hm : most < 0
    · clear hc
      go_enter Tryz.func55, Tryz.ntmps55
      go_wp2_with (go_at_call 56; refine (HN.out _).mono ?_; rintro e w1 ⟨rfl, k1⟩; obtain ⟨ha, hb, k0⟩ := two_below k1; have HA := kept_alloc ha (.cells #[.string s1, .int .i64 p1, .int .i64 0] 89 (0, 0)); have HB := kept_alloc hb (.cells #[.string s1, .int .i64 p1, .int .i64 0] 89 (0, 0)); have HE := k0.alloc k0.size (.cells #[.string s1, .int .i64 p1, .int .i64 0] 89 (0, 0)); obtain ⟨c0, c1, c2, f0, f1, f2⟩ := cells3 HA; clear ha hb k0 k1)
      refine (with_any _ _ _ _ _).mono ?_
      rintro e w2 ⟨rfl, k2⟩
      have HB2 := kept_block HB k2
      have HE2 := HE.trans (k2.mono HE.size)
      obtain ⟨d0, d1, d2, d3, d4, d5⟩ := cells3 HB2
      clear HA HB HE c0 c1 c2 f0 f1 f2
      go_wp2
      exact bodyPost_ret (results_cell2_row Tryz.results55 _ _ _ _ _ (0, 0) _ rfl (set3 HB2 _ _ _) Tryz.underlying89 rfl infoRef) rfl ⟨rfl, below3 HE2 (Nat.le_succ _) _ _ _⟩
    · have hn : most < n := by omega
      clear hc
      go_enter Tryz.func55, Tryz.ntmps55
      go_wp2_with (go_at_call 56; refine (HN.out _).mono ?_; rintro e w1 ⟨rfl, k1⟩; obtain ⟨ha, hb, k0⟩ := two_below k1; have HA := kept_alloc ha (.cells #[.string s1, .int .i64 p1, .int .i64 0] 89 (0, 0)); have HB := kept_alloc hb (.cells #[.string s1, .int .i64 p1, .int .i64 0] 89 (0, 0)); have HE := k0.alloc k0.size (.cells #[.string s1, .int .i64 p1, .int .i64 0] 89 (0, 0)); obtain ⟨c0, c1, c2, f0, f1, f2⟩ := cells3 HA; clear ha hb k0 k1)
      refine (with_any _ _ _ _ _).mono ?_
      rintro e w2 ⟨rfl, k2⟩
      have HB2 := kept_block HB k2
      have HE2 := HE.trans (k2.mono HE.size)
      obtain ⟨d0, d1, d2, d3, d4, d5⟩ := cells3 HB2
      clear HA HB HE c0 c1 c2 f0 f1 f2
      go_wp2
      exact bodyPost_ret (results_cell2_row Tryz.results55 _ _ _ _ _ (0, 0) _ rfl (set3 HB2 _ _ _) Tryz.underlying89 rfl infoRef) rfl ⟨rfl, below3 HE2 (Nat.le_succ _) _ _ _⟩
  · have HR : q.count most = q.number 4 := by unfold St.count; rw [if_neg hc]
    rw [HR]
    generalize (q.number 4).2 = n at hlt HN hc
    generalize (q.number 4).1 = r at HN hc
    obtain ⟨s1, p1, e1⟩ := r
    unfold St.v at HN ⊢
    by_cases h0 : e1 = 0
    · subst h0
      have hm : ¬ most < 0 := fun x => hc ⟨rfl, .inl x⟩
      have hn : ¬ most < n := fun x => hc ⟨rfl, .inr x⟩
      clear hc
      go_enter Tryz.func55, Tryz.ntmps55
      go_wp2_with (go_at_call 56; refine (HN.out _).mono ?_; rintro e w1 ⟨rfl, k1⟩; obtain ⟨ha, hb, k0⟩ := two_below k1; have HB := kept_alloc hb (.cells #[.string s1, .int .i64 p1, .int .i64 0] 89 (0, 0)); have HE := k0.alloc k0.size (.cells #[.string s1, .int .i64 p1, .int .i64 0] 89 (0, 0)); obtain ⟨c0, c1, c2, f0, f1, f2⟩ := cells3 HB; clear ha hb k0 k1)
      exact bodyPost_ret (results_cell2_row Tryz.results55 _ _ _ _ _ (0, 0) _ rfl (set3 (by assumption) _ _ _) Tryz.underlying89 rfl infoRef) rfl ⟨rfl, below3 (by assumption) (Nat.le_succ _) _ _ _⟩
    · clear hc
      go_enter Tryz.func55, Tryz.ntmps55
      go_wp2_with (go_at_call 56; refine (HN.out _).mono ?_; rintro e w1 ⟨rfl, k1⟩; obtain ⟨ha, hb, k0⟩ := two_below k1; have HB := kept_alloc hb (.cells #[.string s1, .int .i64 p1, .int .i64 e1] 89 (0, 0)); have HE := k0.alloc k0.size (.cells #[.string s1, .int .i64 p1, .int .i64 e1] 89 (0, 0)); obtain ⟨c0, c1, c2, f0, f1, f2⟩ := cells3 HB; clear ha hb k0 k1)
      exact bodyPost_ret (results_cell2_row Tryz.results55 _ _ _ _ _ (0, 0) _ rfl (set3 (by assumption) _ _ _) Tryz.underlying89 rfl infoRef) rfl ⟨rfl, below3 (by assumption) (Nat.le_succ _) _ _ _⟩
end Go.Proofs.YtoineobjmllicaaGreatDoor
