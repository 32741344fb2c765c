/- The walk of OpEdges. -/
import Derived.Test.YtdcgemaaohldmaaOpDecode
import Derived.Test.YtdcgemaaohldmaaOpRefCheck
namespace Go.Opn
open Go.Wire Go.Stamp
theorem and_at (n : Int) (c : Nat) (hc : c < 1000000) : ∃ m : Nat, m ≤ c ∧ bits .and .i64 n (c : Int) = (m : Int) := by
  have h1 : (BitVec.ofInt 64 n &&& BitVec.ofInt 64 (c : Int)).toNat ≤ c := by
    rw [BitVec.toNat_and]
    refine Nat.le_trans Nat.and_le_right ?_
    simp
    omega
  refine ⟨(BitVec.ofInt 64 n &&& BitVec.ofInt 64 (c : Int)).toNat, h1, ?_⟩
  have e : bits .and .i64 n (c : Int) = IntKind.i64.wrap ((BitVec.ofInt 64 n &&& BitVec.ofInt 64 (c : Int)).toNat : Int) := rfl
  rw [e]
  generalize (BitVec.ofInt 64 n &&& BitVec.ofInt 64 (c : Int)).toNat = m at h1
  simp [IntKind.wrap, IntKind.bits, IntKind.signed]
  omega
theorem chk_good (o : Ob) (h : o.tm.Ok) : o.chk = if o.good = true then 0 else 50 := by unfold Ob.chk; rw [if_pos h]
theorem nil_toList : (⟨#[]⟩ : ByteArray).toList = [] := (toList_nil _).2 rfl
/-- A move with such a name. -/
theorem chk_move (th : Int) (x : ByteArray) : (Ob.mk 2 ⟨1, 0⟩ th 0 x false ⟨#[]⟩ 0).chk = if (made th && decide (1 ≤ x.size) && decide (x.size ≤ 32)) = true then 0 else 50 := by
  rw [chk_good _ (show (Tm.mk 1 0).Ok by decide), Ob.good_doc _ _ rfl _ rfl _ rfl _ rfl]
  have e : (Ob.mk 2 ⟨1, 0⟩ th 0 x false ⟨#[]⟩ 0).place = (!(0 == th) && decide (1 ≤ x.size) && decide (x.size ≤ 32)) := rfl
  rw [e]
  dsimp only
  rw [if_neg (show ¬ ((2 : Int) = 1) by decide), if_pos (show (2 : Int) = 2 from rfl), decide_eq_true nil_toList]
  by_cases hm : made th = true
  · have h0 : ((0 : Int) == th) = false := by
      rw [made_iff] at hm
      exact beq_eq_false_iff_ne.2 (by omega)
    rw [hm, h0]
    simp
  · rw [Bool.not_eq_true] at hm
    rw [hm]
    simp
theorem chk_content (th : Int) (x : ByteArray) (z : Nat) (hx : x.size = 32) : (Ob.mk 4 ⟨1, 0⟩ th 0 ⟨#[]⟩ false x z).chk = if (made th && decide (z ≤ 8192)) = true then 0 else 50 := by
  rw [chk_good _ (show (Tm.mk 1 0).Ok by decide), Ob.good_doc _ _ rfl _ rfl _ rfl _ rfl]
  have e : (Ob.mk 4 ⟨1, 0⟩ th 0 ⟨#[]⟩ false x z).fill = decide (z ≤ 8192) := by
    unfold Ob.fill
    dsimp only
    rw [hx, decide_eq_true (show (0 : Int) ≤ (z : Int) by omega)]
    have : decide ((z : Int) ≤ 8192) = decide (z ≤ 8192) := by congr 1; exact propext (by omega)
    rw [this]
    simp
  rw [e]
  dsimp only
  rw [if_neg (show ¬ ((4 : Int) = 1) by decide), if_neg (show ¬ ((4 : Int) = 2) by decide), if_neg (show ¬ ((4 : Int) = 3) by decide), if_pos (show (4 : Int) = 4 from rfl), decide_eq_true nil_toList]
  simp
theorem made_ways (th : Int) : (made th = false ∧ th < 16) ∨ (16 ≤ th ∧ decide (th ≤ 4503599627370495) = made th) := by
  unfold made
  by_cases h : 16 ≤ th
  · rw [decide_eq_true h]; exact .inr ⟨h, rfl⟩
  · rw [decide_eq_false h]; exact .inl ⟨rfl, by omega⟩
end Go.Opn
namespace Go.Proofs.Ytdcgemaaohldmaa
open Go.RowKit Go.Wire Go.Stamp Go.Opn
theorem edge_at {S T : Nat} {x : Array Value} {a b : Ob} {w w2 : World} (k : Below (((w.alloc (.cells x T)).alloc (.cells a.cs S)).alloc (.cells b.cs S)).heap.size (((w.alloc (.cells x T)).alloc (.cells a.cs S)).alloc (.cells b.cs S)) w2) :
    w2.heap[w.heap.size + 1]? = some (.cells a.cs S (0, 0)) ∧ w2.heap[w.heap.size + 1 + 1]? = some (.cells b.cs S (0, 0)) ∧ Below w.heap.size w w2 :=
  ⟨kept_block (kept_alloc (new_at (by simp) _) _) k, kept_block (new_at (by simp) _) k, ((((Below.refl _ _).alloc (Nat.le_refl _) _).alloc (by simp) _).alloc (by simp; omega) _).trans (k.mono (by simp; omega))⟩
abbrev dg32 : ByteArray := ⟨#[49, 50, 51, 52, 53, 54, 55, 56, 57, 48, 49, 50, 51, 52, 53, 54, 55, 56, 57, 48, 49, 50, 51, 52, 53, 54, 55, 56, 57, 48, 49, 50]⟩
set_option maxRecDepth 100000 in
set_option maxHeartbeats 2000000 in
theorem edges_any (name size thing : Int) (w : World) :
    Calls Try.prog 4 #[.int .i64 name, .int .i64 size, .int .u64 thing] w fun e w' => e = .returned (.bool true) ∧ Below w.heap.size w w' := by
  obtain ⟨m, hm, em⟩ := and_at name 63 (by decide)
  obtain ⟨z, hz, ez⟩ := and_at size 16383 (by decide)
  have em : bits .and .i64 name 63 = (m : Int) := em
  have ez : bits .and .i64 size 16383 = (z : Int) := ez
  obtain ⟨X, hX⟩ : ∃ X : ByteArray, X = ⟨(List.replicate m 0).toArray⟩ := ⟨_, rfl⟩
  have sX : X.size = m := by rw [hX, size_list]; simp
  have HM : Hid (∀ w, Calls Try.prog 11 #[(Ob.mk 2 ⟨1, 0⟩ thing 0 X false ⟨#[]⟩ 0).v] w fun e w' => e = .returned (.int .i64 (if (made thing && decide (1 ≤ m) && decide (m ≤ 32)) = true then 0 else 50)) ∧ Below w.heap.size w w') := fun w => by
    have := checkOp_any (Ob.mk 2 ⟨1, 0⟩ thing 0 X false ⟨#[]⟩ 0) w
    rwa [chk_move, sX] at this
  have HC : Hid (∀ w, Calls Try.prog 11 #[(Ob.mk 4 ⟨1, 0⟩ thing 0 ⟨#[]⟩ false dg32 z).v] w fun e w' => e = .returned (.int .i64 (if (made thing && decide (z ≤ 8192)) = true then 0 else 50)) ∧ Below w.heap.size w w') := fun w => by
    have := checkOp_any (Ob.mk 4 ⟨1, 0⟩ thing 0 ⟨#[]⟩ false dg32 z) w
    rwa [chk_content thing dg32 z rfl] at this
  have hmk := make_bytes m (m : Int) rfl (by omega) w
  have hcv : (convert 42 9 (.slice (some ⟨w.heap.size, 0, none⟩) m m)).run Try.prog (w.alloc (.cells (madeCells #[Value.int .u8 0] m) 5)) = .ok (.string X) (w.alloc (.cells (madeCells #[Value.int .u8 0] m) 5)) := by
    have := run_convert_bytes_back (P := Try.prog) (w.alloc (.cells (madeCells #[Value.int .u8 0] m) 5)) 42 9 5 ⟨w.heap.size, 0, none⟩ m (List.replicate m 0) underB under5 under9 (fun j hj => by
      rw [Addr.add_mid, Nat.zero_add]
      exact ((ByteRow.Has.made (Nat.le_refl w.heap.size) m 5).cell (List.getElem?_eq_getElem hj)).1)
    rw [List.length_replicate, ← hX] at this
    exact this
  unfold Ob.v at HM HC
  dsimp only at HM HC
  clear sX hX
  rcases made_ways thing with ⟨h1, h2⟩ | ⟨h1, h2⟩
  · rw [h1, Bool.false_and, if_neg (by decide)] at HC
    rw [h1, Bool.false_and, Bool.false_and, if_neg (by decide)] at HM
    clear h1
    go_enter Try.func4, Try.ntmps4
    go_wp2_with (first
      | (go_at_call 8; refine (awakeOp_any _).mono ?_; rintro e w2 ⟨rfl, k2⟩; have HK : Hid (w2.heap[w.heap.size + 1]? = some (.cells (Ob.mk 2 ⟨1, 0⟩ thing 0 X false ⟨#[]⟩ 0).cs 26 (0, 0)) ∧ w2.heap[w.heap.size + 1 + 1]? = some (.cells (Ob.mk 4 ⟨1, 0⟩ thing 0 ⟨#[]⟩ false dg32 z).cs 26 (0, 0)) ∧ Below w.heap.size w w2) := edge_at k2; clear k2; obtain ⟨c0, c1, c2, c3, c4, c5, c6, c7, c8⟩ := cells9 HK.out.1)
      | (go_at_call 11; refine (HM.out _).mono ?_; clear HM c0 c1 c2 c3 c4 c5 c6 c7 c8; rintro e w3 ⟨rfl, k3⟩; obtain ⟨c0, c1, c2, c3, c4, c5, c6, c7, c8⟩ := cells9 (kept_block HK.out.2.1 k3); have HB : Hid (Below w.heap.size w w3) := HK.out.2.2.trans (k3.mono HK.out.2.2.size); clear k3)
      | (go_at_call 11; refine (HC.out _).mono ?_; clear HC; rintro e w4 ⟨rfl, k4⟩))
    go_ret
    exact ⟨rfl, HB.out.trans (k4.mono HB.out.size)⟩
  · cases hm1 : made thing
    · rw [hm1] at h2
      rw [hm1, Bool.false_and, if_neg (by decide)] at HC
      rw [hm1, Bool.false_and, Bool.false_and, if_neg (by decide)] at HM
      clear hm1
      go_enter Try.func4, Try.ntmps4
      go_wp2_with (first
        | (go_at_call 8; refine (awakeOp_any _).mono ?_; rintro e w2 ⟨rfl, k2⟩; have HK : Hid (w2.heap[w.heap.size + 1]? = some (.cells (Ob.mk 2 ⟨1, 0⟩ thing 0 X false ⟨#[]⟩ 0).cs 26 (0, 0)) ∧ w2.heap[w.heap.size + 1 + 1]? = some (.cells (Ob.mk 4 ⟨1, 0⟩ thing 0 ⟨#[]⟩ false dg32 z).cs 26 (0, 0)) ∧ Below w.heap.size w w2) := edge_at k2; clear k2; obtain ⟨c0, c1, c2, c3, c4, c5, c6, c7, c8⟩ := cells9 HK.out.1)
        | (go_at_call 11; refine (HM.out _).mono ?_; clear HM c0 c1 c2 c3 c4 c5 c6 c7 c8; rintro e w3 ⟨rfl, k3⟩; obtain ⟨c0, c1, c2, c3, c4, c5, c6, c7, c8⟩ := cells9 (kept_block HK.out.2.1 k3); have HB : Hid (Below w.heap.size w w3) := HK.out.2.2.trans (k3.mono HK.out.2.2.size); clear k3)
        | (go_at_call 11; refine (HC.out _).mono ?_; clear HC; rintro e w4 ⟨rfl, k4⟩))
      go_ret
      exact ⟨rfl, HB.out.trans (k4.mono HB.out.size)⟩
    · rw [hm1] at h2
      rw [hm1, Bool.true_and] at HC
      rw [hm1, Bool.true_and] at HM
      clear hm1
      by_cases hz1 : z ≤ 8192
      · rw [decide_eq_true hz1, if_pos rfl] at HC
        have g1 : decide ((z : Int) ≤ 8192) = true := decide_eq_true (by omega)
        clear hz1 hz
        rcases Nat.eq_zero_or_pos m with hm0 | hm0
        · have g2 : (m : Int) < 1 := by omega
          rw [decide_eq_false (show ¬ 1 ≤ m by omega), Bool.false_and, if_neg (by decide)] at HM
          clear hm0
          go_enter Try.func4, Try.ntmps4
          go_wp2_with (first
            | (go_at_call 8; refine (awakeOp_any _).mono ?_; rintro e w2 ⟨rfl, k2⟩; have HK : Hid (w2.heap[w.heap.size + 1]? = some (.cells (Ob.mk 2 ⟨1, 0⟩ thing 0 X false ⟨#[]⟩ 0).cs 26 (0, 0)) ∧ w2.heap[w.heap.size + 1 + 1]? = some (.cells (Ob.mk 4 ⟨1, 0⟩ thing 0 ⟨#[]⟩ false dg32 z).cs 26 (0, 0)) ∧ Below w.heap.size w w2) := edge_at k2; clear k2; obtain ⟨c0, c1, c2, c3, c4, c5, c6, c7, c8⟩ := cells9 HK.out.1)
            | (go_at_call 11; refine (HM.out _).mono ?_; clear HM c0 c1 c2 c3 c4 c5 c6 c7 c8; rintro e w3 ⟨rfl, k3⟩; obtain ⟨c0, c1, c2, c3, c4, c5, c6, c7, c8⟩ := cells9 (kept_block HK.out.2.1 k3); have HB : Hid (Below w.heap.size w w3) := HK.out.2.2.trans (k3.mono HK.out.2.2.size); clear k3)
            | (go_at_call 11; refine (HC.out _).mono ?_; clear HC; rintro e w4 ⟨rfl, k4⟩))
          go_ret
          exact ⟨rfl, HB.out.trans (k4.mono HB.out.size)⟩
        · have g2 : (1 : Int) ≤ (m : Int) := by omega
          rw [decide_eq_true (show 1 ≤ m by omega), Bool.true_and] at HM
          by_cases hm2 : m ≤ 32
          · have g3 : decide ((m : Int) ≤ 32) = true := decide_eq_true (by omega)
            rw [decide_eq_true hm2, if_pos rfl] at HM
            go_enter Try.func4, Try.ntmps4
            go_wp2_with (first
              | (go_at_call 8; refine (awakeOp_any _).mono ?_; rintro e w2 ⟨rfl, k2⟩; have HK : Hid (w2.heap[w.heap.size + 1]? = some (.cells (Ob.mk 2 ⟨1, 0⟩ thing 0 X false ⟨#[]⟩ 0).cs 26 (0, 0)) ∧ w2.heap[w.heap.size + 1 + 1]? = some (.cells (Ob.mk 4 ⟨1, 0⟩ thing 0 ⟨#[]⟩ false dg32 z).cs 26 (0, 0)) ∧ Below w.heap.size w w2) := edge_at k2; clear k2; obtain ⟨c0, c1, c2, c3, c4, c5, c6, c7, c8⟩ := cells9 HK.out.1)
              | (go_at_call 11; refine (HM.out _).mono ?_; clear HM c0 c1 c2 c3 c4 c5 c6 c7 c8; rintro e w3 ⟨rfl, k3⟩; obtain ⟨c0, c1, c2, c3, c4, c5, c6, c7, c8⟩ := cells9 (kept_block HK.out.2.1 k3); have HB : Hid (Below w.heap.size w w3) := HK.out.2.2.trans (k3.mono HK.out.2.2.size); clear k3)
              | (go_at_call 11; refine (HC.out _).mono ?_; clear HC; rintro e w4 ⟨rfl, k4⟩))
            go_ret
            exact ⟨rfl, HB.out.trans (k4.mono HB.out.size)⟩
          · have g3 : decide ((m : Int) ≤ 32) = false := decide_eq_false (by omega)
            rw [decide_eq_false hm2, if_neg (by decide)] at HM
            go_enter Try.func4, Try.ntmps4
            go_wp2_with (first
              | (go_at_call 8; refine (awakeOp_any _).mono ?_; rintro e w2 ⟨rfl, k2⟩; have HK : Hid (w2.heap[w.heap.size + 1]? = some (.cells (Ob.mk 2 ⟨1, 0⟩ thing 0 X false ⟨#[]⟩ 0).cs 26 (0, 0)) ∧ w2.heap[w.heap.size + 1 + 1]? = some (.cells (Ob.mk 4 ⟨1, 0⟩ thing 0 ⟨#[]⟩ false dg32 z).cs 26 (0, 0)) ∧ Below w.heap.size w w2) := edge_at k2; clear k2; obtain ⟨c0, c1, c2, c3, c4, c5, c6, c7, c8⟩ := cells9 HK.out.1)
              | (go_at_call 11; refine (HM.out _).mono ?_; clear HM c0 c1 c2 c3 c4 c5 c6 c7 c8; rintro e w3 ⟨rfl, k3⟩; obtain ⟨c0, c1, c2, c3, c4, c5, c6, c7, c8⟩ := cells9 (kept_block HK.out.2.1 k3); have HB : Hid (Below w.heap.size w w3) := HK.out.2.2.trans (k3.mono HK.out.2.2.size); clear k3)
              | (go_at_call 11; refine (HC.out _).mono ?_; clear HC; rintro e w4 ⟨rfl, k4⟩))
            go_ret
            exact ⟨rfl, HB.out.trans (k4.mono HB.out.size)⟩
      · rw [decide_eq_false hz1, if_neg (by decide)] at HC
        have g1 : decide ((z : Int) ≤ 8192) = false := decide_eq_false (by omega)
        clear hz1 hz
        rcases Nat.eq_zero_or_pos m with hm0 | hm0
        · have g2 : (m : Int) < 1 := by omega
          rw [decide_eq_false (show ¬ 1 ≤ m by omega), Bool.false_and, if_neg (by decide)] at HM
          clear hm0
          go_enter Try.func4, Try.ntmps4
          go_wp2_with (first
            | (go_at_call 8; refine (awakeOp_any _).mono ?_; rintro e w2 ⟨rfl, k2⟩; have HK : Hid (w2.heap[w.heap.size + 1]? = some (.cells (Ob.mk 2 ⟨1, 0⟩ thing 0 X false ⟨#[]⟩ 0).cs 26 (0, 0)) ∧ w2.heap[w.heap.size + 1 + 1]? = some (.cells (Ob.mk 4 ⟨1, 0⟩ thing 0 ⟨#[]⟩ false dg32 z).cs 26 (0, 0)) ∧ Below w.heap.size w w2) := edge_at k2; clear k2; obtain ⟨c0, c1, c2, c3, c4, c5, c6, c7, c8⟩ := cells9 HK.out.1)
            | (go_at_call 11; refine (HM.out _).mono ?_; clear HM c0 c1 c2 c3 c4 c5 c6 c7 c8; rintro e w3 ⟨rfl, k3⟩; obtain ⟨c0, c1, c2, c3, c4, c5, c6, c7, c8⟩ := cells9 (kept_block HK.out.2.1 k3); have HB : Hid (Below w.heap.size w w3) := HK.out.2.2.trans (k3.mono HK.out.2.2.size); clear k3)
            | (go_at_call 11; refine (HC.out _).mono ?_; clear HC; rintro e w4 ⟨rfl, k4⟩))
          go_ret
          exact ⟨rfl, HB.out.trans (k4.mono HB.out.size)⟩
        · have g2 : (1 : Int) ≤ (m : Int) := by omega
          rw [decide_eq_true (show 1 ≤ m by omega), Bool.true_and] at HM
          by_cases hm2 : m ≤ 32
          · have g3 : decide ((m : Int) ≤ 32) = true := decide_eq_true (by omega)
            rw [decide_eq_true hm2, if_pos rfl] at HM
            go_enter Try.func4, Try.ntmps4
            go_wp2_with (first
              | (go_at_call 8; refine (awakeOp_any _).mono ?_; rintro e w2 ⟨rfl, k2⟩; have HK : Hid (w2.heap[w.heap.size + 1]? = some (.cells (Ob.mk 2 ⟨1, 0⟩ thing 0 X false ⟨#[]⟩ 0).cs 26 (0, 0)) ∧ w2.heap[w.heap.size + 1 + 1]? = some (.cells (Ob.mk 4 ⟨1, 0⟩ thing 0 ⟨#[]⟩ false dg32 z).cs 26 (0, 0)) ∧ Below w.heap.size w w2) := edge_at k2; clear k2; obtain ⟨c0, c1, c2, c3, c4, c5, c6, c7, c8⟩ := cells9 HK.out.1)
              | (go_at_call 11; refine (HM.out _).mono ?_; clear HM c0 c1 c2 c3 c4 c5 c6 c7 c8; rintro e w3 ⟨rfl, k3⟩; obtain ⟨c0, c1, c2, c3, c4, c5, c6, c7, c8⟩ := cells9 (kept_block HK.out.2.1 k3); have HB : Hid (Below w.heap.size w w3) := HK.out.2.2.trans (k3.mono HK.out.2.2.size); clear k3)
              | (go_at_call 11; refine (HC.out _).mono ?_; clear HC; rintro e w4 ⟨rfl, k4⟩))
            go_ret
            exact ⟨rfl, HB.out.trans (k4.mono HB.out.size)⟩
          · have g3 : decide ((m : Int) ≤ 32) = false := decide_eq_false (by omega)
            rw [decide_eq_false hm2, if_neg (by decide)] at HM
            go_enter Try.func4, Try.ntmps4
            go_wp2_with (first
              | (go_at_call 8; refine (awakeOp_any _).mono ?_; rintro e w2 ⟨rfl, k2⟩; have HK : Hid (w2.heap[w.heap.size + 1]? = some (.cells (Ob.mk 2 ⟨1, 0⟩ thing 0 X false ⟨#[]⟩ 0).cs 26 (0, 0)) ∧ w2.heap[w.heap.size + 1 + 1]? = some (.cells (Ob.mk 4 ⟨1, 0⟩ thing 0 ⟨#[]⟩ false dg32 z).cs 26 (0, 0)) ∧ Below w.heap.size w w2) := edge_at k2; clear k2; obtain ⟨c0, c1, c2, c3, c4, c5, c6, c7, c8⟩ := cells9 HK.out.1)
              | (go_at_call 11; refine (HM.out _).mono ?_; clear HM c0 c1 c2 c3 c4 c5 c6 c7 c8; rintro e w3 ⟨rfl, k3⟩; obtain ⟨c0, c1, c2, c3, c4, c5, c6, c7, c8⟩ := cells9 (kept_block HK.out.2.1 k3); have HB : Hid (Below w.heap.size w w3) := HK.out.2.2.trans (k3.mono HK.out.2.2.size); clear k3)
              | (go_at_call 11; refine (HC.out _).mono ?_; clear HC; rintro e w4 ⟨rfl, k4⟩))
            go_ret
            exact ⟨rfl, HB.out.trans (k4.mono HB.out.size)⟩
end Go.Proofs.Ytdcgemaaohldmaa
