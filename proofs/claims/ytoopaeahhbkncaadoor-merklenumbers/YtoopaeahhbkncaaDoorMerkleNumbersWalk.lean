/- The walk of MerkleNumbers. -/
import Derived.Test.YtoopaeahhbkncaaDoorMerkleWithin
namespace Go.Mk
open Go.RowKit
theorem and_1023 (n : Int) : ∃ m : Nat, m ≤ 1023 ∧ bits .and .i64 n 1023 = (m : Int) := by
  have h1 : (BitVec.ofInt 64 n &&& BitVec.ofInt 64 (1023 : Int)).toNat ≤ 1023 := by
    rw [BitVec.toNat_and]
    exact Nat.le_trans Nat.and_le_right (by decide)
  refine ⟨(BitVec.ofInt 64 n &&& BitVec.ofInt 64 (1023 : Int)).toNat, h1, ?_⟩
  have e : bits .and .i64 n (1023 : Int) = IntKind.i64.wrap ((BitVec.ofInt 64 n &&& BitVec.ofInt 64 (1023 : Int)).toNat : Int) := rfl
  rw [e]
  generalize (BitVec.ofInt 64 n &&& BitVec.ofInt 64 (1023 : Int)).toNat = m at h1
  simp [IntKind.wrap, IntKind.bits, IntKind.signed]
  omega
end Go.Mk
namespace Go.Proofs.YtoopaeahhbkncaaDoor
open Go.RowKit Go.Shelf Go.Wire Go.Mk Go.Chunk
attribute [local go_sem] Oper.semAt_some
theorem errno_text (n : Int) (w : World) :
    Calls Tryd.prog 35 #[.int .i64 n] w fun e w' => e = .returned (.string ⟨#[97, 114, 98, 111, 117, 114, 58, 32, 97, 110, 32, 101, 114, 114, 111, 114]⟩) ∧ w' = w := by
  go_enter Tryd.func35, Tryd.ntmps35
  go_wp2
  go_ret
  exact ⟨rfl, rfl⟩
set_option maxRecDepth 100000 in
set_option maxHeartbeats 2000000 in
theorem merkleNumbers_any (x : Int) (W : World) (hst : Steps W) (hg : W.cell? ⟨0, 0, none⟩ = some (.iface 140 (.agg #[.pointer (some ⟨2, 79, none⟩)]))) :
    Calls Tryd.prog 7 #[.int .i64 x] W fun e w' => e = .returned (.bool true) ∧ Below W.heap.size W w' := by
  obtain ⟨m, hm, hmm⟩ := and_1023 x
  have hm' : (m : Int) ≤ 1023 := by omega
  have hgl := block_lt_of_cell hg
  have HA := hide (awake9_any W hst)
  have HN := hide (fun (n : Int) (w' : World) (h : Below W.heap.size W w') => number_hit n w' ((h.cell (p := ⟨0, 0, none⟩) hgl).trans hg))
  clear hst hg hgl
  go_enter Tryd.func7, Tryd.ntmps7
  go_wp2_with (first
    | (go_at_call 10; refine HA.out.mono ?_; rintro e w1 ⟨rfl, hb1⟩; have HB := hide hb1; clear hb1)
    | (go_at_call_of 34 Value.nilIface; refine (number_nil _).mono ?_; rintro e w2 ⟨rfl, hb2⟩; replace HB := hide (HB.out.trans (hb2.mono HB.out.size)); clear hb2)
    | (go_at_call 34; refine (HN.out _ _ HB.out).mono ?_; rintro e w3 ⟨rfl, hb3⟩; replace HB := hide (HB.out.trans (hb3.mono HB.out.size)); clear hb3)
    | (go_at_call 35; refine (errno_text _ _).mono ?_; rintro e w4 ⟨rfl, hw⟩; subst hw))
  go_ret
  exact ⟨by simp, HB.out⟩
end Go.Proofs.YtoopaeahhbkncaaDoor
