/- Contract: an operation off a reader, the document's. -/
import Derived.Test.YtdcgemaaohldmaaOpRefTake1
import Derived.Test.YtdcgemaaohldmaaOpRefTake2
import Derived.Test.YtdcgemaaohldmaaOpRefTake4
namespace Go.Proofs.Ytdcgemaaohldmaa
open Go.RowKit Go.Wire Go.Stamp Go.Opn
theorem St.tm_nonneg (q : St) : 0 ≤ q.stamp.2.c := by
  have h := q.read_fits
  have e : ∀ r : St, 0 ≤ (if r.err = 0 then q.read else (⟨0, 0⟩ : Tm)).c := fun r => by
    split
    · exact h.2.2.2
    · exact Int.le_refl _
  exact e _
theorem rtakeOp_any (q : St) (w : World) (hq : q.pos ≤ q.s.size) (hs : q.s.size ≤ maxLen) :
    Calls Try.prog 6 #[q.v] w fun e w' => e = .returned (.tuple #[q.op.1.v, q.op.2.v]) ∧ Below w.heap.size w w' := by
  have z1 : q.r1.1.s.size ≤ maxLen := by unfold St.r1; rw [St.number_s]; exact hs
  have z2 : q.r2.1.s.size ≤ maxLen := by unfold St.r2; rw [St.stamp_s]; exact z1
  have z3 : q.r3.1.s.size ≤ maxLen := by rw [St.r3_s]; exact hs
  have p1 := q.r1_le hq
  have p2 := q.r2_le hq
  have p3 := q.r3_le hq
  have ht : 0 ≤ q.r2.2.c := St.tm_nonneg q.r1.1
  have HST : Hid (∀ w, Calls Try.prog 16 #[q.r1.1.v] w fun e w' => e = .returned (.tuple #[q.r2.1.v, q.r2.2.v]) ∧ Below w.heap.size w w') := fun w => rtake_any q.r1.1 w p1 z1
  have HN8 : Hid (∀ w, Calls Try.prog 15 #[q.r2.1.v, .int .i64 8] w fun e w' => e = .returned (.tuple #[q.r3.1.v, .int .u64 (q.r3.2 : Nat)]) ∧ Below w.heap.size w w') := fun w => rnumber_any q.r2.1 8 w p2 z2
  have HN1 : ∀ w, Calls Try.prog 15 #[q.v, .int .i64 1] w fun e w' => e = .returned (.tuple #[q.r1.1.v, .int .u64 (q.r1.2 : Nat)]) ∧ Below w.heap.size w w' := fun w => rnumber_any q 1 w hq hs
  have hk : q.r1.2 < 256 := q.number_lt 1 (by decide)
  by_cases k1 : q.r1.2 = 1
  · rw [St.op_of q (St.raw1 q k1)]
    rw [k1] at HN1
    have pb := q.r3.1.bool_le p3
    have pn := q.r3.1.bool.1.number_le 8 (by rw [St.bool_s]; exact pb)
    exact rtake_1 q q.r1.1 q.r2.1 q.r3.1 _ _ _ _ _ _ q.r2.2 q.r3.2 w HN1 HST HN8
      (fun w => rbool_any q.r3.1 w p3 z3)
      (fun w => rnumber_any q.r3.1.bool.1 8 w (by rw [St.bool_s]; exact pb) (by rw [St.bool_s]; exact z3))
      (fun w => rtext_any (q.r3.1.bool.1.number 8).1 32 w (by rw [St.number_s]; exact pn) (by rw [St.number_s, St.bool_s]; exact z3) (by decide))
      _ (fun w => rcheckOp_any _ ht w)
  by_cases k2 : q.r1.2 = 2
  · rw [St.op_of q (St.raw2 q k2)]
    rw [k2] at HN1
    have pn := q.r3.1.number_le 8 p3
    exact rtake_2 q q.r1.1 q.r2.1 q.r3.1 _ _ _ _ q.r2.2 q.r3.2 w HN1 HST HN8
      (fun w => rnumber_any q.r3.1 8 w p3 z3)
      (fun w => rtext_any (q.r3.1.number 8).1 32 w (by rw [St.number_s]; exact pn) (by rw [St.number_s]; exact z3) (by decide))
      _ (fun w => rcheckOp_any _ ht w)
  by_cases k4 : q.r1.2 = 4
  · rw [St.op_of q (St.raw4 q k4)]
    rw [k4] at HN1
    have pn := q.r3.1.bytes_le 32 p3
    exact rtake_4 q q.r1.1 q.r2.1 q.r3.1 _ _ _ _ q.r2.2 q.r3.2 w HN1 HST HN8
      (fun w => rbytes_any q.r3.1 32 w p3 z3)
      (fun w => rcount_any (q.r3.1.bytes 32).1 8192 w (by rw [St.bytes_s]; exact pn) (by rw [St.bytes_s]; exact z3) (by decide))
      _ (fun w => rcheckOp_any _ ht w)
  · rw [St.op_of q (St.raw0 q k1 k2 k4)]
    exact rtake_0 q q.r1.1 q.r2.1 q.r3.1 q.r1.2 q.r2.2 q.r3.2 w hk k1 k2 k4 HN1 HST HN8 _ (fun w => rcheckOp_any _ ht w)
end Go.Proofs.Ytdcgemaaohldmaa
