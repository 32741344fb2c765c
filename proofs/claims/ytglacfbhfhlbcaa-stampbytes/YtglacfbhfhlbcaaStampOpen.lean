/- Times, and slices of them, that came in are read. -/
import Derived.Test.YtglacfbhfhlbcaaOpenRows
import Derived.Test.YtglacfbhfhlbcaaStampClock
namespace Go.Stamp
def Tm.cell (t : Tm) (c : Nat) : Value := if c = 0 then .int .u64 t.c else .int .i64 t.k
end Go.Stamp
namespace Go.Proofs.Ytglacfbhfhlbcaa
open Go Go.ChangeShapes Go.WideShapes Go.ChangeAt Go.RowKit Go.Wire Go.Stamp
theorem cells24 : Try.prog.cellsOf 24 = 2 := by kernel_rfl
theorem cells22 : Try.prog.cellsOf 22 = 1 := by kernel_rfl
theorem cells3 : Try.prog.cellsOf 3 = 1 := by kernel_rfl
theorem open_stamp {H : Type} {enc : TypeId × Value → H} {W : World} {r : Reach} {b0 base : Nat} {held : Bool} {v : Value} {d : DataW H} {p : List MemPlace}
    (hv : Value.okWide Try.prog W r b0 24 v) (h : DataW.Trod enc Try.prog W base (fun _ => true) held 24 v d p) : ∃ t : Tm, v = t.v ∧ t.Fits := by
  obtain ⟨c0, c1, y0, y1, m, rfl, rfl, rfl, hy0, hy1⟩ := Joins.open_agg2 Try.underlying24 (by kernel_rfl) cells24 hv h
  obtain ⟨c, e0, _, w0⟩ := DataW.trod_int Try.underlying22 hy0
  obtain ⟨k, e1, _, w1⟩ := DataW.trod_int Try.underlying3 hy1
  simp at e0 e1
  subst e0 e1
  have a := u64_of w0
  have b := int_of w1
  exact ⟨⟨c, k⟩, rfl, ⟨a.1, a.2, b.1, b.2⟩⟩
theorem open_stamps {H : Type} {enc : TypeId × Value → H} {W : World} {r : Reach} {b0 base : Nat} {held : Bool} {v : Value} {d : DataW H} {p : List MemPlace}
    (hv : Value.okWide Try.prog W r b0 37 v) (h : DataW.Trod enc Try.prog W base (fun _ => true) held 37 v d p) :
    ∃ (n : Nat) (ts : Nat → Tm), SRow W 2 v n (fun j => (ts j).cell) ∧ (∀ j, j < n → (ts j).Fits) ∧ n ≤ maxLen :=
  have : Inhabited Tm := ⟨⟨0, 0⟩⟩
  open_rows Tm.cell Tm.Fits Try.underlying37 (by decide) cells24 (fun n cs y hl h2 => by
    match cs, hl with
    | [x, z], _ =>
      obtain ⟨y0, y1, k, _, _, g0, g1⟩ := trod_struct2 Try.underlying24 h2
      obtain ⟨a, e0, _, w0⟩ := DataW.trod_int Try.underlying22 g0
      obtain ⟨b, e1, _, w1⟩ := DataW.trod_int Try.underlying3 g1
      rw [show Try.prog.cellsOf (Field.type _) = 1 from cells22] at e0
      rw [show Try.prog.cellsOf (Field.type _) = 1 from cells3] at e1
      obtain rfl : x = .int .u64 a := by simpa using e0
      obtain rfl : z = .int .i64 b := by simpa using e1
      have ha := u64_of w0
      have hb := int_of w1
      exact ⟨⟨a, b⟩, fun c hc => by match c, hc with | 0, _ => rfl | 1, _ => rfl, ⟨ha.1, ha.2, hb.1, hb.2⟩⟩) hv h
end Go.Proofs.Ytglacfbhfhlbcaa
