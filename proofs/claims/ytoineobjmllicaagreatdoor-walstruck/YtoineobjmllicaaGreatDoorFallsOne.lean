/- Several texts in one: WalOpenFalls. -/
import Derived.Test.YtoineobjmllicaaGreatDoorSegsOne
import Derived.Test.YtoineobjmllicaaGreatDoorStruckTwo
/- A slice of falls, as it came in. -/
namespace Go.Wal
open Go.RowKit Go.Dk
def fcell (f : Fall) (c : Nat) : Value := match c with | 0 => .int .i64 f.on | 1 => .int .i64 f.keep | _ => .int .i64 f.torn
end Go.Wal
namespace Go.Proofs.YtoineobjmllicaaGreatDoor
open Go Go.ChangeShapes Go.WideShapes Go.ChangeAt Go.RowKit Go.Wal Go.Dk Go.Wire
theorem cellsFall : Tryz.prog.cellsOf 34 = 3 := by kernel_rfl
set_option maxRecDepth 100000 in
theorem fall_cells {H : Type} {enc : TypeId × Value → H} {W : World} {base n : Nat} {held : Bool} {x0 x1 x2 : Value} {y : DataW H × List MemPlace}
    (hf : DataW.trod enc Tryz.prog W base (fun _ => true) held n 34 [x0, x1, x2] = some y) : ∃ g : Fall, [x0, x1, x2] = [fcell g 0, fcell g 1, fcell g 2] := by
  obtain ⟨d, p⟩ := y
  obtain ⟨xs, n, _, _, _, hlen, hel⟩ := DataW.trod_struct Tryz.underlying34 hf
  match xs, hlen with
  | [y0, y1, y2], _ =>
    have h0 := hel 0 _ rfl
    have h1 := hel 1 _ rfl
    have h2 := hel 2 _ rfl
    clear hel hf
    obtain ⟨a0, e0, _, w0⟩ := DataW.trod_int Tryz.underlying3 h0
    obtain ⟨a1, e1, _, w1⟩ := DataW.trod_int Tryz.underlying3 h1
    obtain ⟨a2, e2, _, w2⟩ := DataW.trod_int Tryz.underlying3 h2
    rw [show Tryz.prog.cellsOf (Field.type _) = 1 from cellsI] at e0 e1 e2
    obtain rfl : x0 = .int .i64 a0 := (List.cons.inj e0).1
    obtain rfl : x1 = .int .i64 a1 := (List.cons.inj e1).1
    obtain rfl : x2 = .int .i64 a2 := (List.cons.inj e2).1
    exact ⟨⟨a0, a1, a2⟩, rfl⟩
set_option maxRecDepth 100000 in
theorem open_falls {H : Type} {enc : TypeId × Value → H} {W : World} {r : Reach} {b0 base : Nat} {held : Bool} {v : Value} {d : DataW H} {p : List MemPlace}
    (hv : Value.okWide Tryz.prog W r b0 48 v) (h : DataW.Trod enc Tryz.prog W base (fun _ => true) held 48 v d p) : ∃ L, FallsAt W v L ∧ L.length ≤ maxLen := by
  have inh : Inhabited Fall := ⟨⟨0, 0, 0⟩⟩
  obtain ⟨n, gs, hS, hΦ, hn⟩ := open_rows (G := Fall) fcell (fun _ => True) Tryz.underlying48 (by decide : 0 < 3) cellsFall (fun k cs y hl hf => by
    match cs, hl with
    | [x0, x1, x2], _ =>
      obtain ⟨g, hg⟩ := fall_cells hf
      refine ⟨g, fun c hc => ?_, trivial⟩
      rw [hg]
      match c, hc with
      | 0, _ | 1, _ | 2, _ => rfl) hv h
  have hlen : ((List.range n).map gs).length = n := by simp
  refine ⟨(List.range n).map gs, ?_, by rw [hlen]; exact hn⟩
  rcases hS with ⟨⟨a, cap, rfl⟩, rfl⟩ | ⟨b, off, cap, rfl, _, hc, hcell⟩
  · exact ⟨a, cap, rfl, Nat.zero_le _, fun j ls hj => by simp at hj⟩
  · refine ⟨_, cap, by rw [hlen], by rw [hlen]; exact hc, fun j y hj => ?_⟩
    have hjn : j < n := by have := (List.getElem?_eq_some_iff.1 hj).1; rwa [hlen] at this
    rw [List.getElem?_map, List.getElem?_range hjn] at hj
    cases hj
    refine ⟨b, off, rfl, ?_, ?_, ?_⟩
    · have := hcell j 0 hjn (by decide); simpa [fcell, Nat.mul_comm] using this
    · have := hcell j 1 hjn (by decide); simpa [fcell, Nat.mul_comm] using this
    · have := hcell j 2 hjn (by decide); simpa [fcell, Nat.mul_comm] using this
end Go.Proofs.YtoineobjmllicaaGreatDoor
