/- A slice of acts that came in is read. -/
import Derived.Test.YtoineobjmllicaaGreatDoorWalOpenLists
import Derived.Test.YtoineobjmllicaaGreatDoorWalPlaysWalk
namespace Go.Wal
open Go.RowKit Go.Dk
/-- An act and the two values that are not said of it: its lines' slice and where it falls. -/
structure Az where
  y : Ay
  v : Value
  k : Int
def Az.cell (g : Az) (c : Nat) : Value := match c with | 0 => .int .i64 g.y.kind | 1 => g.v | 2 => .int .i64 g.k | 3 => .int .i64 g.y.keep | _ => .int .i64 g.y.torn
end Go.Wal
namespace Go.Proofs.YtoineobjmllicaaGreatDoor
open Go Go.ChangeShapes Go.WideShapes Go.ChangeAt Go.RowKit Go.Wal Go.Dk Go.Wire
theorem cells36 : Tryz.prog.cellsOf 36 = 5 := by kernel_rfl
theorem cells34 : Tryz.prog.cellsOf 34 = 3 := by kernel_rfl
theorem cellsInt : Tryz.prog.cellsOf 3 = 1 := by kernel_rfl
set_option maxRecDepth 100000 in
theorem act7_cells {H : Type} {enc : TypeId × Value → H} {W : World} {base n : Nat} {held : Bool} {x0 x1 x2 x3 x4 : Value} {y : DataW H × List MemPlace}
    (hf : DataW.trod enc Tryz.prog W base (fun _ => true) held n 36 [x0, x1, x2, x3, x4] = some y) : ∃ g : Az, [x0, x1, x2, x3, x4] = [g.cell 0, g.cell 1, g.cell 2, g.cell 3, g.cell 4] ∧ Texts W g.v g.y.ls ∧ (∀ l ∈ g.y.ls, l.length ≤ maxLen) ∧ g.y.ls.length ≤ maxLen := by
  obtain ⟨d, p⟩ := y
  obtain ⟨xs, n, _, _, _, hlen, hel⟩ := DataW.trod_struct Tryz.underlying36 hf
  match xs, hlen with
  | [y0, y1, y2], _ =>
    have h0 := hel 0 _ rfl
    have h1 := hel 1 _ rfl
    have h2 := hel 2 _ rfl
    clear hel hf
    obtain ⟨a0, e0, _, w0⟩ := DataW.trod_int Tryz.underlying3 h0
    obtain ⟨v1, ls, e1, t1, s1, m1⟩ := lines_of h1
    rw [show Tryz.prog.cellsOf (Field.type _) = 3 from cells34] at h2
    obtain ⟨zs, m, _, _, _, hlen2, hel2⟩ := DataW.trod_struct Tryz.underlying34 h2
    match zs, hlen2 with
    | [z0, z1, z2], _ =>
      have g0 := hel2 0 _ rfl
      have g1 := hel2 1 _ rfl
      have g2 := hel2 2 _ rfl
      clear hel2 h2
      obtain ⟨a2, e2, _, w2⟩ := DataW.trod_int Tryz.underlying3 g0
      obtain ⟨a3, e3, _, w3⟩ := DataW.trod_int Tryz.underlying3 g1
      obtain ⟨a4, e4, _, w4⟩ := DataW.trod_int Tryz.underlying3 g2
      rw [show Tryz.prog.cellsOf (Field.type _) = 1 from cellsInt] at e0 e2 e3 e4
      rw [show Tryz.prog.cellsOf (Field.type _) = 1 from cells30] at e1
      obtain rfl : x0 = .int .i64 a0 := (List.cons.inj e0).1
      obtain rfl : x1 = v1 := (List.cons.inj e1).1
      obtain rfl : x2 = .int .i64 a2 := (List.cons.inj e2).1
      obtain rfl : x3 = .int .i64 a3 := (List.cons.inj e3).1
      obtain rfl : x4 = .int .i64 a4 := (List.cons.inj e4).1
      exact ⟨⟨⟨a0, ls, a3, a4⟩, x1, a2⟩, rfl, t1, s1, m1⟩
set_option maxRecDepth 100000 in
theorem open_acts7 {H : Type} {enc : TypeId × Value → H} {W : World} {r : Reach} {b0 base : Nat} {held : Bool} {v : Value} {d : DataW H} {p : List MemPlace}
    (hv : Value.okWide Tryz.prog W r b0 22 v) (h : DataW.Trod enc Tryz.prog W base (fun _ => true) held 22 v d p) : ∃ L, ActsAt W v L ∧ (∀ y ∈ L, y.ls.length ≤ maxLen ∧ ∀ l ∈ y.ls, l.length ≤ maxLen) ∧ L.length ≤ maxLen := by
  have inh : Inhabited Az := ⟨⟨⟨0, [], 0, 0⟩, undef, 0⟩⟩
  obtain ⟨n, gs, hS, hΦ, hn⟩ := open_rows (G := Az) Az.cell (fun g => Texts W g.v g.y.ls ∧ (∀ l ∈ g.y.ls, l.length ≤ maxLen) ∧ g.y.ls.length ≤ maxLen) Tryz.underlying22 (by decide : 0 < 5) cells36 (fun k cs y hl hf => by
    match cs, hl with
    | [x0, x1, x2, x3, x4], _ =>
      obtain ⟨g, hg, hφ⟩ := act7_cells hf
      refine ⟨g, fun c hc => ?_, hφ⟩
      rw [hg]
      match c, hc with
      | 0, _ | 1, _ | 2, _ | 3, _ | 4, _ => rfl) hv h
  have hlen : ((List.range n).map fun j => (gs j).y).length = n := by simp
  refine ⟨(List.range n).map fun j => (gs j).y, ?_, fun ls hls => ?_, by rw [hlen]; exact hn⟩
  · rcases hS with ⟨⟨a, cap, rfl⟩, rfl⟩ | ⟨b, off, cap, rfl, _, hc, hcell⟩
    · exact ⟨a, cap, rfl, Nat.zero_le _, fun j ls hj => by simp at hj⟩
    · refine ⟨_, cap, by rw [hlen], by rw [hlen]; exact hc, fun j y hj => ?_⟩
      have hjn : j < n := by have := (List.getElem?_eq_some_iff.1 hj).1; rwa [hlen] at this
      rw [List.getElem?_map, List.getElem?_range hjn] at hj
      cases hj
      refine ⟨b, off, (gs j).v, rfl, ?_, ?_, ?_, ?_, (hΦ j hjn).1⟩
      · have := hcell j 0 hjn (by decide); simpa [Az.cell, Nat.mul_comm] using this
      · have := hcell j 1 hjn (by decide); simpa [Az.cell, Nat.mul_comm] using this
      · have := hcell j 3 hjn (by decide); simpa [Az.cell, Nat.mul_comm] using this
      · have := hcell j 4 hjn (by decide); simpa [Az.cell, Nat.mul_comm] using this
  · obtain ⟨j, hj, rfl⟩ := List.mem_map.1 hls
    have := hΦ j (List.mem_range.1 hj)
    exact ⟨this.2.2, this.2.1⟩
end Go.Proofs.YtoineobjmllicaaGreatDoor
