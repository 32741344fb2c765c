/- Several texts in one: WalOpenSegs. -/
import Derived.Test.YtoineobjmllicaaGreatDoorListsOne
import Derived.Test.YtoineobjmllicaaGreatDoorReadsOne
/- A slice of segments that are to be laid by hand, as it came in. -/
namespace Go.Wal
open Go.RowKit Go.Dk
/-- A segment and its records' slice. -/
structure Sz where
  y : Sy
  v : Value
def Sz.cell (g : Sz) (c : Nat) : Value := match c with | 0 => .int .i64 g.y.head | 1 => g.v | 2 => .string ⟨g.y.rest.toArray⟩ | _ => .bool g.y.skip
end Go.Wal
namespace Go.Proofs.YtoineobjmllicaaGreatDoor
open Go Go.ChangeShapes Go.WideShapes Go.ChangeAt Go.RowKit Go.Wal Go.Dk Go.Wire
theorem cells53 : Tryz.prog.cellsOf 53 = 4 := by kernel_rfl
theorem cellsI : Tryz.prog.cellsOf 3 = 1 := by kernel_rfl
theorem cellsS : Tryz.prog.cellsOf 9 = 1 := by kernel_rfl
theorem cellsB : Tryz.prog.cellsOf 4 = 1 := by kernel_rfl
set_option maxRecDepth 100000 in
theorem segs_cells {H : Type} {enc : TypeId × Value → H} {W : World} {base n : Nat} {held : Bool} {x0 x1 x2 x3 : Value} {y : DataW H × List MemPlace}
    (hf : DataW.trod enc Tryz.prog W base (fun _ => true) held n 53 [x0, x1, x2, x3] = some y) : ∃ g : Sz, [x0, x1, x2, x3] = [g.cell 0, g.cell 1, g.cell 2, g.cell 3] ∧ Texts W g.v g.y.ls ∧ g.y.ls.length ≤ maxLen ∧ (∀ l ∈ g.y.ls, l.length ≤ maxLen) ∧ g.y.rest.length ≤ maxLen := by
  obtain ⟨d, p⟩ := y
  obtain ⟨xs, n, _, _, _, hlen, hel⟩ := DataW.trod_struct Tryz.underlying53 hf
  match xs, hlen with
  | [y0, y1, y2, y3], _ =>
    have h0 := hel 0 _ rfl
    have h1 := hel 1 _ rfl
    have h2 := hel 2 _ rfl
    have h3 := hel 3 _ rfl
    clear hel hf
    obtain ⟨a0, e0, _, w0⟩ := DataW.trod_int Tryz.underlying3 h0
    obtain ⟨v1, ls, e1, t1, s1, m1⟩ := lines_of h1
    obtain ⟨a2, e2, _, w2⟩ := DataW.trod_string Tryz.underlying9 h2
    obtain ⟨a3, e3, _⟩ := DataW.trod_bool Tryz.underlying4 h3
    rw [show Tryz.prog.cellsOf (Field.type _) = 1 from cellsI] at e0
    rw [show Tryz.prog.cellsOf (Field.type _) = 1 from cells30] at e1
    rw [show Tryz.prog.cellsOf (Field.type _) = 1 from cellsS] at e2
    rw [show Tryz.prog.cellsOf (Field.type _) = 1 from cellsB] at e3
    obtain rfl : x0 = .int .i64 a0 := (List.cons.inj e0).1
    obtain rfl : x1 = v1 := (List.cons.inj e1).1
    obtain rfl : x2 = .string a2 := (List.cons.inj e2).1
    obtain rfl : x3 = .bool a3 := (List.cons.inj e3).1
    exact ⟨⟨⟨a0, ls, a2.data.toList, a3⟩, x1⟩, rfl, t1, m1, s1, by rw [Array.length_toList]; exact w2⟩
set_option maxRecDepth 100000 in
theorem open_segs {H : Type} {enc : TypeId × Value → H} {W : World} {r : Reach} {b0 base : Nat} {held : Bool} {v : Value} {d : DataW H} {p : List MemPlace}
    (hv : Value.okWide Tryz.prog W r b0 51 v) (h : DataW.Trod enc Tryz.prog W base (fun _ => true) held 51 v d p) : ∃ L, SegsAt W v L ∧ (∀ y ∈ L, y.ls.length ≤ maxLen ∧ (∀ l ∈ y.ls, l.length ≤ maxLen) ∧ y.rest.length ≤ maxLen) ∧ L.length ≤ maxLen := by
  have inh : Inhabited Sz := ⟨⟨⟨0, [], [], false⟩, undef⟩⟩
  obtain ⟨n, gs, hS, hΦ, hn⟩ := open_rows (G := Sz) Sz.cell (fun g => Texts W g.v g.y.ls ∧ g.y.ls.length ≤ maxLen ∧ (∀ l ∈ g.y.ls, l.length ≤ maxLen) ∧ g.y.rest.length ≤ maxLen) Tryz.underlying51 (by decide : 0 < 4) cells53 (fun k cs y hl hf => by
    match cs, hl with
    | [x0, x1, x2, x3], _ =>
      obtain ⟨g, hg, hφ⟩ := segs_cells hf
      refine ⟨g, fun c hc => ?_, hφ⟩
      rw [hg]
      match c, hc with
      | 0, _ | 1, _ | 2, _ | 3, _ => rfl) hv h
  have hlen : ((List.range n).map fun j => (gs j).y).length = n := by simp
  refine ⟨(List.range n).map fun j => (gs j).y, ?_, fun ls hls => ?_, by rw [hlen]; exact hn⟩
  · rcases hS with ⟨⟨a, cap, rfl⟩, rfl⟩ | ⟨b, off, cap, rfl, _, hc, hcell⟩
    · exact ⟨a, cap, rfl, Nat.zero_le _, fun j ls hj => by simp at hj⟩
    · refine ⟨_, cap, by rw [hlen], by rw [hlen]; exact hc, fun j y hj => ?_⟩
      have hjn : j < n := by have := (List.getElem?_eq_some_iff.1 hj).1; rwa [hlen] at this
      rw [List.getElem?_map, List.getElem?_range hjn] at hj
      cases hj
      refine ⟨b, off, (gs j).v, rfl, ?_, ?_, ?_, ?_, (hΦ j hjn).1⟩
      · have := hcell j 0 hjn (by decide); simpa [Sz.cell, Nat.mul_comm] using this
      · have := hcell j 1 hjn (by decide); simpa [Sz.cell, Nat.mul_comm] using this
      · have := hcell j 2 hjn (by decide); simpa [Sz.cell, Nat.mul_comm] using this
      · have := hcell j 3 hjn (by decide); simpa [Sz.cell, Nat.mul_comm] using this
  · obtain ⟨j, hj, rfl⟩ := List.mem_map.1 hls
    exact (hΦ j (List.mem_range.1 hj)).2
end Go.Proofs.YtoineobjmllicaaGreatDoor
