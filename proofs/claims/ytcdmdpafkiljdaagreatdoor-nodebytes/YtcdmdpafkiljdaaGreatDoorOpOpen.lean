/- Operations that came in are read. -/
import Derived.Test.YtcdmdpafkiljdaaGreatDoorWirePure
import Derived.Test.YtcdmdpafkiljdaaGreatDoorOpenRows
import Derived.Test.YtcdmdpafkiljdaaGreatDoorRows
namespace Go.Proofs.YtcdmdpafkiljdaaGreatDoor
open Go Go.ChangeShapes Go.WideShapes Go.ChangeAt Go.RowKit Go.Wire Go.Stamp Go.Opn
theorem OpenW.cells26 : Tryz.prog.cellsOf 27 = 9 := by kernel_rfl
theorem OpenW.cells24 : Tryz.prog.cellsOf 25 = 2 := by kernel_rfl
theorem OpenW.cells22 : Tryz.prog.cellsOf 23 = 1 := by kernel_rfl
theorem OpenW.cells3 : Tryz.prog.cellsOf 3 = 1 := by kernel_rfl
theorem OpenW.cells4 : Tryz.prog.cellsOf 4 = 1 := by kernel_rfl
theorem OpenW.cells9 : Tryz.prog.cellsOf 9 = 1 := by kernel_rfl
set_option maxRecDepth 100000 in
theorem open_op {H : Type} {enc : TypeId × Value → H} {W : World} {r : Reach} {b0 base : Nat} {held : Bool} {v : Value} {d : DataW H} {p : List MemPlace}
    (hv : Value.okWide Tryz.prog W r b0 27 v) (h : DataW.Trod enc Tryz.prog W base (fun _ => true) held 27 v d p) : ∃ o : Ob, v = o.v ∧ o.Fits := by
  obtain ⟨cs, rfl, hsz⟩ := okWide_struct Tryz.underlying27 hv
  rw [OpenW.cells26] at hsz
  obtain ⟨l⟩ := cs
  match l, hsz with
  | [x0, x1, x2, x3, x4, x5, x6, x7, x8], _ =>
    obtain ⟨fuel, hf⟩ := h
    obtain ⟨xs, n, _, _, _, hlen, hel⟩ := DataW.trod_struct Tryz.underlying27 hf
    match xs, hlen with
    | [y0, y1, y2, y3, y4, y5, y6, y7], _ =>
      have h0 := hel 0 _ rfl
      have h1 := hel 1 _ rfl
      have h2 := hel 2 _ rfl
      have h3 := hel 3 _ rfl
      have h4 := hel 4 _ rfl
      have h5 := hel 5 _ rfl
      have h6 := hel 6 _ rfl
      have h7 := hel 7 _ rfl
      clear hel hf
      obtain ⟨a0, e0, _, w0⟩ := DataW.trod_int Tryz.underlying3 h0
      rw [show Tryz.prog.cellsOf (Field.type _) = 2 from OpenW.cells24] at h1
      obtain ⟨z0, z1, m, _, _, g0, g1⟩ := trod_struct2 Tryz.underlying25 h1
      obtain ⟨a1, e1, _, w1⟩ := DataW.trod_int Tryz.underlying23 g0
      obtain ⟨a2, e2, _, w2⟩ := DataW.trod_int Tryz.underlying3 g1
      obtain ⟨a3, e3, _, w3⟩ := DataW.trod_int Tryz.underlying23 h2
      obtain ⟨a4, e4, _, w4⟩ := DataW.trod_int Tryz.underlying23 h3
      obtain ⟨a5, e5, _, w5⟩ := DataW.trod_string Tryz.underlying9 h4
      obtain ⟨a6, e6, _⟩ := DataW.trod_bool Tryz.underlying4 h5
      obtain ⟨a7, e7, _, w7⟩ := DataW.trod_string Tryz.underlying9 h6
      obtain ⟨a8, e8, _, w8⟩ := DataW.trod_int Tryz.underlying3 h7
      rw [show Tryz.prog.cellsOf (Field.type _) = 1 from OpenW.cells3] at e0 e2 e8
      rw [show Tryz.prog.cellsOf (Field.type _) = 1 from OpenW.cells22] at e1 e3 e4
      rw [show Tryz.prog.cellsOf (Field.type _) = 1 from OpenW.cells9] at e5 e7
      rw [show Tryz.prog.cellsOf (Field.type _) = 1 from OpenW.cells4] at e6
      obtain rfl : x0 = .int .i64 a0 := (List.cons.inj e0).1
      obtain rfl : x1 = .int .u64 a1 := (List.cons.inj e1).1
      obtain rfl : x2 = .int .i64 a2 := (List.cons.inj e2).1
      obtain rfl : x3 = .int .u64 a3 := (List.cons.inj e3).1
      obtain rfl : x4 = .int .u64 a4 := (List.cons.inj e4).1
      obtain rfl : x5 = .string a5 := (List.cons.inj e5).1
      obtain rfl : x6 = .bool a6 := (List.cons.inj e6).1
      obtain rfl : x7 = .string a7 := (List.cons.inj e7).1
      obtain rfl : x8 = .int .i64 a8 := (List.cons.inj e8).1
      have b1 := u64_of w1
      have b2 := int_of w2
      unfold maxLen at w5 w7
      exact ⟨⟨a0, ⟨a1, a2⟩, a3, a4, a5, a6, a7, a8⟩, rfl, ⟨int_of w0, ⟨b1.1, b1.2, b2.1, b2.2⟩, u64_of w3, u64_of w4, by omega, by omega, int_of w8⟩⟩
end Go.Proofs.YtcdmdpafkiljdaaGreatDoor
