/- What came in is read: something that is done. -/
import Derived.Test.YtnjkahoaogeecaaDkOne
import Derived.Test.YtnjkahoaogeecaaWireOpen
import Derived.Test.YtnjkahoaogeecaaRows
namespace Go.Dk
/-- Something that is done, as the laws have it. -/
structure Ac where
  kind : Int
  name : ByteArray
  dst : ByteArray
  s : ByteArray
  n : Int
  f : Fall
def Ac.cs (a : Ac) : Array Value := #[.int .i64 a.kind, .string a.name, .string a.dst, .string a.s, .int .i64 a.n, .int .i64 a.f.on, .int .i64 a.f.keep, .int .i64 a.f.torn]
def Ac.v (a : Ac) : Value := .agg a.cs
/-- What its numbers and texts may be by their types. -/
structure Ac.Fits (a : Ac) : Prop where
  kind : -9223372036854775808 ≤ a.kind ∧ a.kind ≤ 9223372036854775807
  name : a.name.size ≤ 9223372036854775807
  dst : a.dst.size ≤ 9223372036854775807
  s : a.s.size ≤ 9223372036854775807
  n : -9223372036854775808 ≤ a.n ∧ a.n ≤ 9223372036854775807
  on : -9223372036854775808 ≤ a.f.on ∧ a.f.on ≤ 9223372036854775807
  keep : -9223372036854775808 ≤ a.f.keep ∧ a.f.keep ≤ 9223372036854775807
  torn : -9223372036854775808 ≤ a.f.torn ∧ a.f.torn ≤ 9223372036854775807
end Go.Dk
namespace Go.Proofs.Ytnjkahoaogeecaa
open Go Go.ChangeShapes Go.WideShapes Go.ChangeAt Go.RowKit Go.Wire Go.Dk
theorem OpenW.cellsAct : Try.prog.cellsOf 36 = 8 := by kernel_rfl
theorem OpenW.cellsFall : Try.prog.cellsOf 34 = 3 := by kernel_rfl
theorem OpenW.cells3 : Try.prog.cellsOf 3 = 1 := by kernel_rfl
theorem OpenW.cells9 : Try.prog.cellsOf 9 = 1 := by kernel_rfl
set_option maxRecDepth 100000 in
theorem act_cells {H : Type} {enc : TypeId × Value → H} {W : World} {base n : Nat} {sp : Nat → Bool} {held : Bool} {x0 x1 x2 x3 x4 x5 x6 x7 : Value} {d : DataW H} {p : List MemPlace}
    (hf : DataW.trod enc Try.prog W base sp held n 36 [x0, x1, x2, x3, x4, x5, x6, x7] = some (d, p)) : ∃ o : Ac, [x0, x1, x2, x3, x4, x5, x6, x7] = o.cs.toList ∧ o.Fits := by
  obtain ⟨xs, n, _, _, _, hlen, hel⟩ := DataW.trod_struct Try.underlying36 hf
  match xs, hlen with
  | [y0, y1, y2, y3, y4, y5], _ =>
    have h0 := hel 0 _ rfl
    have h1 := hel 1 _ rfl
    have h2 := hel 2 _ rfl
    have h3 := hel 3 _ rfl
    have h4 := hel 4 _ rfl
    have h5 := hel 5 _ rfl
    clear hel hf
    obtain ⟨a0, e0, _, w0⟩ := DataW.trod_int Try.underlying3 h0
    obtain ⟨a1, e1, _, w1⟩ := DataW.trod_string Try.underlying9 h1
    obtain ⟨a2, e2, _, w2⟩ := DataW.trod_string Try.underlying9 h2
    obtain ⟨a3, e3, _, w3⟩ := DataW.trod_string Try.underlying9 h3
    obtain ⟨a4, e4, _, w4⟩ := DataW.trod_int Try.underlying3 h4
    rw [show Try.prog.cellsOf (Field.type _) = 3 from OpenW.cellsFall] at h5
    obtain ⟨zs, m, _, _, _, hlen2, hel2⟩ := DataW.trod_struct Try.underlying34 h5
    match zs, hlen2 with
    | [z0, z1, z2], _ =>
      have g0 := hel2 0 _ rfl
      have g1 := hel2 1 _ rfl
      have g2 := hel2 2 _ rfl
      clear hel2 h5
      obtain ⟨a5, e5, _, w5⟩ := DataW.trod_int Try.underlying3 g0
      obtain ⟨a6, e6, _, w6⟩ := DataW.trod_int Try.underlying3 g1
      obtain ⟨a7, e7, _, w7⟩ := DataW.trod_int Try.underlying3 g2
      rw [show Try.prog.cellsOf (Field.type _) = 1 from OpenW.cells3] at e0 e4 e5 e6 e7
      rw [show Try.prog.cellsOf (Field.type _) = 1 from OpenW.cells9] at e1 e2 e3
      obtain rfl : x0 = .int .i64 a0 := (List.cons.inj e0).1
      obtain rfl : x1 = .string a1 := (List.cons.inj e1).1
      obtain rfl : x2 = .string a2 := (List.cons.inj e2).1
      obtain rfl : x3 = .string a3 := (List.cons.inj e3).1
      obtain rfl : x4 = .int .i64 a4 := (List.cons.inj e4).1
      obtain rfl : x5 = .int .i64 a5 := (List.cons.inj e5).1
      obtain rfl : x6 = .int .i64 a6 := (List.cons.inj e6).1
      obtain rfl : x7 = .int .i64 a7 := (List.cons.inj e7).1
      unfold maxLen at w1 w2 w3
      exact ⟨⟨a0, a1, a2, a3, a4, ⟨a5, a6, a7⟩⟩, rfl, ⟨int_of w0, by omega, by omega, by omega, int_of w4, int_of w5, int_of w6, int_of w7⟩⟩
set_option maxRecDepth 100000 in
theorem open_act {H : Type} {enc : TypeId × Value → H} {W : World} {r : Reach} {b0 base : Nat} {held : Bool} {v : Value} {d : DataW H} {p : List MemPlace}
    (hv : Value.okWide Try.prog W r b0 36 v) (h : DataW.Trod enc Try.prog W base (fun _ => true) held 36 v d p) : ∃ o : Ac, v = o.v ∧ o.Fits := by
  obtain ⟨cs, rfl, hsz⟩ := okWide_struct Try.underlying36 hv
  rw [OpenW.cellsAct] at hsz
  obtain ⟨l⟩ := cs
  match l, hsz with
  | [x0, x1, x2, x3, x4, x5, x6, x7], _ =>
    obtain ⟨fuel, hf⟩ := h
    obtain ⟨o, ho, hF⟩ := act_cells hf
    refine ⟨o, ?_, hF⟩
    unfold Ac.v
    congr 1
    rw [ho]
end Go.Proofs.Ytnjkahoaogeecaa
