/- A fall that is handed in: three numbers. -/
import Derived.Test.YtnjkahoaogeecaaDiskOpen
namespace Go.Proofs.Ytnjkahoaogeecaa
open Go Go.ChangeShapes Go.WideShapes Go.ChangeAt Go.RowKit Go.Wire Go.Dk
set_option maxRecDepth 100000 in
theorem open_fall {H : Type} {enc : TypeId × Value → H} {W : World} {r : Reach} {b0 base : Nat} {held : Bool} {v : Value} {d : DataW H} {p : List MemPlace}
    (hv : Value.okWide Try.prog W r b0 34 v) (h : DataW.Trod enc Try.prog W base (fun _ => true) held 34 v d p) : ∃ o : Fall, v = .agg #[.int .i64 o.on, .int .i64 o.keep, .int .i64 o.torn] := by
  obtain ⟨cs, rfl, hsz⟩ := okWide_struct Try.underlying34 hv
  rw [OpenW.cellsFall] at hsz
  obtain ⟨l⟩ := cs
  match l, hsz with
  | [x0, x1, x2], _ =>
    obtain ⟨fuel, hf⟩ := h
    obtain ⟨zs, m, _, _, _, hlen2, hel2⟩ := DataW.trod_struct Try.underlying34 hf
    match zs, hlen2 with
    | [z0, z1, z2], _ =>
      have g0 := hel2 0 _ rfl
      have g1 := hel2 1 _ rfl
      have g2 := hel2 2 _ rfl
      clear hel2 hf
      obtain ⟨a5, e5, _, _⟩ := DataW.trod_int Try.underlying3 g0
      obtain ⟨a6, e6, _, _⟩ := DataW.trod_int Try.underlying3 g1
      obtain ⟨a7, e7, _, _⟩ := DataW.trod_int Try.underlying3 g2
      rw [show Try.prog.cellsOf (Field.type _) = 1 from OpenW.cells3] at e5 e6 e7
      obtain rfl : x0 = .int .i64 a5 := (List.cons.inj e5).1
      obtain rfl : x1 = .int .i64 a6 := (List.cons.inj e6).1
      obtain rfl : x2 = .int .i64 a7 := (List.cons.inj e7).1
      exact ⟨⟨a5, a6, a7⟩, rfl⟩
end Go.Proofs.Ytnjkahoaogeecaa
