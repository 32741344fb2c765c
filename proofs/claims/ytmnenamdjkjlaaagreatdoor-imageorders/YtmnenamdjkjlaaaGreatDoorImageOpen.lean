/- Files that came in are read. -/
import Derived.Test.YtmnenamdjkjlaaaGreatDoorRowOpens
import Derived.Test.YtmnenamdjkjlaaaGreatDoorRows
import Derived.Test.YtmnenamdjkjlaaaGreatDoorWirePure
namespace Go.Proofs.YtmnenamdjkjlaaaGreatDoor
open Go Go.ChangeShapes Go.WideShapes Go.ChangeAt Go.RowKit Go.Wire Go.Stamp Go.Opn
set_option maxRecDepth 100000 in
theorem FileW.cellsF : Tryz.prog.cellsOf 36 = 5 := by kernel_rfl
set_option maxRecDepth 100000 in
theorem FileW.cells22 : Tryz.prog.cellsOf 31 = 1 := by kernel_rfl
set_option maxRecDepth 100000 in
theorem FileW.cells3 : Tryz.prog.cellsOf 3 = 1 := by kernel_rfl
set_option maxRecDepth 100000 in
theorem FileW.cells4 : Tryz.prog.cellsOf 4 = 1 := by kernel_rfl
set_option maxRecDepth 100000 in
theorem FileW.cells9 : Tryz.prog.cellsOf 9 = 1 := by kernel_rfl
set_option maxRecDepth 100000 in
theorem open_file {H : Type} {enc : TypeId × Value → H} {W : World} {r : Reach} {b0 base : Nat} {held : Bool} {v : Value} {d : DataW H} {p : List MemPlace}
    (hv : Value.okWide Tryz.prog W r b0 36 v) (h : DataW.Trod enc Tryz.prog W base (fun _ => true) held 36 v d p) :
    ∃ (fp : ByteArray) (fd : Bool) (fi : Int) (fg : ByteArray) (fz : Int), v = .agg #[.string fp, .bool fd, .int .u64 fi, .string fg, .int .i64 fz] := by
  obtain ⟨cs, rfl, hsz⟩ := okWide_struct Tryz.underlying36 hv
  rw [FileW.cellsF] at hsz
  obtain ⟨l⟩ := cs
  match l, hsz with
  | [x0, x1, x2, x3, x4], _ =>
    obtain ⟨fuel, hf⟩ := h
    obtain ⟨xs, n, _, _, _, hlen, hel⟩ := DataW.trod_struct Tryz.underlying36 hf
    match xs, hlen with
    | [y0, y1, y2, y3, y4], _ =>
      have h0 := hel 0 _ rfl
      have h1 := hel 1 _ rfl
      have h2 := hel 2 _ rfl
      have h3 := hel 3 _ rfl
      have h4 := hel 4 _ rfl
      clear hel hf
      obtain ⟨a0, e0, _, w0⟩ := DataW.trod_string Tryz.underlying9 h0
      obtain ⟨a1, e1, _⟩ := DataW.trod_bool Tryz.underlying4 h1
      obtain ⟨a2, e2, _, w2⟩ := DataW.trod_int Tryz.underlying31 h2
      obtain ⟨a3, e3, _, w3⟩ := DataW.trod_string Tryz.underlying9 h3
      obtain ⟨a4, e4, _, w4⟩ := DataW.trod_int Tryz.underlying3 h4
      rw [show Tryz.prog.cellsOf (Field.type _) = 1 from FileW.cells9] at e0 e3
      rw [show Tryz.prog.cellsOf (Field.type _) = 1 from FileW.cells4] at e1
      rw [show Tryz.prog.cellsOf (Field.type _) = 1 from FileW.cells22] at e2
      rw [show Tryz.prog.cellsOf (Field.type _) = 1 from FileW.cells3] at e4
      obtain rfl : x0 = .string a0 := (List.cons.inj e0).1
      obtain rfl : x1 = .bool a1 := (List.cons.inj e1).1
      obtain rfl : x2 = .int .u64 a2 := (List.cons.inj e2).1
      obtain rfl : x3 = .string a3 := (List.cons.inj e3).1
      obtain rfl : x4 = .int .i64 a4 := (List.cons.inj e4).1
      exact ⟨a0, a1, a2, a3, a4, rfl⟩
end Go.Proofs.YtmnenamdjkjlaaaGreatDoor
