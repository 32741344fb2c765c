/- Operations of the law's that came in are read. -/
import Derived.Test.YtknnamanbeckeaaMoveEntry
import Derived.Test.YtknnamanbeckeaaRowsAll
import Derived.Test.YtknnamanbeckeaaOpenRows
import Derived.Test.YtknnamanbeckeaaRows
namespace Go.Mov
open Go.RowKit Go.Wire Go.Rws
def Le.cell (e : Le) (c : Nat) : Value := (e.cs[c]?).getD (.bool false)
def Le.Fits (e : Le) : Prop := e.op.Fits
theorem rowsAt_of {w : World} {v : Value} {n : Nat} {gs : Nat → Le} (h : SRow w 10 v n (fun j => (gs j).cell)) : RowsAt Le.cs 10 w v ((List.range n).map gs) := by
  have hl : ((List.range n).map gs).length = n := by simp
  rcases h with ⟨⟨a, c, h1⟩, h2⟩ | ⟨b, off, cap, h1, h2, h3, h4⟩
  · subst h2
    exact .inl ⟨⟨a, c, h1⟩, rfl⟩
  · refine .inr ⟨b, off, cap, by rw [hl]; exact h1, h2, by rw [hl]; exact h3, fun i x hi j u hu => ?_⟩
    have hin : i < n := by have := (List.getElem?_eq_some_iff.1 hi).1; simpa using this
    rw [List.getElem?_map, List.getElem?_range hin] at hi
    obtain rfl : gs i = x := Option.some.inj hi
    have hj : j < 10 := (List.getElem?_eq_some_iff.1 hu).1
    have := h4 i j hin hj
    rw [this]
    show some ((gs i).cs[j]?.getD _) = some u
    rw [hu]
    rfl
end Go.Mov
namespace Go.Proofs.Ytknnamanbeckeaa
open Go Go.ChangeShapes Go.WideShapes Go.ChangeAt Go.RowKit Go.Wire Go.Stamp Go.Opn Go.Mov Go.Rws
theorem LeW.cellsLe : Try.prog.cellsOf 42 = 10 := by kernel_rfl
theorem LeW.cells26 : Try.prog.cellsOf 40 = 9 := by kernel_rfl
theorem LeW.cells24 : Try.prog.cellsOf 38 = 2 := by kernel_rfl
theorem LeW.cells22 : Try.prog.cellsOf 30 = 1 := by kernel_rfl
theorem LeW.cells3 : Try.prog.cellsOf 3 = 1 := by kernel_rfl
theorem LeW.cells4 : Try.prog.cellsOf 4 = 1 := by kernel_rfl
theorem LeW.cells9 : Try.prog.cellsOf 9 = 1 := by kernel_rfl
theorem LeW.cells5 : Try.prog.cellsOf 5 = 1 := by kernel_rfl
set_option maxRecDepth 100000 in
theorem op_cells {H : Type} {enc : TypeId × Value → H} {W : World} {base n : Nat} {sp : Nat → Bool} {held : Bool} {x0 x1 x2 x3 x4 x5 x6 x7 x8 : Value} {y : DataW H × List MemPlace}
    (hf : DataW.trod enc Try.prog W base sp held n 40 [x0, x1, x2, x3, x4, x5, x6, x7, x8] = some y) : ∃ o : Ob, (x0 = .int .i64 o.kind ∧ x1 = .int .u64 o.tm.c ∧ x2 = .int .i64 o.tm.k ∧ x3 = .int .u64 o.thing ∧ x4 = .int .u64 o.par ∧ x5 = .string o.name ∧ x6 = .bool o.dir ∧ x7 = .string o.dg ∧ x8 = .int .i64 o.size) ∧ o.Fits := by
  obtain ⟨xs, n, _, _, _, hlen, hel⟩ := DataW.trod_struct Try.underlying40 hf
  match xs, hlen with
  | [y0, y1, y2, y3, y4, y5, y6, y7], _ =>
    have h0 := hel 0 _ rfl
    have h1 := hel 1 _ rfl
    have h2 := hel 2 _ rfl
    have h3 := hel 3 _ rfl
    have h4 := hel 4 _ rfl
    have h5 := hel 5 _ rfl
    have h6 := hel 6 _ rfl
    have h7 := hel 7 _ rfl
    clear hel hf
    obtain ⟨a0, e0, _, w0⟩ := DataW.trod_int Try.underlying3 h0
    rw [show Try.prog.cellsOf (Field.type _) = 2 from LeW.cells24] at h1
    obtain ⟨z0, z1, m, _, _, g0, g1⟩ := trod_struct2 Try.underlying38 h1
    obtain ⟨a1, e1, _, w1⟩ := DataW.trod_int Try.underlying30 g0
    obtain ⟨a2, e2, _, w2⟩ := DataW.trod_int Try.underlying3 g1
    obtain ⟨a3, e3, _, w3⟩ := DataW.trod_int Try.underlying30 h2
    obtain ⟨a4, e4, _, w4⟩ := DataW.trod_int Try.underlying30 h3
    obtain ⟨a5, e5, _, w5⟩ := DataW.trod_string Try.underlying9 h4
    obtain ⟨a6, e6, _⟩ := DataW.trod_bool Try.underlying4 h5
    obtain ⟨a7, e7, _, w7⟩ := DataW.trod_string Try.underlying9 h6
    obtain ⟨a8, e8, _, w8⟩ := DataW.trod_int Try.underlying3 h7
    rw [show Try.prog.cellsOf (Field.type _) = 1 from LeW.cells3] at e0 e2 e8
    rw [show Try.prog.cellsOf (Field.type _) = 1 from LeW.cells22] at e1 e3 e4
    rw [show Try.prog.cellsOf (Field.type _) = 1 from LeW.cells9] at e5 e7
    rw [show Try.prog.cellsOf (Field.type _) = 1 from LeW.cells4] at e6
    have b1 := u64_of w1
    have b2 := int_of w2
    unfold maxLen at w5 w7
    exact ⟨⟨a0, ⟨a1, a2⟩, a3, a4, a5, a6, a7, a8⟩, ⟨(List.cons.inj e0).1, (List.cons.inj e1).1, (List.cons.inj e2).1, (List.cons.inj e3).1, (List.cons.inj e4).1, (List.cons.inj e5).1, (List.cons.inj e6).1, (List.cons.inj e7).1, (List.cons.inj e8).1⟩, ⟨int_of w0, ⟨b1.1, b1.2, b2.1, b2.2⟩, u64_of w3, u64_of w4, by omega, by omega, int_of w8⟩⟩
theorem u8_of {n : Int} (h : (Lit.int .u8 n).wf = true) : 0 ≤ n ∧ n ≤ 255 := by
  simpa [Lit.wf, IntKind.min, IntKind.max, IntKind.signed, IntKind.bits] using h
set_option maxRecDepth 100000 in
theorem le_cells {H : Type} {enc : TypeId × Value → H} {W : World} {base n : Nat} {sp : Nat → Bool} {held : Bool} {x0 x1 x2 x3 x4 x5 x6 x7 x8 x9 : Value} {y : DataW H × List MemPlace}
    (hf : DataW.trod enc Try.prog W base sp held n 42 [x0, x1, x2, x3, x4, x5, x6, x7, x8, x9] = some y) : ∃ e : Le, [x0, x1, x2, x3, x4, x5, x6, x7, x8, x9] = e.cs ∧ e.Fits := by
  obtain ⟨xs, n, _, _, _, hlen, hel⟩ := DataW.trod_struct Try.underlying42 hf
  match xs, hlen with
  | [y0, y1], _ =>
    have h0 := hel 0 _ rfl
    have h1 := hel 1 _ rfl
    clear hel hf
    rw [show Try.prog.cellsOf (Field.type _) = 9 from LeW.cells26] at h0
    obtain ⟨o, ⟨rfl, rfl, rfl, rfl, rfl, rfl, rfl, rfl, rfl⟩, ho⟩ := op_cells h0
    obtain ⟨a9, e9, _, w9⟩ := DataW.trod_int u5 h1
    rw [show Try.prog.cellsOf (Field.type _) = 1 from LeW.cells5] at e9
    obtain rfl : x9 = .int .u8 a9 := (List.cons.inj e9).1
    have b9 := u8_of w9
    refine ⟨⟨o, UInt8.ofNat a9.toNat⟩, ?_, ho⟩
    have e : ((UInt8.ofNat a9.toNat).toNat : Int) = a9 := by rw [UInt8.toNat_ofNat']; omega
    unfold Le.cs
    dsimp only
    rw [e]
set_option maxRecDepth 100000 in
theorem open_le {H : Type} {enc : TypeId × Value → H} {W : World} {r : Reach} {b0 base : Nat} {held : Bool} {v : Value} {d : DataW H} {p : List MemPlace}
    (hv : Value.okWide Try.prog W r b0 42 v) (h : DataW.Trod enc Try.prog W base (fun _ => true) held 42 v d p) : ∃ e : Le, v = e.v ∧ e.Fits := by
  obtain ⟨cs, rfl, hsz⟩ := okWide_struct Try.underlying42 hv
  rw [LeW.cellsLe] at hsz
  obtain ⟨l⟩ := cs
  match l, hsz with
  | [x0, x1, x2, x3, x4, x5, x6, x7, x8, x9], _ =>
    obtain ⟨fuel, hf⟩ := h
    obtain ⟨e, he, hfi⟩ := le_cells hf
    exact ⟨e, by rw [he]; rfl, hfi⟩
set_option maxRecDepth 100000 in
theorem open_les {H : Type} {enc : TypeId × Value → H} {W : World} {r : Reach} {b0 base : Nat} {held : Bool} {v : Value} {d : DataW H} {p : List MemPlace}
    (hv : Value.okWide Try.prog W r b0 22 v) (h : DataW.Trod enc Try.prog W base (fun _ => true) held 22 v d p) :
    ∃ es : List Le, RowsAt Le.cs 10 W v es ∧ (∀ e ∈ es, e.Fits) ∧ es.length ≤ maxLen := by
  have : Inhabited Le := ⟨⟨⟨0, ⟨0, 0⟩, 0, 0, ⟨#[]⟩, false, ⟨#[]⟩, 0⟩, 0⟩⟩
  obtain ⟨n, gs, h1, h2, h3⟩ := open_rows Le.cell Le.Fits Try.underlying22 (by decide) LeW.cellsLe (fun n cs y hl h2 => by
    match cs, hl with
    | [x0, x1, x2, x3, x4, x5, x6, x7, x8, x9], _ =>
      obtain ⟨e, he, hfi⟩ := le_cells h2
      refine ⟨e, fun c hc => ?_, hfi⟩
      rw [he]
      unfold Le.cell
      have : c < e.cs.length := hc
      rw [List.getElem?_eq_getElem this]
      rfl) hv h
  refine ⟨(List.range n).map gs, rowsAt_of h1, fun e he => ?_, by simpa using h3⟩
  obtain ⟨j, hj, rfl⟩ := List.mem_map.1 he
  exact h2 j (List.mem_range.1 hj)
end Go.Proofs.Ytknnamanbeckeaa
