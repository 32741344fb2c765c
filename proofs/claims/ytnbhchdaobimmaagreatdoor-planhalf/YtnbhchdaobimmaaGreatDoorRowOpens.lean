/- Several texts in one: WireStructRows, OpenRows, MoveOpen. -/
import Derived.Test.YtnbhchdaobimmaaGreatDoorWireMid
import Derived.ProofKit
import Derived.OpenShut
import Derived.ShutString
import Derived.Deep.Slices
import Derived.Lib.SmallJoins
import Derived.Test.YtnbhchdaobimmaaGreatDoorEntryAll
import Derived.Test.YtnbhchdaobimmaaGreatDoorRowsAll
import Derived.Test.YtnbhchdaobimmaaGreatDoorRows
/- Slices of structs that are read: what they hold; of no program. -/
namespace Go.Wire
open Go.RowKit
/-- The slice value v holds n structs of m cells each, in a block that is there: cell c of struct j is f j c. -/
def SRow (w : World) (m : Nat) (v : Value) (n : Nat) (f : Nat → Nat → Value) : Prop :=
 ((∃ a cap, v = .slice a 0 cap) ∧ n = 0) ∨
 ∃ b off cap, v = .slice (some ⟨b, off, none⟩) n cap ∧ b < w.heap.size ∧ n ≤ cap ∧ ∀ j c, j < n → c < m → w.cell? ⟨b, off + j * m + c, none⟩ = some (f j c)
end Go.Wire
/- Slices of structs, and structs by value, that came in are read; of no program. -/
namespace Go.Wire
open Go Go.ChangeShapes Go.WideShapes Go.ChangeAt Go.RowKit
/-- A slice of elements of m cells each, read element by element by F. -/
theorem open_rows {H : Type} {enc : TypeId × Value → H} {P : Program} {W : World} {r : Reach} {b0 base m : Nat} {held : Bool} {t e : TypeId} {v : Value} {d : DataW H} {p : List MemPlace} {G : Type} [Inhabited G] (F : G → Nat → Value) (Φ : G → Prop)
  (ht : P.underlying t = some (.slice e)) (hm0 : 0 < m) (hc : P.cellsOf e = m)
  (read : ∀ (n : Nat) (cs : List Value) (y : DataW H × List MemPlace), cs.length = m → DataW.trod enc P W base (fun _ => true) held n e cs = some y → ∃ g : G, (∀ c, c < m → cs[c]? = some (F g c)) ∧ Φ g)
  (hv : Value.okWide P W r b0 t v) (h : DataW.Trod enc P W base (fun _ => true) held t v d p) :
  ∃ (n : Nat) (gs : Nat → G), SRow W m v n (fun j => F (gs j)) ∧ (∀ j, j < n → Φ (gs j)) ∧ n ≤ maxLen := by
 obtain ⟨a0, len, cap, rfl⟩ := okWide_slice ht hv
 obtain ⟨fuel, hf⟩ := h
 rcases Deep.open_slice ht hf with ⟨hcs, _⟩ | ⟨a, len', cap', mm, nn, D, Pl, hcs, _, hl, hm, hmm, _, hel⟩
 ·simp [Value.cells] at hcs
  obtain ⟨rfl, rfl, rfl⟩ := hcs
  exact ⟨0, fun _ => default, .inl ⟨⟨none, 0, rfl⟩, rfl⟩, fun j hj => by omega, by unfold maxLen; omega⟩
 ·simp [Value.cells] at hcs
  obtain ⟨rfl, rfl, rfl⟩ := hcs
  simp only [if_true] at hmm
  subst hmm
  have each : ∀ i, i < len → ∃ g : G, (∀ c, c < m → W.cell? (a.add (i * m + c)) = some (F g c)) ∧ Φ g := by
   intro i hi
   obtain ⟨cs', h1, h2⟩ := hel i (by omega)
   rw [hc] at h1
   obtain ⟨_, hlen, hcell⟩ := World.cells?_some h1
   obtain ⟨g, hg, hφ⟩ := read nn cs' _ hlen h2
   refine ⟨g, fun c hcm => ?_, hφ⟩
   have hcc := hcell c hcm
   rw [Deep.add_add] at hcc
   rw [hcc]
   exact hg c hcm
  obtain ⟨gs, hgs⟩ := Deep.choose_lt each
  refine ⟨len, gs, ?_, fun j hj => (hgs j hj).2, by unfold maxLen at *; omega⟩
  by_cases h0 : len = 0
  ·subst h0; exact .inl ⟨⟨_, _, rfl⟩, rfl⟩
  ·obtain ⟨b, off, spot⟩ := a
   have hc0 := (hgs 0 (by omega)).1 0 hm0
   have hspot : spot = none := by simpa [Addr.add] using World.cell?_spot hc0
   subst hspot
   have hbl := block_lt_of_cell hc0
   rw [add_plain] at hbl
   refine .inr ⟨b, off, _, rfl, hbl, hl, fun j c hj hcm => ?_⟩
   have := (hgs j hj).1 c hcm
   rw [add_plain] at this
   rw [← this]
   congr 2
   omega
theorem int_of {n : Int} (h : (Lit.int .i64 n).wf = true) : -9223372036854775808 ≤ n ∧ n ≤ 9223372036854775807 := by
 simpa [Lit.wf, IntKind.min, IntKind.max, IntKind.signed, IntKind.bits] using h
theorem u64_of {n : Int} (h : (Lit.int .u64 n).wf = true) : 0 ≤ n ∧ n ≤ 18446744073709551615 := by
 simpa [Lit.wf, IntKind.min, IntKind.max, IntKind.signed, IntKind.bits] using h
end Go.Wire
/- Operations of the law's that came in are read. -/
namespace Go.Mov
open Go.RowKit Go.Wire Go.Rws
def Le.cell (e : Le) (c : Nat) : Value := (e.cs[c]?).getD (.bool false)
def Le.Fits (e : Le) : Prop := e.op.Fits
theorem rowsAt_of {w : World} {v : Value} {n : Nat} {gs : Nat → Le} (h : SRow w 10 v n (fun j => (gs j).cell)) : RowsAt Le.cs 10 w v ((List.range n).map gs) := by
 have hl : ((List.range n).map gs).length = n := by simp
 rcases h with ⟨⟨a, c, h1⟩, h2⟩ | ⟨b, off, cap, h1, h2, h3, h4⟩
 ·subst h2
  exact .inl ⟨⟨a, c, h1⟩, rfl⟩
 ·refine .inr ⟨b, off, cap, by rw [hl]; exact h1, h2, by rw [hl]; exact h3, fun i x hi j u hu => ?_⟩
  have hin : i < n := by have := (List.getElem?_eq_some_iff.1 hi).1; simpa using this
  rw [List.getElem?_map, List.getElem?_range hin] at hi
  obtain rfl : gs i = x := Option.some.inj hi
  have hj : j < 10 := (List.getElem?_eq_some_iff.1 hu).1
  have := h4 i j hin hj
  rw [this]
  show some ((gs i).cs[j]?.getD _) = some u
  rw [hu]
  rfl
end Go.Mov
namespace Go.Proofs.YtnbhchdaobimmaaGreatDoor
open Go Go.ChangeShapes Go.WideShapes Go.ChangeAt Go.RowKit Go.Wire Go.Stamp Go.Opn Go.Mov Go.Rws
set_option maxRecDepth 100000 in
theorem LeW.cellsLe : Tryz.prog.cellsOf 63 = 10 := by kernel_rfl
set_option maxRecDepth 100000 in
theorem LeW.cells26 : Tryz.prog.cellsOf 61 = 9 := by kernel_rfl
set_option maxRecDepth 100000 in
theorem LeW.cells24 : Tryz.prog.cellsOf 59 = 2 := by kernel_rfl
set_option maxRecDepth 100000 in
theorem LeW.cells22 : Tryz.prog.cellsOf 49 = 1 := by kernel_rfl
set_option maxRecDepth 100000 in
theorem LeW.cells3 : Tryz.prog.cellsOf 3 = 1 := by kernel_rfl
set_option maxRecDepth 100000 in
theorem LeW.cells4 : Tryz.prog.cellsOf 4 = 1 := by kernel_rfl
set_option maxRecDepth 100000 in
theorem LeW.cells9 : Tryz.prog.cellsOf 9 = 1 := by kernel_rfl
set_option maxRecDepth 100000 in
theorem LeW.cells5 : Tryz.prog.cellsOf 5 = 1 := by kernel_rfl
set_option maxRecDepth 100000 in
theorem op_cells {H : Type} {enc : TypeId × Value → H} {W : World} {base n : Nat} {sp : Nat → Bool} {held : Bool} {x0 x1 x2 x3 x4 x5 x6 x7 x8 : Value} {y : DataW H × List MemPlace}
  (hf : DataW.trod enc Tryz.prog W base sp held n 61 [x0, x1, x2, x3, x4, x5, x6, x7, x8] = some y) : ∃ o : Ob, (x0 = .int .i64 o.kind ∧ x1 = .int .u64 o.tm.c ∧ x2 = .int .i64 o.tm.k ∧ x3 = .int .u64 o.thing ∧ x4 = .int .u64 o.par ∧ x5 = .string o.name ∧ x6 = .bool o.dir ∧ x7 = .string o.dg ∧ x8 = .int .i64 o.size) ∧ o.Fits := by
 obtain ⟨xs, n, _, _, _, hlen, hel⟩ := DataW.trod_struct Tryz.underlying61 hf
 match xs, hlen with
 | [y0, y1, y2, y3, y4, y5, y6, y7], _ =>
  have h0 := hel 0 _ rfl
  have h1 := hel 1 _ rfl
  have h2 := hel 2 _ rfl
  have h3 := hel 3 _ rfl
  have h4 := hel 4 _ rfl
  have h5 := hel 5 _ rfl
  have h6 := hel 6 _ rfl
  have h7 := hel 7 _ rfl
  clear hel hf
  obtain ⟨a0, e0, _, w0⟩ := DataW.trod_int Tryz.underlying3 h0
  rw [show Tryz.prog.cellsOf (Field.type _) = 2 from LeW.cells24] at h1
  obtain ⟨z0, z1, m, _, _, g0, g1⟩ := trod_struct2 Tryz.underlying59 h1
  obtain ⟨a1, e1, _, w1⟩ := DataW.trod_int Tryz.underlying49 g0
  obtain ⟨a2, e2, _, w2⟩ := DataW.trod_int Tryz.underlying3 g1
  obtain ⟨a3, e3, _, w3⟩ := DataW.trod_int Tryz.underlying49 h2
  obtain ⟨a4, e4, _, w4⟩ := DataW.trod_int Tryz.underlying49 h3
  obtain ⟨a5, e5, _, w5⟩ := DataW.trod_string Tryz.underlying9 h4
  obtain ⟨a6, e6, _⟩ := DataW.trod_bool Tryz.underlying4 h5
  obtain ⟨a7, e7, _, w7⟩ := DataW.trod_string Tryz.underlying9 h6
  obtain ⟨a8, e8, _, w8⟩ := DataW.trod_int Tryz.underlying3 h7
  rw [show Tryz.prog.cellsOf (Field.type _) = 1 from LeW.cells3] at e0 e2 e8
  rw [show Tryz.prog.cellsOf (Field.type _) = 1 from LeW.cells22] at e1 e3 e4
  rw [show Tryz.prog.cellsOf (Field.type _) = 1 from LeW.cells9] at e5 e7
  rw [show Tryz.prog.cellsOf (Field.type _) = 1 from LeW.cells4] at e6
  have b1 := u64_of w1
  have b2 := int_of w2
  unfold maxLen at w5 w7
  exact ⟨⟨a0, ⟨a1, a2⟩, a3, a4, a5, a6, a7, a8⟩, ⟨(List.cons.inj e0).1, (List.cons.inj e1).1, (List.cons.inj e2).1, (List.cons.inj e3).1, (List.cons.inj e4).1, (List.cons.inj e5).1, (List.cons.inj e6).1, (List.cons.inj e7).1, (List.cons.inj e8).1⟩, ⟨int_of w0, ⟨b1.1, b1.2, b2.1, b2.2⟩, u64_of w3, u64_of w4, by omega, by omega, int_of w8⟩⟩
set_option maxRecDepth 100000 in
theorem u8_of {n : Int} (h : (Lit.int .u8 n).wf = true) : 0 ≤ n ∧ n ≤ 255 := by
 simpa [Lit.wf, IntKind.min, IntKind.max, IntKind.signed, IntKind.bits] using h
set_option maxRecDepth 100000 in
theorem le_cells {H : Type} {enc : TypeId × Value → H} {W : World} {base n : Nat} {sp : Nat → Bool} {held : Bool} {x0 x1 x2 x3 x4 x5 x6 x7 x8 x9 : Value} {y : DataW H × List MemPlace}
  (hf : DataW.trod enc Tryz.prog W base sp held n 63 [x0, x1, x2, x3, x4, x5, x6, x7, x8, x9] = some y) : ∃ e : Le, [x0, x1, x2, x3, x4, x5, x6, x7, x8, x9] = e.cs ∧ e.Fits := by
 obtain ⟨xs, n, _, _, _, hlen, hel⟩ := DataW.trod_struct Tryz.underlying63 hf
 match xs, hlen with
 | [y0, y1], _ =>
  have h0 := hel 0 _ rfl
  have h1 := hel 1 _ rfl
  clear hel hf
  rw [show Tryz.prog.cellsOf (Field.type _) = 9 from LeW.cells26] at h0
  obtain ⟨o, ⟨rfl, rfl, rfl, rfl, rfl, rfl, rfl, rfl, rfl⟩, ho⟩ := op_cells h0
  obtain ⟨a9, e9, _, w9⟩ := DataW.trod_int u5 h1
  rw [show Tryz.prog.cellsOf (Field.type _) = 1 from LeW.cells5] at e9
  obtain rfl : x9 = .int .u8 a9 := (List.cons.inj e9).1
  have b9 := u8_of w9
  refine ⟨⟨o, UInt8.ofNat a9.toNat⟩, ?_, ho⟩
  have e : ((UInt8.ofNat a9.toNat).toNat : Int) = a9 := by rw [UInt8.toNat_ofNat']; omega
  unfold Le.cs
  dsimp only
  rw [e]
set_option maxRecDepth 100000 in
theorem open_les {H : Type} {enc : TypeId × Value → H} {W : World} {r : Reach} {b0 base : Nat} {held : Bool} {v : Value} {d : DataW H} {p : List MemPlace}
  (hv : Value.okWide Tryz.prog W r b0 22 v) (h : DataW.Trod enc Tryz.prog W base (fun _ => true) held 22 v d p) :
  ∃ es : List Le, RowsAt Le.cs 10 W v es ∧ (∀ e ∈ es, e.Fits) ∧ es.length ≤ maxLen := by
 have : Inhabited Le := ⟨⟨⟨0, ⟨0, 0⟩, 0, 0, ⟨#[]⟩, false, ⟨#[]⟩, 0⟩, 0⟩⟩
 obtain ⟨n, gs, h1, h2, h3⟩ := open_rows Le.cell Le.Fits Tryz.underlying22 (by decide) LeW.cellsLe (fun n cs y hl h2 => by
  match cs, hl with
  | [x0, x1, x2, x3, x4, x5, x6, x7, x8, x9], _ =>
   obtain ⟨e, he, hfi⟩ := le_cells h2
   refine ⟨e, fun c hc => ?_, hfi⟩
   rw [he]
   unfold Le.cell
   have : c < e.cs.length := hc
   rw [List.getElem?_eq_getElem this]
   rfl) hv h
 refine ⟨(List.range n).map gs, rowsAt_of h1, fun e he => ?_, by simpa using h3⟩
 obtain ⟨j, hj, rfl⟩ := List.mem_map.1 he
 exact h2 j (List.mem_range.1 hj)
end Go.Proofs.YtnbhchdaobimmaaGreatDoor
