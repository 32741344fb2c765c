/- Several texts in one: WireStructRows, OpenRows, Frame, OpOpen, StrsOpen, NodeOpen. -/
import Derived.Test.YtcdmdpafkiljdaaDoorWireMid
import Derived.ProofKit
import Derived.OpenShut
import Derived.ShutString
import Derived.Deep.Slices
import Derived.Lib.SmallJoins
import Derived.Test.YtcdmdpafkiljdaaDoorShaTwo
import Derived.LaidMore
import Derived.Stop.Joined
import Derived.Lib.LaidTab
import Derived.Test.YtcdmdpafkiljdaaDoorWirePure
import Derived.Test.YtcdmdpafkiljdaaDoorRows
import Derived.Test.YtcdmdpafkiljdaaDoorPureSha
import Derived.Test.YtcdmdpafkiljdaaDoorNodeOne
/- Slices of structs that are read: what they hold; of no program. -/
namespace Go.Wire
open Go.RowKit
/-- The slice value v holds n structs of m cells each, in a block that is there: cell c of struct j is f j c. -/
def SRow (w : World) (m : Nat) (v : Value) (n : Nat) (f : Nat → Nat → Value) : Prop :=
  ((∃ a cap, v = .slice a 0 cap) ∧ n = 0) ∨
  ∃ b off cap, v = .slice (some ⟨b, off, none⟩) n cap ∧ b < w.heap.size ∧ n ≤ cap ∧ ∀ j c, j < n → c < m → w.cell? ⟨b, off + j * m + c, none⟩ = some (f j c)
theorem SRow.form {w : World} {m n : Nat} {v : Value} {f : Nat → Nat → Value} (h : SRow w m v n f) : ∃ a c, v = .slice a n c := by
  rcases h with ⟨⟨a, cap, h⟩, rfl⟩ | ⟨b, off, cap, h1, _⟩
  · exact ⟨a, cap, h⟩
  · exact ⟨_, cap, h1⟩
theorem SRow.at {w : World} {m n : Nat} {a : Option Addr} {c : Nat} {f : Nat → Nat → Value} (h : SRow w m (.slice a n c) n f) (hn : 0 < n) : ∃ b off, a = some ⟨b, off, none⟩ ∧ b < w.heap.size ∧ n ≤ c ∧ ∀ j k, j < n → k < m → w.cell? ⟨b, off + j * m + k, none⟩ = some (f j k) := by
  rcases h with ⟨_, rfl⟩ | ⟨b, off, cap, h1, h2, h3, h4⟩
  · omega
  · simp only [Value.slice.injEq, true_and] at h1
    obtain ⟨rfl, rfl⟩ := h1
    exact ⟨b, off, rfl, h2, h3, h4⟩
end Go.Wire
/- Slices of structs, and structs by value, that came in are read; of no program. -/
namespace Go.Wire
open Go Go.ChangeShapes Go.WideShapes Go.ChangeAt Go.RowKit
/-- A slice of elements of m cells each, read element by element by F. -/
theorem open_rows {H : Type} {enc : TypeId × Value → H} {P : Program} {W : World} {r : Reach} {b0 base m : Nat} {held : Bool} {t e : TypeId} {v : Value} {d : DataW H} {p : List MemPlace} {G : Type} [Inhabited G] (F : G → Nat → Value) (Φ : G → Prop)
    (ht : P.underlying t = some (.slice e)) (hm0 : 0 < m) (hc : P.cellsOf e = m)
    (read : ∀ (n : Nat) (cs : List Value) (y : DataW H × List MemPlace), cs.length = m → DataW.trod enc P W base (fun _ => true) held n e cs = some y → ∃ g : G, (∀ c, c < m → cs[c]? = some (F g c)) ∧ Φ g)
    (hv : Value.okWide P W r b0 t v) (h : DataW.Trod enc P W base (fun _ => true) held t v d p) :
    ∃ (n : Nat) (gs : Nat → G), SRow W m v n (fun j => F (gs j)) ∧ (∀ j, j < n → Φ (gs j)) ∧ n ≤ maxLen := by
  obtain ⟨a0, len, cap, rfl⟩ := okWide_slice ht hv
  obtain ⟨fuel, hf⟩ := h
  rcases Deep.open_slice ht hf with ⟨hcs, _⟩ | ⟨a, len', cap', mm, nn, D, Pl, hcs, _, hl, hm, hmm, _, hel⟩
  · simp [Value.cells] at hcs
    obtain ⟨rfl, rfl, rfl⟩ := hcs
    exact ⟨0, fun _ => default, .inl ⟨⟨none, 0, rfl⟩, rfl⟩, fun j hj => by omega, by unfold maxLen; omega⟩
  · simp [Value.cells] at hcs
    obtain ⟨rfl, rfl, rfl⟩ := hcs
    simp only [if_true] at hmm
    subst hmm
    have each : ∀ i, i < len → ∃ g : G, (∀ c, c < m → W.cell? (a.add (i * m + c)) = some (F g c)) ∧ Φ g := by
      intro i hi
      obtain ⟨cs', h1, h2⟩ := hel i (by omega)
      rw [hc] at h1
      obtain ⟨_, hlen, hcell⟩ := World.cells?_some h1
      obtain ⟨g, hg, hφ⟩ := read nn cs' _ hlen h2
      refine ⟨g, fun c hcm => ?_, hφ⟩
      have hcc := hcell c hcm
      rw [Deep.add_add] at hcc
      rw [hcc]
      exact hg c hcm
    obtain ⟨gs, hgs⟩ := Deep.choose_lt each
    refine ⟨len, gs, ?_, fun j hj => (hgs j hj).2, by unfold maxLen at *; omega⟩
    by_cases h0 : len = 0
    · subst h0; exact .inl ⟨⟨_, _, rfl⟩, rfl⟩
    · obtain ⟨b, off, spot⟩ := a
      have hc0 := (hgs 0 (by omega)).1 0 hm0
      have hspot : spot = none := by simpa [Addr.add] using World.cell?_spot hc0
      subst hspot
      have hbl := block_lt_of_cell hc0
      rw [add_plain] at hbl
      refine .inr ⟨b, off, _, rfl, hbl, hl, fun j c hj hcm => ?_⟩
      have := (hgs j hj).1 c hcm
      rw [add_plain] at this
      rw [← this]
      congr 2
      omega
theorem int_of {n : Int} (h : (Lit.int .i64 n).wf = true) : -9223372036854775808 ≤ n ∧ n ≤ 9223372036854775807 := by
  simpa [Lit.wf, IntKind.min, IntKind.max, IntKind.signed, IntKind.bits] using h
theorem u64_of {n : Int} (h : (Lit.int .u64 n).wf = true) : 0 ≤ n ∧ n ≤ 18446744073709551615 := by
  simpa [Lit.wf, IntKind.min, IntKind.max, IntKind.signed, IntKind.bits] using h
/-- A slice of integers. -/
theorem open_introw {H : Type} {enc : TypeId × Value → H} {P : Program} {W : World} {r : Reach} {b0 base : Nat} {held : Bool} {t e : TypeId} {v : Value} {d : DataW H} {p : List MemPlace}
    (ht : P.underlying t = some (.slice e)) (he : P.underlying e = some (.int .i64)) (hc : P.cellsOf e = 1)
    (hv : Value.okWide P W r b0 t v) (h : DataW.Trod enc P W base (fun _ => true) held t v d p) :
    ∃ (n : Nat) (xs : Nat → Int), SRow W 1 v n (fun j _ => .int .i64 (xs j)) ∧ (∀ j, j < n → -9223372036854775808 ≤ xs j ∧ xs j ≤ 9223372036854775807) ∧ n ≤ maxLen :=
  open_rows (G := Int) (fun g _ => .int .i64 g) (fun g => -9223372036854775808 ≤ g ∧ g ≤ 9223372036854775807) ht (by decide) hc (fun n cs y hl h2 => by
    match cs, hl with
    | [x], _ =>
      obtain ⟨k, e0, _, hw⟩ := DataW.trod_int he h2
      obtain rfl : x = .int .i64 k := by simpa using e0
      exact ⟨k, fun c hc => by match c, hc with | 0, _ => rfl, int_of hw⟩) hv h
end Go.Wire
/- What the listed table gives the walks, and the start that fits. -/
namespace Go.Proofs.YtcdmdpafkiljdaaDoor
open Go.ChangeShapes Go.WideShapes Go.ChangeAt Go.RowKit
theorem own : ownKnob Tryd.prog.godebug = none := by kernel_rfl
theorem gSteps : Tryd.prog.globalNamed "arbour/sha.steps" = some 0 := by kernel_rfl
theorem tSteps : (Tryd.prog.globals[0]?).map (·.type) = some 111 := by kernel_rfl
theorem cells39 : Tryd.prog.cellsOf 111 = 80 := by kernel_rfl
theorem cells22 : Tryd.prog.cellsOf 23 = 1 := by kernel_rfl
def laidSteps : List (String × DataW Unit) := [("arbour/sha.steps", Rows.laid_arbour_sha_steps)]
theorem laidSteps_tab : laidSteps = [("arbour/sha.steps", Lib.tabData .u64 Sha.kl)] := by rfl
theorem cells80_kl : Sha.cells80 Sha.kk = (Sha.kl.map fun z => Value.int .u64 z).toArray := by kernel_rfl
theorem of_laid {W : World} (h : laidMetH Tryd.prog laidSteps W) : Steps W := by
  rw [MakeChecks.laidMetH_plain _ _ _ (by kernel_rfl), laidSteps_tab] at h
  have hT := Lib.tabIs_of_head gSteps tSteps under39 Tryd.underlying23 cells22 cells39 h
  unfold Lib.TabIs World.var? at hT
  rw [gSteps] at hT
  simp only [Option.bind_some] at hT
  split at hT
  · rename_i cs t fr hh
    refine ⟨t, fr, ?_⟩
    rw [hh, cells80_kl]
    rw [Option.some.inj hT]
  · cases hT
/-- The door's own heap meets the condition. -/
theorem door_met (os : Os) (args : Array Value) : laidMetH Tryd.prog laidSteps ((World.doorLaid Tryd.prog 14 os).forCall (fun _ _ => 0) ⟨#[], args, []⟩).memory :=
  laidMetH_of_parts3 (fuel := 8) (laidMet_of_run' 8 (by kernel_rfl) (by kernel_rfl)) (by kernel_rfl) (by kernel_rfl)
end Go.Proofs.YtcdmdpafkiljdaaDoor
/- Operations that came in are read. -/
namespace Go.Proofs.YtcdmdpafkiljdaaDoor
open Go Go.ChangeShapes Go.WideShapes Go.ChangeAt Go.RowKit Go.Wire Go.Stamp Go.Opn
theorem OpenW.cells26 : Tryd.prog.cellsOf 27 = 9 := by kernel_rfl
theorem OpenW.cells24 : Tryd.prog.cellsOf 25 = 2 := by kernel_rfl
theorem OpenW.cells22 : Tryd.prog.cellsOf 23 = 1 := by kernel_rfl
theorem OpenW.cells3 : Tryd.prog.cellsOf 3 = 1 := by kernel_rfl
theorem OpenW.cells4 : Tryd.prog.cellsOf 4 = 1 := by kernel_rfl
theorem OpenW.cells9 : Tryd.prog.cellsOf 9 = 1 := by kernel_rfl
set_option maxRecDepth 100000 in
theorem open_op {H : Type} {enc : TypeId × Value → H} {W : World} {r : Reach} {b0 base : Nat} {held : Bool} {v : Value} {d : DataW H} {p : List MemPlace}
    (hv : Value.okWide Tryd.prog W r b0 27 v) (h : DataW.Trod enc Tryd.prog W base (fun _ => true) held 27 v d p) : ∃ o : Ob, v = o.v ∧ o.Fits := by
  obtain ⟨cs, rfl, hsz⟩ := okWide_struct Tryd.underlying27 hv
  rw [OpenW.cells26] at hsz
  obtain ⟨l⟩ := cs
  match l, hsz with
  | [x0, x1, x2, x3, x4, x5, x6, x7, x8], _ =>
    obtain ⟨fuel, hf⟩ := h
    obtain ⟨xs, n, _, _, _, hlen, hel⟩ := DataW.trod_struct Tryd.underlying27 hf
    match xs, hlen with
    | [y0, y1, y2, y3, y4, y5, y6, y7], _ =>
      have h0 := hel 0 _ rfl
      have h1 := hel 1 _ rfl
      have h2 := hel 2 _ rfl
      have h3 := hel 3 _ rfl
      have h4 := hel 4 _ rfl
      have h5 := hel 5 _ rfl
      have h6 := hel 6 _ rfl
      have h7 := hel 7 _ rfl
      clear hel hf
      obtain ⟨a0, e0, _, w0⟩ := DataW.trod_int Tryd.underlying3 h0
      rw [show Tryd.prog.cellsOf (Field.type _) = 2 from OpenW.cells24] at h1
      obtain ⟨z0, z1, m, _, _, g0, g1⟩ := trod_struct2 Tryd.underlying25 h1
      obtain ⟨a1, e1, _, w1⟩ := DataW.trod_int Tryd.underlying23 g0
      obtain ⟨a2, e2, _, w2⟩ := DataW.trod_int Tryd.underlying3 g1
      obtain ⟨a3, e3, _, w3⟩ := DataW.trod_int Tryd.underlying23 h2
      obtain ⟨a4, e4, _, w4⟩ := DataW.trod_int Tryd.underlying23 h3
      obtain ⟨a5, e5, _, w5⟩ := DataW.trod_string Tryd.underlying9 h4
      obtain ⟨a6, e6, _⟩ := DataW.trod_bool Tryd.underlying4 h5
      obtain ⟨a7, e7, _, w7⟩ := DataW.trod_string Tryd.underlying9 h6
      obtain ⟨a8, e8, _, w8⟩ := DataW.trod_int Tryd.underlying3 h7
      rw [show Tryd.prog.cellsOf (Field.type _) = 1 from OpenW.cells3] at e0 e2 e8
      rw [show Tryd.prog.cellsOf (Field.type _) = 1 from OpenW.cells22] at e1 e3 e4
      rw [show Tryd.prog.cellsOf (Field.type _) = 1 from OpenW.cells9] at e5 e7
      rw [show Tryd.prog.cellsOf (Field.type _) = 1 from OpenW.cells4] at e6
      obtain rfl : x0 = .int .i64 a0 := (List.cons.inj e0).1
      obtain rfl : x1 = .int .u64 a1 := (List.cons.inj e1).1
      obtain rfl : x2 = .int .i64 a2 := (List.cons.inj e2).1
      obtain rfl : x3 = .int .u64 a3 := (List.cons.inj e3).1
      obtain rfl : x4 = .int .u64 a4 := (List.cons.inj e4).1
      obtain rfl : x5 = .string a5 := (List.cons.inj e5).1
      obtain rfl : x6 = .bool a6 := (List.cons.inj e6).1
      obtain rfl : x7 = .string a7 := (List.cons.inj e7).1
      obtain rfl : x8 = .int .i64 a8 := (List.cons.inj e8).1
      have b1 := u64_of w1
      have b2 := int_of w2
      unfold maxLen at w5 w7
      exact ⟨⟨a0, ⟨a1, a2⟩, a3, a4, a5, a6, a7, a8⟩, rfl, ⟨int_of w0, ⟨b1.1, b1.2, b2.1, b2.2⟩, u64_of w3, u64_of w4, by omega, by omega, int_of w8⟩⟩
end Go.Proofs.YtcdmdpafkiljdaaDoor
/- What came in is read: slices of strings. -/
namespace Go.Proofs.YtcdmdpafkiljdaaDoor
open Go Go.ChangeShapes Go.WideShapes Go.ChangeAt Go.RowKit
theorem opCells9 : Tryd.prog.cellsOf 9 = 1 := by kernel_rfl
theorem opCells3 : Tryd.prog.cellsOf 3 = 1 := by kernel_rfl
theorem opCells24 : Tryd.prog.cellsOf 22 = 1 := by kernel_rfl
set_option maxRecDepth 100000 in
theorem strs_of {H : Type} {enc : TypeId × Value → H} {W : World} {base n : Nat} {held : Bool} {cs : List Value} {y : DataW H × List MemPlace} (hf : DataW.trod enc Tryd.prog W base (fun _ => true) held n 22 cs = some y) :
    ∃ v xs, cs = [v] ∧ StrRow.Reads W v xs ∧ (∀ s ∈ xs, s.size ≤ maxLen) ∧ xs.length ≤ maxLen := by
  rcases open_strings Tryd.underlying22 Tryd.underlying9 opCells9 hf with ⟨hcs, _⟩ | ⟨a, len, cap, ss, hcs, _, hl, hm, hz, _, hcell, hsz⟩
  · exact ⟨_, [], hcs, .inl ⟨⟨_, _, rfl⟩, rfl⟩, by simp, by unfold maxLen; simp⟩
  · simp only [if_true] at hz
    have hlen : (ss.take len).length = len := by rw [List.length_take_of_le (by omega)]
    refine ⟨_, ss.take len, hcs, ?_, fun s hs => hsz s (List.mem_of_mem_take hs), by rw [hlen]; omega⟩
    by_cases h0 : len = 0
    · subst h0
      exact .inl ⟨⟨_, _, rfl⟩, by simp⟩
    · have hc0 := hcell 0 (by omega)
      obtain ⟨b, off, spot⟩ := a
      have hspot : spot = none := by simpa [Addr.add] using World.cell?_spot hc0
      subst hspot
      rw [Go.WideShapes.add_plain] at hc0
      refine .inr ⟨b, off, cap, by rw [hlen], block_lt_of_cell hc0, by rw [hlen]; exact hl, fun j s hs => ?_⟩
      have hjl : j < len := by have := (List.getElem?_eq_some_iff.1 hs).1; omega
      rw [List.getElem?_take_of_lt hjl] at hs
      have hc := hcell j (by omega)
      rw [Go.WideShapes.add_plain] at hc
      rw [hc, List.getD_eq_getElem?_getD, hs]
      rfl
end Go.Proofs.YtcdmdpafkiljdaaDoor
/- What came in is read: nodes. -/
namespace Go.Proofs.YtcdmdpafkiljdaaDoor
open Go Go.ChangeShapes Go.WideShapes Go.ChangeAt Go.RowKit Go.Wire Go.Stamp Go.Opn Go.Nod
set_option maxRecDepth 100000 in
theorem op_of {H : Type} {enc : TypeId × Value → H} {W : World} {base fuel : Nat} {held : Bool} {x0 x1 x2 x3 x4 x5 x6 x7 x8 : Value} {y : DataW H × List MemPlace} (hf : DataW.trod enc Tryd.prog W base (fun _ => true) held fuel 27 [x0, x1, x2, x3, x4, x5, x6, x7, x8] = some y) :
    ∃ o : Ob, [x0, x1, x2, x3, x4, x5, x6, x7, x8] = o.cs.toList ∧ o.Fits := by
  obtain ⟨xs, n, _, _, _, hlen, hel⟩ := DataW.trod_struct Tryd.underlying27 hf
  match xs, hlen with
  | [y0, y1, y2, y3, y4, y5, y6, y7], _ =>
    have h0 := hel 0 _ rfl
    have h1 := hel 1 _ rfl
    have h2 := hel 2 _ rfl
    have h3 := hel 3 _ rfl
    have h4 := hel 4 _ rfl
    have h5 := hel 5 _ rfl
    have h6 := hel 6 _ rfl
    have h7 := hel 7 _ rfl
    clear hel hf
    obtain ⟨a0, e0, _, w0⟩ := DataW.trod_int Tryd.underlying3 h0
    rw [show Tryd.prog.cellsOf (Field.type _) = 2 from OpenW.cells24] at h1
    obtain ⟨z0, z1, m, _, _, g0, g1⟩ := trod_struct2 Tryd.underlying25 h1
    obtain ⟨a1, e1, _, w1⟩ := DataW.trod_int Tryd.underlying23 g0
    obtain ⟨a2, e2, _, w2⟩ := DataW.trod_int Tryd.underlying3 g1
    obtain ⟨a3, e3, _, w3⟩ := DataW.trod_int Tryd.underlying23 h2
    obtain ⟨a4, e4, _, w4⟩ := DataW.trod_int Tryd.underlying23 h3
    obtain ⟨a5, e5, _, w5⟩ := DataW.trod_string Tryd.underlying9 h4
    obtain ⟨a6, e6, _⟩ := DataW.trod_bool Tryd.underlying4 h5
    obtain ⟨a7, e7, _, w7⟩ := DataW.trod_string Tryd.underlying9 h6
    obtain ⟨a8, e8, _, w8⟩ := DataW.trod_int Tryd.underlying3 h7
    rw [show Tryd.prog.cellsOf (Field.type _) = 1 from OpenW.cells3] at e0 e2 e8
    rw [show Tryd.prog.cellsOf (Field.type _) = 1 from OpenW.cells22] at e1 e3 e4
    rw [show Tryd.prog.cellsOf (Field.type _) = 1 from OpenW.cells9] at e5 e7
    rw [show Tryd.prog.cellsOf (Field.type _) = 1 from OpenW.cells4] at e6
    obtain rfl : x0 = .int .i64 a0 := (List.cons.inj e0).1
    obtain rfl : x1 = .int .u64 a1 := (List.cons.inj e1).1
    obtain rfl : x2 = .int .i64 a2 := (List.cons.inj e2).1
    obtain rfl : x3 = .int .u64 a3 := (List.cons.inj e3).1
    obtain rfl : x4 = .int .u64 a4 := (List.cons.inj e4).1
    obtain rfl : x5 = .string a5 := (List.cons.inj e5).1
    obtain rfl : x6 = .bool a6 := (List.cons.inj e6).1
    obtain rfl : x7 = .string a7 := (List.cons.inj e7).1
    obtain rfl : x8 = .int .i64 a8 := (List.cons.inj e8).1
    have b1 := u64_of w1
    have b2 := int_of w2
    unfold maxLen at w5 w7
    exact ⟨⟨a0, ⟨a1, a2⟩, a3, a4, a5, a6, a7, a8⟩, rfl, ⟨int_of w0, ⟨b1.1, b1.2, b2.1, b2.2⟩, u64_of w3, u64_of w4, by omega, by omega, int_of w8⟩⟩
theorem ndCells12 : Tryd.prog.cellsOf 29 = 12 := by kernel_rfl
set_option maxRecDepth 100000 in
theorem open_node {H : Type} {enc : TypeId × Value → H} {W : World} {r : Reach} {b0 base : Nat} {held : Bool} {v : Value} {d : DataW H} {p : List MemPlace}
    (hv : Value.okWide Tryd.prog W r b0 29 v) (h : DataW.Trod enc Tryd.prog W base (fun _ => true) held 29 v d p) : ∃ (x : Nd) (pv : Value), v = x.v pv ∧ StrRow.Reads W pv x.ps ∧ x.ps.length ≤ maxLen ∧ (∀ s ∈ x.ps, s.size ≤ maxLen) ∧ x.op.Fits ∧ (-9223372036854775808 ≤ x.au ∧ x.au ≤ 9223372036854775807) := by
  obtain ⟨cs, rfl, hsz⟩ := okWide_struct Tryd.underlying29 hv
  rw [ndCells12] at hsz
  obtain ⟨l⟩ := cs
  match l, hsz with
  | [x0, x1, x2, x3, x4, x5, x6, x7, x8, x9, x10, x11], _ =>
    obtain ⟨fuel, hf⟩ := h
    obtain ⟨xs, n, _, _, _, hlen, hel⟩ := DataW.trod_struct Tryd.underlying29 hf
    match xs, hlen with
    | [y0, y1, y2, y3], _ =>
      have h0 := hel 0 _ rfl
      have h1 := hel 1 _ rfl
      have h2 := hel 2 _ rfl
      have h3 := hel 3 _ rfl
      clear hel hf
      obtain ⟨a0, e0, _, w0⟩ := DataW.trod_int Tryd.underlying3 h0
      obtain ⟨v1, ls, e1, t1, z1, m1⟩ := strs_of h1
      rw [show Tryd.prog.cellsOf (Field.type _) = 9 from OpenW.cells26] at h2
      obtain ⟨o, e2, f2⟩ := op_of h2
      obtain ⟨a3, e3, _, w3⟩ := DataW.trod_string Tryd.underlying9 h3
      rw [show Tryd.prog.cellsOf (Field.type _) = 1 from opCells3] at e0
      rw [show Tryd.prog.cellsOf (Field.type _) = 1 from opCells24] at e1
      rw [show Tryd.prog.cellsOf (Field.type _) = 1 from opCells9] at e3
      cases e0
      cases e1
      cases e2
      cases e3
      exact ⟨⟨a0, ls, o, a3⟩, _, rfl, t1, m1, z1, f2, int_of w0⟩
end Go.Proofs.YtcdmdpafkiljdaaDoor
