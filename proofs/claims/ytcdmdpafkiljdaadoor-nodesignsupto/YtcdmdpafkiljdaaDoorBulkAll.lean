/- Several texts in one: NodeBulk. -/
import Derived.Test.YtcdmdpafkiljdaaDoorOpenAll
import Derived.Test.YtcdmdpafkiljdaaDoorRows
/- What the bulk of a node bounds. -/
namespace Go.Proofs.YtcdmdpafkiljdaaDoor
open Go Go.ChangeShapes Go.WideShapes Go.ChangeAt Go.RowKit Go.Wire Go.Stamp Go.Opn Go.Nod
theorem bulk_pos {H : Type} (d : DataW H) : 1 ≤ Rows.uptoBulk d := by
  unfold Rows.uptoBulk
  split <;> omega
theorem bulk_all {H : Type} {l : List (DataW H)} {d : DataW H} (h : d ∈ l) : Rows.uptoBulk d ≤ Rows.uptoBulkAll l := by
  induction l with
  | nil => cases h
  | cons x r ih =>
    unfold Rows.uptoBulkAll
    rcases List.mem_cons.1 h with rfl | h
    · omega
    · have := ih h
      omega
theorem bulk_len {H : Type} (l : List (DataW H)) : l.length ≤ Rows.uptoBulkAll l := by
  induction l with
  | nil => simp
  | cons x r ih =>
    have := bulk_pos x
    unfold Rows.uptoBulkAll
    simp only [List.length_cons]
    omega
theorem bulk_agg {H : Type} (l : List (DataW H)) : Rows.uptoBulk (.agg l) = Rows.uptoBulkAll l + 1 := by rw [Rows.uptoBulk]
theorem bulk_slice {H : Type} (l r : List (DataW H)) : Rows.uptoBulk (.slice l r) = Rows.uptoBulkAll l + Rows.uptoBulkAll r + 1 := by rw [Rows.uptoBulk]
theorem bulk_string {H : Type} (b : ByteArray) : Rows.uptoBulk (H := H) (.lit (.string b.data.toList)) = b.size + 1 := by
  rw [Rows.uptoBulk, Array.length_toList]
  rfl
set_option maxRecDepth 100000 in
theorem strs_bulk {H : Type} {enc : TypeId × Value → H} {W : World} {base n : Nat} {held : Bool} {cs : List Value} {y : DataW H × List MemPlace} (hf : DataW.trod enc Tryd.prog W base (fun _ => true) held n 22 cs = some y) :
    ∃ v xs, cs = [v] ∧ StrRow.Reads W v xs ∧ (∀ s ∈ xs, s.size ≤ maxLen) ∧ xs.length ≤ maxLen ∧ xs.length ≤ Rows.uptoBulk y.1 := by
  rcases open_strings Tryd.underlying22 Tryd.underlying9 opCells9 hf with ⟨hcs, _⟩ | ⟨a, len, cap, ss, hcs, _, hl, hm, hz, hy, hcell, hsz⟩
  · exact ⟨_, [], hcs, .inl ⟨⟨_, _, rfl⟩, rfl⟩, by simp, by unfold maxLen; simp, by simp⟩
  · simp only [if_true] at hz
    have hlen : (ss.take len).length = len := by rw [List.length_take_of_le (by omega)]
    have hb : (ss.take len).length ≤ Rows.uptoBulk y.1 := by
      have := bulk_len (strs (H := H) (ss.take len))
      rw [hy]
      show _ ≤ Rows.uptoBulk (.slice _ _)
      rw [bulk_slice]
      have e : (strs (H := H) (ss.take len)).length = (ss.take len).length := by simp [strs]
      omega
    refine ⟨_, ss.take len, hcs, ?_, fun s hs => hsz s (List.mem_of_mem_take hs), by rw [hlen]; omega, hb⟩
    by_cases h0 : len = 0
    · subst h0
      exact .inl ⟨⟨_, _, rfl⟩, by simp⟩
    · have hc0 := hcell 0 (by omega)
      obtain ⟨b, off, spot⟩ := a
      have hspot : spot = none := by simpa [Addr.add] using World.cell?_spot hc0
      subst hspot
      rw [Go.WideShapes.add_plain] at hc0
      refine .inr ⟨b, off, cap, by rw [hlen], block_lt_of_cell hc0, by rw [hlen]; exact hl, fun j s hs => ?_⟩
      have hjl : j < len := by have := (List.getElem?_eq_some_iff.1 hs).1; omega
      rw [List.getElem?_take_of_lt hjl] at hs
      have hc := hcell j (by omega)
      rw [Go.WideShapes.add_plain] at hc
      rw [hc, List.getD_eq_getElem?_getD, hs]
      rfl
set_option maxRecDepth 100000 in
theorem op_bulk {H : Type} {enc : TypeId × Value → H} {W : World} {base fuel : Nat} {held : Bool} {x0 x1 x2 x3 x4 x5 x6 x7 x8 : Value} {y : DataW H × List MemPlace} (hf : DataW.trod enc Tryd.prog W base (fun _ => true) held fuel 27 [x0, x1, x2, x3, x4, x5, x6, x7, x8] = some y) :
    ∃ o : Ob, [x0, x1, x2, x3, x4, x5, x6, x7, x8] = o.cs.toList ∧ o.Fits ∧ o.name.size + 1 ≤ Rows.uptoBulk y.1 := by
  obtain ⟨xs, n, _, hy, _, hlen, hel⟩ := DataW.trod_struct Tryd.underlying27 hf
  match xs, hlen with
  | [y0, y1, y2, y3, y4, y5, y6, y7], _ =>
    have h0 := hel 0 _ rfl
    have h1 := hel 1 _ rfl
    have h2 := hel 2 _ rfl
    have h3 := hel 3 _ rfl
    have h4 := hel 4 _ rfl
    have h5 := hel 5 _ rfl
    have h6 := hel 6 _ rfl
    have h7 := hel 7 _ rfl
    clear hel hf
    obtain ⟨a0, e0, _, w0⟩ := DataW.trod_int Tryd.underlying3 h0
    rw [show Tryd.prog.cellsOf (Field.type _) = 2 from OpenW.cells24] at h1
    obtain ⟨z0, z1, m, _, _, g0, g1⟩ := trod_struct2 Tryd.underlying25 h1
    obtain ⟨a1, e1, _, w1⟩ := DataW.trod_int Tryd.underlying23 g0
    obtain ⟨a2, e2, _, w2⟩ := DataW.trod_int Tryd.underlying3 g1
    obtain ⟨a3, e3, _, w3⟩ := DataW.trod_int Tryd.underlying23 h2
    obtain ⟨a4, e4, _, w4⟩ := DataW.trod_int Tryd.underlying23 h3
    obtain ⟨a5, e5, b5, w5⟩ := DataW.trod_string Tryd.underlying9 h4
    obtain ⟨a6, e6, _⟩ := DataW.trod_bool Tryd.underlying4 h5
    obtain ⟨a7, e7, _, w7⟩ := DataW.trod_string Tryd.underlying9 h6
    obtain ⟨a8, e8, _, w8⟩ := DataW.trod_int Tryd.underlying3 h7
    rw [show Tryd.prog.cellsOf (Field.type _) = 1 from OpenW.cells3] at e0 e2 e8
    rw [show Tryd.prog.cellsOf (Field.type _) = 1 from OpenW.cells22] at e1 e3 e4
    rw [show Tryd.prog.cellsOf (Field.type _) = 1 from OpenW.cells9] at e5 e7
    rw [show Tryd.prog.cellsOf (Field.type _) = 1 from OpenW.cells4] at e6
    obtain rfl : x0 = .int .i64 a0 := (List.cons.inj e0).1
    obtain rfl : x1 = .int .u64 a1 := (List.cons.inj e1).1
    obtain rfl : x2 = .int .i64 a2 := (List.cons.inj e2).1
    obtain rfl : x3 = .int .u64 a3 := (List.cons.inj e3).1
    obtain rfl : x4 = .int .u64 a4 := (List.cons.inj e4).1
    obtain rfl : x5 = .string a5 := (List.cons.inj e5).1
    obtain rfl : x6 = .bool a6 := (List.cons.inj e6).1
    obtain rfl : x7 = .string a7 := (List.cons.inj e7).1
    obtain rfl : x8 = .int .i64 a8 := (List.cons.inj e8).1
    have b1 := u64_of w1
    have b2 := int_of w2
    unfold maxLen at w5 w7
    refine ⟨⟨a0, ⟨a1, a2⟩, a3, a4, a5, a6, a7, a8⟩, rfl, ⟨int_of w0, ⟨b1.1, b1.2, b2.1, b2.2⟩, u64_of w3, u64_of w4, by omega, by omega, int_of w8⟩, ?_⟩
    rw [hy]
    have h5 := bulk_all (l := ([y0, y1, y2, y3, y4, y5, y6, y7].map (·.1))) (d := y4.1) (by simp)
    have b6 : Rows.uptoBulk y4.1 = a5.size + 1 := by rw [b5]; exact bulk_string a5
    show a5.size + 1 ≤ Rows.uptoBulk (.agg _)
    rw [bulk_agg]
    omega
set_option maxRecDepth 100000 in
theorem open_node_bulk {H : Type} {enc : TypeId × Value → H} {W : World} {r : Reach} {b0 base : Nat} {held : Bool} {v : Value} {d : DataW H} {p : List MemPlace}
    (hv : Value.okWide Tryd.prog W r b0 29 v) (h : DataW.Trod enc Tryd.prog W base (fun _ => true) held 29 v d p) : ∃ (x : Nd) (pv : Value), v = x.v pv ∧ StrRow.Reads W pv x.ps ∧ x.ps.length ≤ maxLen ∧ (∀ s ∈ x.ps, s.size ≤ maxLen) ∧ x.op.Fits ∧ (-9223372036854775808 ≤ x.au ∧ x.au ≤ 9223372036854775807) ∧ x.ps.length ≤ Rows.uptoBulk d ∧ x.op.name.size ≤ Rows.uptoBulk d := by
  obtain ⟨cs, rfl, hsz⟩ := okWide_struct Tryd.underlying29 hv
  rw [ndCells12] at hsz
  obtain ⟨l⟩ := cs
  match l, hsz with
  | [x0, x1, x2, x3, x4, x5, x6, x7, x8, x9, x10, x11], _ =>
    obtain ⟨fuel, hf⟩ := h
    obtain ⟨xs, n, _, hy, _, hlen, hel⟩ := DataW.trod_struct Tryd.underlying29 hf
    match xs, hlen with
    | [y0, y1, y2, y3], _ =>
      have h0 := hel 0 _ rfl
      have h1 := hel 1 _ rfl
      have h2 := hel 2 _ rfl
      have h3 := hel 3 _ rfl
      clear hel hf
      obtain ⟨a0, e0, _, w0⟩ := DataW.trod_int Tryd.underlying3 h0
      obtain ⟨v1, ls, e1, t1, z1, m1, g1⟩ := strs_bulk h1
      rw [show Tryd.prog.cellsOf (Field.type _) = 9 from OpenW.cells26] at h2
      obtain ⟨o, e2, f2, g2⟩ := op_bulk h2
      obtain ⟨a3, e3, _, w3⟩ := DataW.trod_string Tryd.underlying9 h3
      rw [show Tryd.prog.cellsOf (Field.type _) = 1 from opCells3] at e0
      rw [show Tryd.prog.cellsOf (Field.type _) = 1 from opCells24] at e1
      rw [show Tryd.prog.cellsOf (Field.type _) = 1 from opCells9] at e3
      cases e0
      cases e1
      cases e2
      cases e3
      have b1 := bulk_all (l := ([y0, y1, y2, y3].map (·.1))) (d := y1.1) (by simp)
      have b2 := bulk_all (l := ([y0, y1, y2, y3].map (·.1))) (d := y2.1) (by simp)
      obtain ⟨rfl, _⟩ := Prod.mk.inj hy
      refine ⟨⟨a0, ls, o, a3⟩, _, rfl, t1, m1, z1, f2, int_of w0, ?_, ?_⟩
      · show ls.length ≤ _
        rw [bulk_agg]
        omega
      · show o.name.size ≤ _
        rw [bulk_agg]
        omega
end Go.Proofs.YtcdmdpafkiljdaaDoor
