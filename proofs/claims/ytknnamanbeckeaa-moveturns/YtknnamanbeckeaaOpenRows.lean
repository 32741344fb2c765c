/- Slices of structs, and structs by value, that came in are read; of no program. -/
import Derived.Test.YtknnamanbeckeaaWireStructRows
import Derived.ProofKit
import Derived.OpenShut
import Derived.ShutString
import Derived.Deep.Slices
import Derived.Lib.SmallJoins
namespace Go.Wire
open Go Go.ChangeShapes Go.WideShapes Go.ChangeAt Go.RowKit
/-- A slice of elements of m cells each, read element by element by F. -/
theorem open_rows {H : Type} {enc : TypeId × Value → H} {P : Program} {W : World} {r : Reach} {b0 base m : Nat} {held : Bool} {t e : TypeId} {v : Value} {d : DataW H} {p : List MemPlace} {G : Type} [Inhabited G] (F : G → Nat → Value) (Φ : G → Prop)
    (ht : P.underlying t = some (.slice e)) (hm0 : 0 < m) (hc : P.cellsOf e = m)
    (read : ∀ (n : Nat) (cs : List Value) (y : DataW H × List MemPlace), cs.length = m → DataW.trod enc P W base (fun _ => true) held n e cs = some y → ∃ g : G, (∀ c, c < m → cs[c]? = some (F g c)) ∧ Φ g)
    (hv : Value.okWide P W r b0 t v) (h : DataW.Trod enc P W base (fun _ => true) held t v d p) :
    ∃ (n : Nat) (gs : Nat → G), SRow W m v n (fun j => F (gs j)) ∧ (∀ j, j < n → Φ (gs j)) ∧ n ≤ maxLen := by
  obtain ⟨a0, len, cap, rfl⟩ := okWide_slice ht hv
  obtain ⟨fuel, hf⟩ := h
  rcases Deep.open_slice ht hf with ⟨hcs, _⟩ | ⟨a, len', cap', mm, nn, D, Pl, hcs, _, hl, hm, hmm, _, hel⟩
  · simp [Value.cells] at hcs
    obtain ⟨rfl, rfl, rfl⟩ := hcs
    exact ⟨0, fun _ => default, .inl ⟨⟨none, 0, rfl⟩, rfl⟩, fun j hj => by omega, by unfold maxLen; omega⟩
  · simp [Value.cells] at hcs
    obtain ⟨rfl, rfl, rfl⟩ := hcs
    simp only [if_true] at hmm
    subst hmm
    have each : ∀ i, i < len → ∃ g : G, (∀ c, c < m → W.cell? (a.add (i * m + c)) = some (F g c)) ∧ Φ g := by
      intro i hi
      obtain ⟨cs', h1, h2⟩ := hel i (by omega)
      rw [hc] at h1
      obtain ⟨_, hlen, hcell⟩ := World.cells?_some h1
      obtain ⟨g, hg, hφ⟩ := read nn cs' _ hlen h2
      refine ⟨g, fun c hcm => ?_, hφ⟩
      have hcc := hcell c hcm
      rw [Deep.add_add] at hcc
      rw [hcc]
      exact hg c hcm
    obtain ⟨gs, hgs⟩ := Deep.choose_lt each
    refine ⟨len, gs, ?_, fun j hj => (hgs j hj).2, by unfold maxLen at *; omega⟩
    by_cases h0 : len = 0
    · subst h0; exact .inl ⟨⟨_, _, rfl⟩, rfl⟩
    · obtain ⟨b, off, spot⟩ := a
      have hc0 := (hgs 0 (by omega)).1 0 hm0
      have hspot : spot = none := by simpa [Addr.add] using World.cell?_spot hc0
      subst hspot
      have hbl := block_lt_of_cell hc0
      rw [add_plain] at hbl
      refine .inr ⟨b, off, _, rfl, hbl, hl, fun j c hj hcm => ?_⟩
      have := (hgs j hj).1 c hcm
      rw [add_plain] at this
      rw [← this]
      congr 2
      omega
theorem int_of {n : Int} (h : (Lit.int .i64 n).wf = true) : -9223372036854775808 ≤ n ∧ n ≤ 9223372036854775807 := by
  simpa [Lit.wf, IntKind.min, IntKind.max, IntKind.signed, IntKind.bits] using h
theorem u64_of {n : Int} (h : (Lit.int .u64 n).wf = true) : 0 ≤ n ∧ n ≤ 18446744073709551615 := by
  simpa [Lit.wf, IntKind.min, IntKind.max, IntKind.signed, IntKind.bits] using h
/-- A slice of integers. -/
theorem open_introw {H : Type} {enc : TypeId × Value → H} {P : Program} {W : World} {r : Reach} {b0 base : Nat} {held : Bool} {t e : TypeId} {v : Value} {d : DataW H} {p : List MemPlace}
    (ht : P.underlying t = some (.slice e)) (he : P.underlying e = some (.int .i64)) (hc : P.cellsOf e = 1)
    (hv : Value.okWide P W r b0 t v) (h : DataW.Trod enc P W base (fun _ => true) held t v d p) :
    ∃ (n : Nat) (xs : Nat → Int), SRow W 1 v n (fun j _ => .int .i64 (xs j)) ∧ (∀ j, j < n → -9223372036854775808 ≤ xs j ∧ xs j ≤ 9223372036854775807) ∧ n ≤ maxLen :=
  open_rows (G := Int) (fun g _ => .int .i64 g) (fun g => -9223372036854775808 ≤ g ∧ g ≤ 9223372036854775807) ht (by decide) hc (fun n cs y hl h2 => by
    match cs, hl with
    | [x], _ =>
      obtain ⟨k, e0, _, hw⟩ := DataW.trod_int he h2
      obtain rfl : x = .int .i64 k := by simpa using e0
      exact ⟨k, fun c hc => by match c, hc with | 0, _ => rfl, int_of hw⟩) hv h
end Go.Wire
