/- Proved: whatever is taken of any text (cut at 500 bytes), one behind the other (the first thirty of any list: bytes, numbers, counts, texts, digests, yes and no, errors laid), is the document's, with its error, its place and what is left; the first error stays, and nothing is taken with it or behind it; the program is awake; nothing that was there is changed. -/
import Derived.Test.YtajbhfejjenloaaWireGetsWalk
import Derived.ProofKit
import Derived.OpenShut
import Derived.ShutString
import Derived.SliceStrings
import Derived.Deep.Slices
namespace Go.Proofs.Ytajbhfejjenloaa.WireGets
open Go Go.ChangeShapes Go.WideShapes Go.ChangeAt Go.RowKit Go.Wire
open Go.ChangeMaps (open_string shut_string)
theorem own : ownKnob Try.prog.godebug = none := by kernel_rfl
theorem laidOut : laidOutB Try.prog = true := by kernel_rfl
theorem cellsG : Try.prog.cellsOf 47 = 2 := by kernel_rfl
theorem cells3 : Try.prog.cellsOf 3 = 1 := by kernel_rfl
theorem under_get : ∃ f0 f1 : Field, Try.prog.underlying 47 = some (.struct #[f0, f1]) ∧ f0.type = 3 ∧ f1.type = 3 ∧ f0.offset = 0 ∧ f1.offset = 1 :=
  ⟨_, _, Try.underlying47, rfl, rfl, rfl, rfl⟩
theorem int_of {n : Int} (h : (Lit.int .i64 n).wf = true) : -9223372036854775808 ≤ n ∧ n ≤ 9223372036854775807 := by
  simpa [Lit.wf, IntKind.min, IntKind.max, IntKind.signed, IntKind.bits] using h
/-- A slice of such structs that came in is read. -/
theorem open_gets {H : Type} {enc : TypeId × Value → H} {W : World} {r : Reach} {b0 base : Nat} {held : Bool} {v : Value} {d : DataW H} {p : List MemPlace}
    (hv : Value.okWide Try.prog W r b0 45 v) (h : DataW.Trod enc Try.prog W base (fun _ => true) held 45 v d p) :
    ∃ (n : Nat) (gs : Nat → Int × Int), SRow W 2 v n (fun j => pairCell (gs j)) ∧ (∀ j, j < n → -9223372036854775808 ≤ (gs j).2 ∧ (gs j).2 ≤ 9223372036854775807) ∧ n ≤ maxLen := by
  obtain ⟨a0, len, cap, rfl⟩ := okWide_slice Try.underlying45 hv
  obtain ⟨fuel, hf⟩ := h
  obtain ⟨f0, f1, hu, t0, t1, o0, o1⟩ := under_get
  rcases Deep.open_slice Try.underlying45 hf with ⟨hcs, _⟩ | ⟨a, len', cap', m, nn, D, Pl, hcs, _, hl, hm, hmm, _, hel⟩
  · simp [Value.cells] at hcs
    obtain ⟨rfl, rfl, rfl⟩ := hcs
    exact ⟨0, fun _ => (0, 0), .inl ⟨⟨none, 0, rfl⟩, rfl⟩, fun j hj => by omega, by unfold maxLen; omega⟩
  · simp [Value.cells] at hcs
    obtain ⟨rfl, rfl, rfl⟩ := hcs
    simp only [if_true] at hmm
    subst hmm
    have each : ∀ i, i < len → ∃ g : Int × Int, (∀ c, c < 2 → W.cell? (a.add (i * 2 + c)) = some (pairCell g c)) ∧ -9223372036854775808 ≤ g.2 ∧ g.2 ≤ 9223372036854775807 := by
      intro i hi
      obtain ⟨cs', h1, h2⟩ := hel i (by omega)
      rw [cellsG] at h1
      obtain ⟨_, hlen, hcell⟩ := World.cells?_some h1
      obtain ⟨xs, k, _, _, _, hxl0, hfd⟩ := DataW.trod_struct hu h2
      have hxl : xs.length = 2 := hxl0
      match cs', hlen with
      | [v0, v1], _ =>
        have g0 := hfd 0 f0 rfl
        have g1 := hfd 1 f1 rfl
        rw [t0, o0, cells3] at g0
        rw [t1, o1, cells3] at g1
        have hx0 : xs[0]? = some (xs[0]'(by omega)) := List.getElem?_eq_getElem (by omega)
        have hx1 : xs[1]? = some (xs[1]'(by omega)) := List.getElem?_eq_getElem (by omega)
        rw [hx0] at g0
        rw [hx1] at g1
        obtain ⟨kd, e0, _, _⟩ := DataW.trod_int Try.underlying3 g0
        obtain ⟨nm, e1, _, hw1⟩ := DataW.trod_int Try.underlying3 g1
        obtain rfl : v0 = .int .i64 kd := by simpa using e0
        obtain rfl : v1 = .int .i64 nm := by simpa using e1
        refine ⟨(kd, nm), fun c hc => ?_, int_of hw1⟩
        have hcc := hcell c (by simpa using hc)
        rw [Deep.add_add] at hcc
        rw [hcc]
        match c, hc with
        | 0, _ => rfl
        | 1, _ => rfl
    obtain ⟨gs, hgs⟩ := Deep.choose_lt each
    refine ⟨len, gs, ?_, fun j hj => (hgs j hj).2, by unfold maxLen at *; omega⟩
    by_cases h0 : len = 0
    · subst h0; exact .inl ⟨⟨_, _, rfl⟩, rfl⟩
    · obtain ⟨b, off, spot⟩ := a
      have hc0 := (hgs 0 (by omega)).1 0 (by omega)
      have hspot : spot = none := by simpa [Addr.add] using World.cell?_spot hc0
      subst hspot
      refine .inr ⟨b, off, _, rfl, block_lt_of_cell hc0, hl, fun j c hj hc => ?_⟩
      have := (hgs j hj).1 c hc
      rw [add_plain] at this
      rw [← this]
      congr 2
      omega
set_option maxRecDepth 100000 in
theorem lifted (os : Os) (started : os.Started) (H : Type) (enc : TypeId × Value → H) :
    ReturnsInHanded {} Try.checked os 6 .any (Rows.wireGetsSpec.pre6 enc Try.prog Try.f6 Rows.wireGetsRow.domain false) (Rows.wireGetsSpec.post enc Try.prog Try.f6 false true false false) := by
  refine returnsInHanded_of_change (C := Try.checked) own started (by kernel_rfl) Try.func6
    (ChangeSpec.witness6 (enc := enc) (C := Try.checked) false ⟨#[], #[.string ByteArray.empty, .slice none 0 0], []⟩ 8 (by kernel_rfl) (by kernel_rfl) (by kernel_rfl) (by kernel_rfl)) ?_
  intro W base args ds gs before hval0 hW hcnd _
  have hval : ∀ (j : Nat) t v, Try.f6.params[j]? = some t → args[j]? = some v → Value.okWide Try.prog W .any base t v := hval0
  have hW' := hW
  obtain ⟨p, q, hA0, hV, rfl, hfz, hnd⟩ := hW
  have hA : DataW.TrodAll enc Try.prog W 0 (fun _ => true) true Try.f6.params.toList args.toList ds p := hA0
  rw [Try.params6] at hA hval
  obtain ⟨v0, v1, d0, d1, p0, p1, rfl, rfl, rfl, h0, h1⟩ := trodAll_two hA
  obtain ⟨rfl, rfl⟩ := trodVars_none hV
  obtain ⟨a0, rfl, rfl, rfl, w0⟩ := open_string Try.underlying9 (hval 0 9 v0 rfl rfl) h0
  obtain ⟨n, gs, hr, hg, hn⟩ := open_gets (hval 1 45 v1 rfl rfl) h1
  clear hA0 hval0 hcnd
  have hlt : ∀ x ∈ p1, x.block < W.heap.size := fun x hx => by
    refine hW'.lt x ?_
    simpa using hx
  refine (gets_any a0 v1 n gs W w0 hr hg hn).mono fun e W' ⟨he, hb⟩ => ?_
  subst he
  exact ⟨_, rfl, _, [], _, [], _, [], hW', trodAll_mk1 (shut_bool Try.underlying4 _), trodAll_mk2 (shut_string Try.underlying9 w0) (Below.trod laidOut (by kernel_rfl) (of_decide_eq_true (by kernel_rfl)) h1 hb hlt), rfl, hb.frame _, fun h => by cases h⟩
end Go.Proofs.Ytajbhfejjenloaa.WireGets
namespace Go.Proofs.Ytajbhfejjenloaa
open Go
theorem wireGets_holds : Rows.WireGetsSaid :=
  OpenClaim.holds_of_wide 6 Try.f6 rfl rfl rfl rfl rfl rfl rfl ⟨rfl, rfl, rfl, rfl, rfl⟩ rfl rfl rfl rfl rfl (by kernel_rfl) Try.func6 (by kernel_rfl)
    (of_decide_eq_true (by kernel_rfl)) (by unfold Func.isWrapper; first | (rw [if_pos (by decide +kernel)]; kernel_rfl) | (rw [if_neg (by decide +kernel)]; exact ⟨rfl, rfl⟩))
    (fun os started H enc _ => WireGets.lifted os started H enc)
#print axioms wireGets_holds
end Go.Proofs.Ytajbhfejjenloaa
