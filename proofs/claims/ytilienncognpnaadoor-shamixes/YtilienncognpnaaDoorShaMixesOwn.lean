/- Proved: the numbers ahead of all bytes and behind a block are the document's, of any eight numbers and any block, and what is no block of 128 bytes changes no number; nothing that was there is changed; the table of the steps' numbers holds what the program's text lays in it. -/
import Derived.Test.YtilienncognpnaaDoorShaMixesWalk
import Derived.Test.YtilienncognpnaaDoorFrame
import Derived.Test.YtilienncognpnaaDoorTie
import Derived.Test.YtilienncognpnaaDoorCards
import Derived.SevenTiedAt
namespace Go.Proofs.YtilienncognpnaaDoor.ShaMixes
open Go Go.ChangeShapes Go.WideShapes Go.ChangeAt Go.RowKit
open Go.ChangeMaps (open_string shut_string)
theorem laidOut : laidOutB Tryd.prog = true := by kernel_rfl
/-- Eight numbers that came in are written out. -/
theorem open_state {H : Type} {enc : TypeId × Value → H} {W : World} {r : Reach} {b0 base : Nat} {spare : Nat → Bool} {held : Bool} {v : Value} {d : DataW H} {p : List MemPlace}
    (hv : Value.okWide Tryd.prog W r b0 23 v) (h : DataW.Trod enc Tryd.prog W base spare held 23 v d p) : ∃ u : Sha.St, v = .agg u.cells := by
  simp only [Value.okWide, under23] at hv
  obtain ⟨cs, rfl, hsz, _⟩ := hv
  have c23 : Tryd.prog.cellsOf 23 = 8 := by kernel_rfl
  rw [c23] at hsz
  obtain ⟨l⟩ := cs
  match l, hsz with
  | [x0, x1, x2, x3, x4, x5, x6, x7], _ =>
    obtain ⟨fuel, hf⟩ := h
    obtain ⟨xs, m, rfl, hx, _, hn, hel⟩ := DataW.trod_array under23 hf
    have one : ∀ i (hi : i < 8) (c : Value), (([x0, x1, x2, x3, x4, x5, x6, x7] : List Value).drop i).take 1 = [c] → ∃ n, c = .int .u64 n := by
      intro i hi c hc
      have h1 := hel i hi
      rw [cells22, Nat.mul_one] at h1
      have h2 : xs[i]? = some (xs[i]'(by omega)) := List.getElem?_eq_getElem (by omega)
      rw [h2] at h1
      obtain ⟨n, e1, _⟩ := DataW.trod_int Tryd.underlying22 h1
      have h3 : (([x0, x1, x2, x3, x4, x5, x6, x7] : List Value).drop i).take 1 = [.int .u64 n] := e1
      rw [hc] at h3
      exact ⟨n, by simpa using h3⟩
    obtain ⟨a, rfl⟩ := one 0 (by decide) x0 rfl
    obtain ⟨b, rfl⟩ := one 1 (by decide) x1 rfl
    obtain ⟨c, rfl⟩ := one 2 (by decide) x2 rfl
    obtain ⟨d', rfl⟩ := one 3 (by decide) x3 rfl
    obtain ⟨e, rfl⟩ := one 4 (by decide) x4 rfl
    obtain ⟨f, rfl⟩ := one 5 (by decide) x5 rfl
    obtain ⟨g, rfl⟩ := one 6 (by decide) x6 rfl
    obtain ⟨h', rfl⟩ := one 7 (by decide) x7 rfl
    exact ⟨⟨a, b, c, d', e, f, g, h'⟩, rfl⟩
set_option maxRecDepth 100000 in
theorem lifted (os : Os) (started : os.Started) (H : Type) (enc : TypeId × Value → H) :
    ReturnsInHanded {} Tryd.checked os 3 .any (fun w args => (Rows.shaMixesSpec.pre enc Tryd.prog Tryd.f3 [] false w args ∧ laidMetH Tryd.prog laidSteps w) ∧ sizedMet enc Tryd.prog Tryd.f3 (OpenSpec.ofChange Rows.shaMixesSpec) false w args)
      (Rows.shaMixesSpec.post enc Tryd.prog Tryd.f3 false true false false) := by
  refine returnsInHanded_of_change_and (C := Tryd.checked) (X := fun w _ => laidMetH Tryd.prog laidSteps w) (fun _ _ _ hh h => h.of_heap hh) own started (by kernel_rfl) Tryd.func3
    (ChangeSpec.witness_shaped (enc := enc) (C := Tryd.checked) (os := os) (X := fun w _ => laidMetH Tryd.prog laidSteps w) false (World.doorLaid Tryd.prog 14 os) #[.agg #[.int .u64 0, .int .u64 0, .int .u64 0, .int .u64 0, .int .u64 0, .int .u64 0, .int .u64 0, .int .u64 0], .string ByteArray.empty] 8 rfl (World.shaped_of_RefB (by kernel_rfl) (by kernel_rfl)) (by kernel_rfl) (by kernel_rfl) (by kernel_rfl) (door_met os _)) ?_
  intro W base args ds gs before hval0 hW _ _ hL _
  have hval : ∀ (j : Nat) t v, Tryd.f3.params[j]? = some t → args[j]? = some v → Value.okWide Tryd.prog W .any base t v := hval0
  have hW' := hW
  obtain ⟨p, q, hA0, hV, rfl, hfz, hnd⟩ := hW
  have hA : DataW.TrodAll enc Tryd.prog W 0 (fun _ => true) true Tryd.f3.params.toList args.toList ds p := hA0
  rw [Tryd.params3] at hA hval
  obtain ⟨v0, v1, d0, d1, p0, p1, rfl, rfl, rfl, h0, h1⟩ := trodAll_two hA
  obtain ⟨rfl, rfl⟩ := trodVars_none hV
  obtain ⟨a1, rfl, rfl, rfl, w1⟩ := open_string Tryd.underlying9 (hval 1 9 v1 rfl rfl) h1
  obtain ⟨u, rfl⟩ := open_state (hval 0 23 v0 rfl rfl) h0
  clear hA0 hval0
  simp only [List.append_nil] at hW'
  have hlt : ∀ x ∈ p0, x.block < W.heap.size := fun x hx => by simpa using hW'.lt x hx
  refine (mixes_any u a1 W w1 (of_laid hL)).mono fun e W' ⟨he, hb⟩ => ?_
  subst he
  exact ⟨_, rfl, [d0, .lit (.string a1.data.toList)], [], p0, [], p0 ++ [], [], hW', trodAll_mk1 (shut_bool Tryd.underlying4 _), trodAll_mk2 (Below.trod laidOut (by kernel_rfl) (of_decide_eq_true (by kernel_rfl)) h0 hb hlt) (shut_string Tryd.underlying9 w1), rfl, hb.frame _, fun h => by cases h⟩
theorem row_holds : Rows.ShaMixesSaid :=
  OpenClaim.holds_of_wide 3 Tryd.f3 rfl rfl rfl rfl rfl rfl rfl ⟨rfl, rfl, rfl, rfl, rfl⟩ rfl rfl rfl rfl rfl (by kernel_rfl) Tryd.func3 (by kernel_rfl)
    (of_decide_eq_true (by kernel_rfl)) (by unfold Func.isWrapper; first | (rw [if_pos (by decide +kernel)]; kernel_rfl) | (rw [if_neg (by decide +kernel)]; exact ⟨rfl, rfl⟩))
    (fun os started H enc _ => lifted os started H enc)
end Go.Proofs.YtilienncognpnaaDoor.ShaMixes
namespace Go.Proofs.YtilienncognpnaaDoor
open Go
theorem shaMixes_holds : Rows.ShaMixesCardSaid :=
  Claim7.holds_tied_plain_at .later [] [.data] true (true, "3f90fefb547eaaa9c2114eee8e20d7bbd54cb2b77c3a314015c541af51cae846") false
    ShaMixes.row_holds (fun _ h => by cases h) (by kernel_rfl) (fun _ h => by cases h) shaMixes_row_tie rfl ⟨rfl, rfl⟩ (by kernel_rfl) rfl
    (fun f fn hf hfn => by
      obtain rfl : f = 3 := Option.some.inj ((show Tryd.prog.funcNamed "arbour/arbourlaw01.ShaMixes" = some 3 by kernel_rfl).symm.trans hf) |>.symm
      obtain rfl : fn = Tryd.f3 := (Option.some.inj (Tryd.func3.symm.trans hfn)).symm
      exact ⟨by kernel_rfl, fun j t ht => by
        rw [Tryd.params3] at ht
        have hm : t ∈ [23, 9] := by simpa using Array.mem_of_getElem? ht
        have hall : ([23, 9].all fun u => !Tryd.prog.wantsStandIn u) = true := by kernel_rfl
        exact (show Tryd.prog.wantsStandIn t = false by simpa using List.all_eq_true.1 hall t hm)⟩)
    (by kernel_rfl)
#print axioms shaMixes_holds
end Go.Proofs.YtilienncognpnaaDoor
