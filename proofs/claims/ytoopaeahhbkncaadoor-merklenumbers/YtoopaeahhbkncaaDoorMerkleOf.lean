/- Contract: a file's manifest. -/
import Derived.Test.YtoopaeahhbkncaaDoorMerkleOfRound
namespace Go.Proofs.YtoopaeahhbkncaaDoor
open Go.RowKit Go.Shelf Go.Wire Go.Mk Go.Chunk
attribute [local go_sem] Oper.semAt_some
set_option maxHeartbeats 2000000 in
set_option maxRecDepth 100000 in
theorem of_any (s : ByteArray) (w : World) (hs : s.size ≤ 8192) (hst : Steps w) :
    Calls Tryd.prog 9 #[.string s] w fun e w' => ∃ v, e = .returned (.tuple #[.agg #[.int .i64 s.size, v], .int .i64 0]) ∧ w'.ownsRow w.heap.size 9 1 v (texts s).length ((texts s).map fun x => Value.string (digest x)) ∧ Below w.heap.size w w' := by
  obtain ⟨i9, hi9, hz0, hz1, hz2⟩ := info_parts ciInfo9
  have htl := texts_length s
  have hs' : (s.size : Int) ≤ 8192 := by omega
  refine (callsIn_wide (n := 9)).1 ?_
  refine callsIn_of_wp_marks Tryd.func9 rfl trivial ?_ rfl
  simp only [Tryd.ntmps9, List.size_toArray, List.length_cons, List.length_nil, Nat.reduceAdd, Nat.reduceSub, Array.replicate_succ, Array.replicate_zero, List.push_toArray, List.append_toArray, List.nil_append, List.cons_append]
  gi_wp2_with (first
    | (refine ⟨trivial, ?_⟩; gi_at_call 37; refine (callsIn_wide.2 (all_any s _)).mono ?_; rintro e w1 ⟨rfl, rfl⟩))
  have c3 := (Boxed.new ((w.alloc (.cells #[.int .i64 0, .slice none 0 0] 26)).alloc (.cells #[.int .i64 s.size, .slice none 0 0] 26)) 9 (.string s)).cell
  simp only [World.size_alloc] at c3
  have G0 : Ms w s.size [] (((w.alloc (.cells #[.int .i64 0, .slice none 0 0] 26)).alloc (.cells #[.int .i64 s.size, .slice none 0 0] 26)).alloc (.cells #[.string s] 9)) := by
    have r0 : (w.alloc (.cells #[.int .i64 0, .slice none 0 0] 26)).heap[w.heap.size]? = some (.cells #[.int .i64 0, .slice none 0 0] 26 (0, 0)) := heap_alloc_new _ _
    have r1 : ((w.alloc (.cells #[.int .i64 0, .slice none 0 0] 26)).alloc (.cells #[.int .i64 s.size, .slice none 0 0] 26)).heap[w.heap.size + 1]? = some (.cells #[.int .i64 s.size, .slice none 0 0] 26 (0, 0)) := by
      have := heap_alloc_new (w.alloc (.cells #[.int .i64 0, .slice none 0 0] 26)) (.cells #[.int .i64 s.size, .slice none 0 0] 26)
      rwa [World.size_alloc] at this
    exact ⟨row_kept (row_kept r0 (World.grownBy_alloc _ _ none) (by simp)) (World.grownBy_alloc _ _ none) (by simp), ⟨_, row_kept r1 (World.grownBy_alloc _ _ none) (by simp), World.ownsRow_nil _ _ _ _⟩, (((Below.refl _ w).alloc (Nat.le_refl _) _).alloc (by simp) _).alloc (by simp; omega) _⟩
  have HST := hide hst
  clear hst
  refine wpIn_rangeFunc_ownF rfl (by decide) (gf := 65) (lb := #[.pointer (some ⟨w.heap.size + 1 + 1, 0, none⟩)]) rfl trivial (enters_of Tryd.func65 (by kernel_rfl) rfl)
    (all_ins s (w.heap.size + 1 + 1) 8 _ hs c3) (fun _ _ => trivial) (fun _ _ _ _ _ _ _ _ => trivial) (Below.refl _ _) (fun _ => rfl)
    (fun (pre : List Short) W => Ms w s.size (strs pre) W)
    (fun c pre W => False)
    (fun p A B row hs hg hr => hs.turned hg hr (by simp; omega))
    (fun c s A B row hs hg hr => hs)
    G0
    (fun x => { tmps := #[.string s, undef, .pointer (some ⟨w.heap.size, 0, none⟩), .int .i64 0, .pointer (some ⟨w.heap.size + 1, 0, none⟩), .string x.1, .string s, .int .i64 s.size, .bool (decide (8192 < (s.size : Int))), undef, .string s, .int .i64 s.size, .agg #[.int .i64 s.size, .slice none 0 0], .string s, .func (.func 65) #[] #[.pointer (some ⟨w.heap.size + 1 + 1, 0, none⟩)], .string x.1, undef, undef, undef, undef, undef, undef, undef, undef], defers := [] }) ?assign ?body ?done ?stop
  case assign =>
    intro l x W K hK
    gi_wp2
    simpa using hK
  case body =>
    rintro l pre x W hM hlen
    obtain ⟨v, hv, hrow⟩ := hM.box
    have hpl : (strs pre).length = pre.length := List.length_map _
    have HR0 := hide hrow
    rw [hpl] at hrow
    have q0 : W.cell? ⟨w.heap.size + 1, 1, none⟩ = some v := by rw [cell_of_row _ _ _ _ _ _ hv]; rfl
    obtain ⟨va, vc, rfl⟩ := own_slice hrow
    have HD := hide (fun (U : World) (h : Below W.heap.size W U) => (digest_any x.1 U (by have := x.2; omega) ((HST.out.kept hM.below).kept h)).mono fun e w' (he : e = .returned (.string (digest x.1)) ∧ Below U.heap.size U w') => (And.intro he.1 (h.trans (he.2.mono h.size)) : e = .returned (.string (digest x.1)) ∧ Below W.heap.size W w'))
    have HM := hide hM
    have HV := hide hv
    clear hM hrow hv
    have hmix : Tryd.prog.follows .mixedOrders = true := by kernel_rfl
    gi_wp2_with fail
    refine wpIn_region_any hmix ?_
    refine of_round s w W l _ pre x va vc hpl (by omega) _ _ _ _ _ _ _ _ _ _ _ _ _ _ _ _ _ _ _ _ _ _ _ _ _ _ rfl rfl rfl rfl rfl rfl rfl rfl (by kernel_rfl) (by kernel_rfl) (by kernel_rfl) (by kernel_rfl) (by kernel_rfl) (by kernel_rfl) (by kernel_rfl) (by kernel_rfl) (by kernel_rfl) (by kernel_rfl) (by kernel_rfl) (by kernel_rfl) (by kernel_rfl) (by kernel_rfl) (by kernel_rfl) HD HM HV HR0 q0 ?_
    intro a w3 g cap hB
    refine ⟨hB.2, trivial, ?_⟩
    show Ms w s.size (strs (pre ++ [x])) _
    have e : strs (pre ++ [x]) = strs pre ++ [x.1] := by unfold strs; rw [List.map_append]; rfl
    rw [e]
    exact hB.1
  case done =>
    rintro D ys W hD hys (hM : Ms w s.size (strs ys) W) hK
    have hyl : strs ys = texts s := hys
    rw [hyl] at hM
    obtain ⟨v, hv, hrow⟩ := hM.box
    obtain ⟨va, vc, rfl⟩ := own_slice hrow
    have c0 : W.cell? ⟨w.heap.size + 1, 0, none⟩ = some (.int .i64 s.size) := by rw [cell_of_row _ _ _ _ _ _ hv]; rfl
    have c1 : W.cell? ⟨w.heap.size + 1, 1, none⟩ = some (.slice va (texts s).length vc) := by rw [cell_of_row _ _ _ _ _ _ hv]; rfl
    have d0 : W.cell? ⟨w.heap.size, 0, none⟩ = some (.int .i64 0) := by rw [cell_of_row _ _ _ _ _ _ hM.res]; rfl
    have f0 := frozen_of_row _ _ 0 _ _ hM.res
    have hs1 : (W.setCell ⟨w.heap.size, 0, none⟩ (.int .i64 s.size)).heap[w.heap.size]? = some (.cells #[.int .i64 s.size, .slice none 0 0] 26 (0, 0)) := by rw [heap_setCell_same _ _ _ _ _ _ hM.res]; rfl
    have d1 : (W.setCell ⟨w.heap.size, 0, none⟩ (.int .i64 s.size)).cell? ⟨w.heap.size, 1, none⟩ = some (.slice none 0 0) := by rw [cell_of_row _ _ _ _ _ _ hs1]; rfl
    have f1 := frozen_of_row _ _ 1 _ _ hs1
    have hs2 : ((W.setCell ⟨w.heap.size, 0, none⟩ (.int .i64 s.size)).setCell ⟨w.heap.size, 1, none⟩ (.slice va (texts s).length vc)).heap[w.heap.size]? = some (.cells #[.int .i64 s.size, .slice va (texts s).length vc] 26 (0, 0)) := by rw [heap_setCell_same _ _ _ _ _ _ hs1]; rfl
    have hK' := (KeepsOthers.setCell _ ⟨w.heap.size, 1, none⟩ (.slice va (texts s).length vc)).same D _ ((KeepsOthers.setCell W ⟨w.heap.size, 0, none⟩ (.int .i64 s.size)).same D _ hK rfl) rfl
    have hR2 := (hrow.kept (grown_set W w.heap.size 0 (.int .i64 s.size)) (.inr (row_not hM.res (by decide) hrow).symm))
    have hR3 := (hR2.kept (grown_set _ w.heap.size 1 (.slice va (texts s).length vc)) (.inr (row_not hs1 (by decide) hR2).symm))
    have hB2 : Below w.heap.size w ((W.setCell ⟨w.heap.size, 0, none⟩ (.int .i64 s.size)).setCell ⟨w.heap.size, 1, none⟩ (.slice va (texts s).length vc)) := (hM.below.setCell (p := ⟨w.heap.size, 0, none⟩) (Nat.le_refl _) _).setCell (p := ⟨w.heap.size, 1, none⟩) (Nat.le_refl _) _
    have HH := hide (And.intro hs2 (And.intro hK' (And.intro hR3 hB2)))
    clear hM hrow hv hs1 hs2 hK' hR2 hR3 hB2 G0 c3
    gi_wp2
    generalize (W.setCell ⟨w.heap.size, 0, none⟩ (.int .i64 s.size)).setCell ⟨w.heap.size, 1, none⟩ (.slice va (texts s).length vc) = W2 at *
    refine ⟨by simp, .inl ⟨_, _, rfl, run_takeDeferred HH.out.2.1, ?_⟩⟩
    have hg := grownBy_putObj' W2 D (.deferred none)
    have hrd : ∀ r, some D = some r → ∃ o : Obj, W2.heap[r]? = some o ∧ o.isCells = false := fun r e => by cases e; exact ⟨_, HH.out.2.1, rfl⟩
    refine ⟨_, results_cell2_row Tryd.results9 _ _ w.heap.size _ _ (0, 0) _ rfl (row_kept HH.out.1 hg (row_other HH.out.1 hrd)) Tryd.underlying26 rfl infoMan, _, rfl, own_other HH.out.2.2.1 hg hrd, HH.out.2.2.2.grown hg HH.out.2.2.2.size fun k e => ?_⟩
    cases e
    refine Nat.le_trans ?_ hD
    simp; omega
  case stop => rintro D c pre W hD hpre h hK; exact h.elim
end Go.Proofs.YtoopaeahhbkncaaDoor
