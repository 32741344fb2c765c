/- Proved: for all two nodes and every number the law NodeSigns answers true, where what it reads is of bulk at most 1048576: a node is signed by who holds its author's key, and good to who holds it. No other condition but the row's own: the listed table arbour/sha.steps holds what the program's text lays in it. -/
import Derived.Test.YtcdmdpafkiljdaaDoorSignsThree
import Derived.Test.YtcdmdpafkiljdaaDoorBulkAll
import Derived.Test.YtcdmdpafkiljdaaDoorOpenAll
import Derived.Test.YtcdmdpafkiljdaaDoorTie
import Derived.Test.YtcdmdpafkiljdaaDoorCards
import Derived.SevenTiedAt
import Derived.Deep.DeepHandedRow
import Derived.Deep.DeepWitnessRowRef
namespace Go.Proofs.YtcdmdpafkiljdaaDoor.NodeSignsUpto
open Go Go.ChangeShapes Go.WideShapes Go.ChangeAt Go.RowKit
open Go.ChangeMaps (open_string shut_string)
theorem laidOut : laidOutB Tryd.prog = true := by kernel_rfl
/-- A node of nothing. -/
def zero : Value := .agg #[.int .i64 0, .slice none 0 0, .int .i64 0, .int .u64 0, .int .i64 0, .int .u64 0, .int .u64 0, .string ByteArray.empty, .bool false, .string ByteArray.empty, .int .i64 0, .string ByteArray.empty]
def zeroW (H : Type) : DataW H := .agg [.lit (.int .i64 0), .nil, .agg [.lit (.int .i64 0), .agg [.lit (.int .u64 0), .lit (.int .i64 0)], .lit (.int .u64 0), .lit (.int .u64 0), .lit (.string []), .lit (.bool false), .lit (.string []), .lit (.int .i64 0)], .lit (.string [])]
set_option maxRecDepth 100000 in
theorem reads (os : Os) {H : Type} (enc : TypeId × Value → H) : DataW.whole enc Tryd.prog ((World.doorLaid Tryd.prog 14 os).forCall (fun _ _ => 0) ⟨#[], #[zero, zero, .int .i64 0], []⟩).memory Tryd.f3.params.toList Rows.nodeSignsSpec.vars false #[zero, zero, .int .i64 0].toList 8 = some ([zeroW H, zeroW H, .lit (.int .i64 0)], [], []) := by kernel_rfl
theorem met (os : Os) : laidMetH Tryd.prog Rows.nodeSignsUptoRow.laid ((World.doorLaid Tryd.prog 14 os).forCall (fun _ _ => 0) ⟨#[], #[zero, zero, .int .i64 0], []⟩).memory := door_met os _
set_option maxRecDepth 100000 in
theorem lifted (os : Os) (started : os.Started) (H : Type) (enc : TypeId × Value → H) (F : Stop.Interp) :
    ReturnsInHanded {} Tryd.checked os 3 .any ((Rows.OpenSpec.upto Rows.nodeSignsSpec).preRow enc Tryd.prog Tryd.f3 Rows.nodeSignsUptoRow.domain false Rows.nodeSignsUptoRow.laid)
      (((Rows.OpenSpec.upto Rows.nodeSignsSpec).at F).post enc Tryd.prog Tryd.f3 false true false false) := by
  refine returnsInHanded_of_row (C := Tryd.checked) (s := Rows.OpenSpec.upto Rows.nodeSignsSpec) own started (by kernel_rfl) Tryd.func3
    (witness_row_atRef (enc := enc) (C := Tryd.checked) false (World.doorLaid Tryd.prog 14 os) #[zero, zero, .int .i64 0] rfl (by kernel_rfl) (by kernel_rfl) (by kernel_rfl)
      (OpenSpec.preRow_of_cond 8 (reads os enc) (by kernel_rfl) (fun k hk => by cases hk; kernel_rfl) (by kernel_rfl) (met os))) ?_
  intro W base args ds gs before hval0 hW0 _ hcond _ hL _ _
  have hval : ∀ (j : Nat) t v, Tryd.f3.params[j]? = some t → args[j]? = some v → Value.okWide Tryd.prog W .any base t v := hval0
  have hW : DataW.Whole enc Tryd.prog Tryd.f3.params.toList Rows.nodeSignsSpec.vars false W args.toList ds gs before := hW0
  have hW' := hW
  have hk : Rows.uptoBulkAll (ds ++ gs) ≤ 1048576 := of_decide_eq_true (hcond _ rfl)
  obtain ⟨p, q, hA0, hV, rfl, hfz, hnd⟩ := hW
  have hA : DataW.TrodAll enc Tryd.prog W 0 (fun _ => true) true Tryd.f3.params.toList args.toList ds p := hA0
  rw [Tryd.params3] at hA hval
  obtain ⟨v0, vs0, d0, ds0, p0, q0, hargs, rfl, rfl, h0, r0⟩ := trodAll_cons hA
  obtain ⟨v1, vs1, d1, ds1, p1, q1, rfl, rfl, rfl, h1, r1⟩ := trodAll_cons r0
  obtain ⟨v2, vs2, d2, ds2, p2, q2, rfl, rfl, rfl, h2, r2⟩ := trodAll_cons r1
  obtain ⟨rfl, rfl, rfl⟩ := trodAll_nil r2
  obtain rfl : args = #[v0, v1, v2] := by cases args; simp_all
  obtain ⟨rfl, rfl⟩ := trodVars_none hV
  have hlt0 : ∀ x ∈ p0, x.block < W.heap.size := fun x hx => hW'.lt x (by simp [hx])
  have hlt1 : ∀ x ∈ p1, x.block < W.heap.size := fun x hx => hW'.lt x (by simp [hx])
  have hlt2 : ∀ x ∈ p2, x.block < W.heap.size := fun x hx => hW'.lt x (by simp [hx])
  have hk0 := bulk_all (l := [d0, d1, d2] ++ []) (d := d0) (by simp)
  obtain ⟨a0, b0, rfl, w0, m0, z0, f0, u0, g0, k0⟩ := open_node_bulk (hval 0 29 v0 rfl rfl) h0
  obtain ⟨a1, b1, rfl, w1, m1, z1, f1, u1⟩ := open_node (hval 1 29 v1 rfl rfl) h1
  obtain ⟨a2, rfl, rfl, rfl, _⟩ := open_int Tryd.underlying3 (hval 2 3 v2 rfl rfl) h2
  clear hA0 hval0 hW0
  simp only [List.append_nil] at hW'
  refine (nodeSigns_any a0 b0 a1 b1 a2 W w0 m0 z0 f0 u0 w1 m1 z1 f1 u1 (by omega) (by omega) (of_laid hL)).mono fun e W' ⟨he, hb⟩ => ?_
  subst he
  exact ⟨_, rfl, _, _, _, [], _, [], hW', trodAll_mk1 (shut_bool Tryd.underlying4 _), (trodAll_cons_mk (Below.trod laidOut (by kernel_rfl) (of_decide_eq_true (by kernel_rfl)) h0 hb hlt0) (trodAll_cons_mk (Below.trod laidOut (by kernel_rfl) (of_decide_eq_true (by kernel_rfl)) h1 hb hlt1) (trodAll_cons_mk (Below.trod laidOut (by kernel_rfl) (of_decide_eq_true (by kernel_rfl)) h2 hb hlt2) trodAll_mk0))), rfl, hb.frame _, fun h => by cases h⟩
theorem row_holds : Rows.NodeSignsUptoSaid :=
  OpenClaim.holds_of_cond 3 Tryd.f3 rfl rfl rfl rfl rfl rfl rfl ⟨rfl, rfl, rfl, rfl, rfl⟩ rfl rfl rfl rfl rfl (by kernel_rfl) Tryd.func3 (by kernel_rfl)
    (of_decide_eq_true (by kernel_rfl)) (by unfold Func.isWrapper; first | (rw [if_pos (by decide +kernel)]; kernel_rfl) | (rw [if_neg (by decide +kernel)]; exact ⟨rfl, rfl⟩))
    (fun os started H enc _ F => by rw [OpenClaim.pre_eq_preRow]; exact lifted os started H enc F)
end Go.Proofs.YtcdmdpafkiljdaaDoor.NodeSignsUpto
namespace Go.Proofs.YtcdmdpafkiljdaaDoor
open Go
theorem nodeSignsUpto_holds : Rows.NodeSignsUptoCardSaid :=
  Claim7.holds_tied_plain_at .later [] [.data] true (true, "3da5bfe18e3e2e894cddc3015f8604d54203500fe813fb8b7b503ac6f5ad7642") false
    NodeSignsUpto.row_holds (fun _ h => by cases h) (by kernel_rfl) (fun _ h => by cases h) nodeSignsUpto_row_tie rfl ⟨rfl, rfl⟩ (by kernel_rfl) rfl
    (fun f fn hf hfn => by
      obtain rfl : f = 3 := Option.some.inj ((show Tryd.prog.funcNamed "arbour/arbourlaw11.NodeSigns" = some 3 by kernel_rfl).symm.trans hf) |>.symm
      obtain rfl : fn = Tryd.f3 := (Option.some.inj (Tryd.func3.symm.trans hfn)).symm
      exact ⟨by kernel_rfl, fun j t ht => by
        rw [Tryd.params3] at ht
        have hm : t ∈ [29, 29, 3] := by simpa using Array.mem_of_getElem? ht
        have hall : ([29, 29, 3].all fun u => !Tryd.prog.wantsStandIn u) = true := by kernel_rfl
        exact (show Tryd.prog.wantsStandIn t = false by simpa using List.all_eq_true.1 hall t hm)⟩)
    (by kernel_rfl)
#print axioms nodeSignsUpto_holds
end Go.Proofs.YtcdmdpafkiljdaaDoor
