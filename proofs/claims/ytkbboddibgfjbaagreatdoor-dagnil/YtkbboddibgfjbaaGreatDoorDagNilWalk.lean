/- Contracts: what a nil Dag answers; the walk of DagNil. -/
import Derived.Test.YtkbboddibgfjbaaGreatDoorDagAwake
namespace Go.Proofs.YtkbboddibgfjbaaGreatDoor
open Go.RowKit Go.Sort Go.Wire Go.Stamp Go.Opn Go.Nod Go.MapFun Go.Dag
attribute [local go_sem] Oper.semAt_some
theorem nilNew_any (w : World) : Calls Tryz.prog 8 #[.pointer none] w fun e w' => e = .returned (.tuple #[.pointer none, .int .i64 1]) ∧ w' = w := by
  go_enter Tryz.func8, Tryz.ntmps8
  go_wp2
  go_ret2
  exact ⟨rfl, rfl⟩
theorem nilAdd_any (s : ByteArray) (w : World) : Calls Tryz.prog 12 #[.pointer none, .string s] w fun e w' => e = .returned (.tuple #[.slice none 0 0, .int .i64 1]) ∧ w' = w := by
  go_enter Tryz.func12, Tryz.ntmps12
  go_wp2
  go_ret2
  exact ⟨rfl, rfl⟩
theorem nilHas_any (s : ByteArray) (w : World) : Calls Tryz.prog 21 #[.pointer none, .string s] w fun e w' => e = .returned (.bool false) ∧ w' = w := by
  go_enter Tryz.func21, Tryz.ntmps21
  go_wp2
  go_ret
  exact ⟨rfl, rfl⟩
theorem nilOrder_any (w : World) : Calls Tryz.prog 22 #[.pointer none] w fun e w' => e = .returned (.slice none 0 0) ∧ w' = w := by
  go_enter Tryz.func22, Tryz.ntmps22
  go_wp2
  go_ret
  exact ⟨rfl, rfl⟩
theorem nilLen_any (w : World) : Calls Tryz.prog 23 #[.pointer none] w fun e w' => e = .returned (.int .i64 0) ∧ w' = w := by
  go_enter Tryz.func23, Tryz.ntmps23
  go_wp2
  go_ret
  exact ⟨rfl, rfl⟩
theorem nilHeads_any (w : World) : Calls Tryz.prog 24 #[.pointer none] w fun e w' => e = .returned (.slice none 0 0) ∧ w' = w := by
  go_enter Tryz.func24, Tryz.ntmps24
  go_wp2
  go_ret
  exact ⟨rfl, rfl⟩
theorem nilWaits_any (w : World) : Calls Tryz.prog 18 #[.pointer none] w fun e w' => e = .returned (.int .i64 0) ∧ w' = w := by
  go_enter Tryz.func18, Tryz.ntmps18
  go_wp2
  go_ret
  exact ⟨rfl, rfl⟩
theorem nilMissing_any (w : World) : Calls Tryz.prog 25 #[.pointer none] w fun e w' => e = .returned (.slice none 0 0) ∧ w' = w := by
  go_enter Tryz.func25, Tryz.ntmps25
  go_wp2
  go_ret
  exact ⟨rfl, rfl⟩
theorem nilDrop_any (w : World) : Calls Tryz.prog 11 #[.pointer none] w fun e w' => e = .returned (.int .i64 0) ∧ w' = w := by
  go_enter Tryz.func11, Tryz.ntmps11
  go_wp2
  go_ret
  exact ⟨rfl, rfl⟩
theorem nilGreatest_any (w : World) : Calls Tryz.prog 26 #[.pointer none] w fun e w' => e = .returned (.int .u64 0) ∧ w' = w := by
  go_enter Tryz.func26, Tryz.ntmps26
  go_wp2
  go_ret
  exact ⟨rfl, rfl⟩
set_option maxRecDepth 100000 in
theorem nilGet_any (s : ByteArray) (w : World) : Calls Tryz.prog 20 #[.pointer none, .string s] w fun e w' => e = .returned (.tuple #[.agg (Nd.zero.cs (.slice none 0 0)), .bool false]) ∧ Below w.heap.size w w' := by
  have I0 := hide (Bn.new w (Nd.zero.cs (.slice none 0 0)) 60)
  unfold Nd.zero Ob.zero at I0 ⊢
  go_enter Tryz.func20, Tryz.ntmps20
  go_wp2_with (refine wpList_store_row rfl 60 _ _ rfl _ _ rfl rfl 60 _ I0.out.row infoNd rfl (by simp [Value.oneCell']) ?_)
  first
    | exact bodyPost_ret (results_cell2_row Tryz.results20 _ _ _ _ _ (0, 0) _ rfl (setRow_heap _ _ _ _ _ _ I0.out.row) Tryz.underlying60 rfl infoNd) rfl ⟨rfl, below_setRow I0.out.below (Nat.le_refl _) _⟩
    | exact bodyPost_ret (results_cell2_row Tryz.results20 _ _ _ _ _ (0, 0) _ rfl I0.out.row Tryz.underlying60 rfl infoNd) rfl ⟨rfl, I0.out.below⟩
set_option maxRecDepth 100000 in
set_option maxHeartbeats 4000000 in
theorem dagNil_any (s : ByteArray) (w : World) (hst : Steps w) (het : Ety w) :
    Calls Tryz.prog 5 #[.string s] w fun e w' => e = .returned (.bool true) ∧ Below w.heap.size w w' := by
  have HA := hide (fun w' (k : Below w.heap.size w w') => awake12_any w' (hst.below k hst.pos) (het.below k het.pos))
  have HGt := hide (nilGet_any s w)
  unfold Nd.zero Ob.zero at HGt
  clear hst het
  go_enter Tryz.func5, Tryz.ntmps5
  go_wp2_with (first
    | (go_at_call 8; refine (nilNew_any _).mono ?_; rintro e w1 ⟨rfl, h⟩; subst h)
    | (go_at_call 12; refine (nilAdd_any s _).mono ?_; rintro e w2 ⟨rfl, h⟩; subst h)
    | (go_at_call 20; refine HGt.out.mono ?_; rintro e w3 ⟨rfl, k3⟩; have H3 := hide (k3.alloc k3.size (.cells #[.int .i64 0, .slice none 0 0, .int .i64 0, .int .u64 0, .int .i64 0, .int .u64 0, .int .u64 0, .string ⟨#[]⟩, .bool false, .string ⟨#[]⟩, .int .i64 0, .string ⟨#[]⟩] 60)); clear k3)
    | (go_at_call 10; refine (HA.out _ H3.out).mono ?_; rintro e w4 ⟨rfl, k4⟩; have H4 := hide (H3.out.trans (k4.mono H3.out.size)); clear k4)
    | (go_at_call 21; refine (nilHas_any s _).mono ?_; rintro e w5 ⟨rfl, h⟩; subst h)
    | (go_at_call 22; refine (nilOrder_any _).mono ?_; rintro e w6 ⟨rfl, h⟩; subst h)
    | (go_at_call 23; refine (nilLen_any _).mono ?_; rintro e w7 ⟨rfl, h⟩; subst h)
    | (go_at_call 24; refine (nilHeads_any _).mono ?_; rintro e w8 ⟨rfl, h⟩; subst h)
    | (go_at_call 18; refine (nilWaits_any _).mono ?_; rintro e w9 ⟨rfl, h⟩; subst h)
    | (go_at_call 25; refine (nilMissing_any _).mono ?_; rintro e w10 ⟨rfl, h⟩; subst h)
    | (go_at_call 11; refine (nilDrop_any _).mono ?_; rintro e w11 ⟨rfl, h⟩; subst h)
    | (go_at_call 26; refine (nilGreatest_any _).mono ?_; rintro e w12 ⟨rfl, h⟩; subst h))
  go_ret
  exact ⟨rfl, H4.out⟩
end Go.Proofs.YtkbboddibgfjbaaGreatDoor
