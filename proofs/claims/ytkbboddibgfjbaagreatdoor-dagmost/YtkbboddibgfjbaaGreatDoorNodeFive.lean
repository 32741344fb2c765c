/- Several texts in one: NodeRefTag. -/
import Derived.Test.YtkbboddibgfjbaaGreatDoorNodeRefs
import Derived.Test.YtkbboddibgfjbaaGreatDoorNodeThree
import Derived.Test.YtkbboddibgfjbaaGreatDoorMacTwo
/- Contracts: the right tag of a node, the document's. -/
namespace Go.Proofs.YtkbboddibgfjbaaGreatDoor
open Go.RowKit Go.Wire Go.Stamp Go.Opn Go.Nod
attribute [local go_sem] Oper.semAt_some
set_option maxRecDepth 100000 in
set_option maxHeartbeats 400000 in
theorem rkey_any (seed : ByteArray) (i : Nat) (w : World) (hs : seed.size ≤ 700) :
    Calls Tryz.prog 41 #[.string seed, .int .i64 i] w fun e w' => e = .returned (.string (Mac.keyOf seed i)) ∧ Below w.heap.size w w' := by
  have hwr : (i : Int) % 256 = ((UInt8.ofNat i).toNat : Int) := by simp
  have hcv := one_back' w (UInt8.ofNat i)
  rw [← hwr] at hcv
  clear hwr
  go_enter Tryz.func41, Tryz.ntmps41
  go_wp2_with fail
  refine (rtagged_key _ seed i _ (reads_two' w _ _ _ _) hs).mono ?_
  rintro e w1 ⟨rfl, hb⟩
  clear hcv
  go_wp2
  go_ret
  exact ⟨rfl, (((Below.refl _ w).alloc (Nat.le_refl _) _).alloc (by simp) _).trans (hb.mono (by simp; omega))⟩
set_option maxRecDepth 100000 in
set_option maxHeartbeats 1000000 in
theorem rnodeTag_any (seed : ByteArray) (n : Nd) (pv : Value) (w : World) (hs : seed.size ≤ 700) (hR : StrRow.Reads w pv n.ps) (hg : n.Sig) :
    Calls Tryz.prog 16 #[.string seed, n.v pv] w fun e w' => e = .returned (.string (tagOf (Mac.keyOf seed n.au.toNat) (tagD n.body))) ∧ Below w.heap.size w w' := by
  have h0 : ((n.au.toNat : Nat) : Int) = n.au := by have := hg.au; omega
  have HK : Hid (∀ w, Calls Tryz.prog 41 #[.string seed, .int .i64 n.au] w fun e w' => e = .returned (.string (Mac.keyOf seed n.au.toNat)) ∧ Below w.heap.size w w') := fun w => by
    have := rkey_any seed n.au.toNat w hs
    rwa [h0] at this
  have HH : Hid (∀ w', Below w.heap.size w w' → Calls Tryz.prog 27 #[n.v pv] w' fun e w2 => e = .returned (.string (tagD n.body)) ∧ Below w'.heap.size w' w2) := fun w' k => rnodeHash_any n pv w' (hR.below k (Nat.le_refl _)) hg
  have HT : Hid (∀ w, Calls Tryz.prog 40 #[.string (Mac.keyOf seed n.au.toNat), .string (tagD n.body)] w fun e w' => e = .returned (.string (tagOf (Mac.keyOf seed n.au.toNat) (tagD n.body))) ∧ Below w.heap.size w w') := fun w => rtag_any _ _ w (by rw [Mac.keyOf_size]; decide) (by rw [tagD_size]; decide)
  have HI := hide (Bn.new w (n.cs pv) 51)
  clear hR hg h0
  generalize tagOf (Mac.keyOf seed n.au.toNat) (tagD n.body) = TT at *
  generalize Mac.keyOf seed n.au.toNat = KK at *
  generalize tagD n.body = D at *
  obtain ⟨au, ps, ⟨kd, ⟨c, k⟩, th, p, nm, d, g, z⟩, tg⟩ := n
  unfold Nd.v Nd.cs at *
  dsimp only at *
  go_enter Tryz.func16, Tryz.ntmps16
  go_upto_region 1 with fail
  generalize w.alloc (.cells _ 51) = W at *
  have e0 := cell_regrown (cells12 (n := (Nd.mk au ps ⟨kd, ⟨c, k⟩, th, p, nm, d, g, z⟩ tg)) HI.out.row).1
  dsimp only at e0
  refine QuietCalls.region (by kernel_rfl) (by kernel_rfl) ?_
  iterate 3 (first | go_big_quiet_step (fail) | quiet_step (fail))
  refine QuietCalls.call2 rfl rfl Tryz.call41 (fun w _ => HK.out w) rfl rfl ?_; simp only [Act.put, List.setIfInBounds_toArray, List.set_cons_succ, List.set_cons_zero]
  refine QuietCalls.load rfl 51 _ rfl _ rfl _ _ _ _ HI.out.row Tryz.underlying51 rfl infoRNode ?_; simp only [Act.put, List.setIfInBounds_toArray, List.set_cons_succ, List.set_cons_zero]
  refine QuietCalls.call1 rfl rfl Tryz.call27 (fun w k => HH.out w (HI.out.step k).below) rfl ?_; simp only [Act.put, List.setIfInBounds_toArray, List.set_cons_succ, List.set_cons_zero]
  refine QuietCalls.call2 rfl rfl Tryz.call40 (fun w _ => HT.out w) rfl rfl ?_; simp only [Act.put, List.setIfInBounds_toArray, List.set_cons_succ, List.set_cons_zero]
  (first | go_big_quiet_step (fail) | quiet_step (fail))
  refine wpQuiet_nil ?_
  intro w2 k2
  go_wp2_with fail
  go_ret
  exact ⟨rfl, (HI.out.step k2).below⟩
end Go.Proofs.YtkbboddibgfjbaaGreatDoor
