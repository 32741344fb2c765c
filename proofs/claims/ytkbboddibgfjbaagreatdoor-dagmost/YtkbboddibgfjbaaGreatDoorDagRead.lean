/- Contract: the node of bytes, if it is signed by who it says. -/
import Derived.Test.YtkbboddibgfjbaaGreatDoorDagShelf
import Derived.Test.YtkbboddibgfjbaaGreatDoorDagRefuse
import Derived.Test.YtkbboddibgfjbaaGreatDoorNodeTwo
namespace Go.Proofs.YtkbboddibgfjbaaGreatDoor
open Go.RowKit Go.Sort Go.Wire Go.Stamp Go.Opn Go.Nod Go.MapFun Go.Dag Go.Shelf
attribute [local go_sem] Oper.semAt_some
theorem clone12_any (s : ByteArray) (w : World) (hs : s.size ≤ 281474976710656) :
    Calls Tryz.prog 83 #[.string s] w fun e w' => e = .returned (.string s) ∧ Below w.heap.size w w' := by
  have H := hide (Any.stringslite_Clone cloneL s w hs)
  go_enter Tryz.func83, Tryz.ntmps83
  go_wp2_with (go_at_call 132; refine H.out.mono ?_; rintro e w1 ⟨rfl, hb⟩; have HB := hide hb; clear hb)
  go_ret
  exact ⟨rfl, HB.out⟩
/-- What reading bytes comes to: an error's number, or 0 and the node. -/
def rdE (ks : List ByteArray) (s : ByteArray) : Int := if decE s ≠ 0 then decE s else if (decN s).right ks = false then 120 else 0
def rdN (ks : List ByteArray) (s : ByteArray) : Nd := if rdE ks s = 0 then decN s else Nd.zero
theorem decN_good {s : ByteArray} (h : decE s = 0) : (decN s).Good := by
  have e : decN s = raw ⟨s, 0, 0⟩ := by unfold decN; rw [if_pos h]
  have h2 : (raw ⟨s, 0, 0⟩).chk = 0 := by
    unfold decE at h
    split at h
    · exact h
    · rename_i h1; exact absurd h h1
  rw [e]
  exact Nd.chk_zero h2
set_option maxRecDepth 100000 in
set_option maxHeartbeats 4000000 in
theorem readDag_any {base : Nat} {F : Fp} {ks : List ByteArray} {sl : ByteArray → Sl} {r : Rw} (s : ByteArray) (w : World) (hD : DagR Tryz.prog 75 base F ks sl r w) (hks : ∀ k ∈ ks, k.size ≤ 1000000) (hs : s.size ≤ 281474976710656) (hst : Steps w) :
    Calls Tryz.prog 53 #[.pointer (some ⟨F.b, 0, none⟩), .string s] w fun e w' => ∃ pv v, e = .returned (.tuple #[(rdN ks s).v pv, v]) ∧ Er (rdE ks s) v ∧ w'.ownsRow w.heap.size 9 1 pv (rdN ks s).ps.length ((rdN ks s).ps.map Value.string) ∧ Below w.heap.size w w' := by
  have HC := hide (fun w => clone12_any s w hs)
  have HDe := hide (fun w => nodeDecode_own s w (by unfold maxLen; omega))
  have HG := hide (fun pv w' (k : Below w.heap.size w w') (h0 : decE s = 0) (hR : StrRow.Reads w' pv (decN s).ps) => nodeGood_ok (decN s) (.pointer (some ⟨F.b, 0, none⟩)) pv ks w' hR (hD.below k).ringAt hks (decN_good h0) (hst.below k hst.pos))
  have Z0 := heap_alloc_new w (.cells (Nd.zero.cs (.slice none 0 0)) 60)
  have K0 := (Below.refl w.heap.size w).alloc (Nat.le_refl _) (.cells (Nd.zero.cs (.slice none 0 0)) 60)
  have I0 := hide (Bn.mk Z0 K0)
  clear Z0 K0 hD
  by_cases h0 : decE s = 0
  · have HDe0 := hide h0
    rw [h0] at HDe
    have hE : rdE ks s = if (decN s).right ks = false then 120 else 0 := by unfold rdE; rw [if_neg (fun h => h h0)]
    have hN : rdN ks s = if (decN s).right ks = false then Nd.zero else decN s := by
      unfold rdN
      rw [hE]
      cases (decN s).right ks <;> rfl
    rw [hE, hN]
    generalize decN s = n at *
    clear hE hN
    cases hr : n.right ks with
    | true =>
      rw [hr] at HG
      rw [if_neg (by decide), if_neg (by decide)]
      replace HG := hide (fun pv w' (k : Below w.heap.size w w') => HG.out pv w' k h0)
      clear HDe0 h0
      unfold Nd.v at HDe HG
      go_enter Tryz.func53, Tryz.ntmps53
      go_upto_region 4 with (first
        | (go_at_call 83; refine (HC.out _).mono ?_; rintro e w1 ⟨rfl, k1⟩; have I1 := hide (I0.out.step k1); clear k1)
        | (go_at_call 82; refine (HDe.out _).mono ?_; rintro e w2 ⟨pv, rfl, h2, k2⟩; obtain ⟨pa, pc, hpv⟩ := own_slice h2; have I2 := hide (And.intro (I1.out.step k2) (nd_own_mono (base' := w.heap.size + 1) h2 (Array.getElem?_eq_some_iff.1 I1.out.row).1)); clear k2 h2; subst hpv))
      generalize n.ps.length = pn at *
      have k3 := (Below.refl w2.heap.size w2).alloc (Nat.le_refl _) (.cells (n.cs (.slice pa pn pc)) 60)
      have I3 := hide (And.intro (I2.out.1.step k3) (own_low I2.out.2 fun g hg => k3.block g (I2.out.2.lt g hg).2))
      have hrow := hide (heap_alloc_new w2 (.cells (n.cs (.slice pa pn pc)) 60))
      clear k3 I2 I1 I0 HC HDe
      generalize w2.alloc (.cells (n.cs (.slice pa pn pc)) 60) = w3 at *
      generalize w2.heap.size = g at *
      replace HG := hide (fun w' (k : Below w3.heap.size w3 w') => HG.out (.slice pa pn pc) w' (I3.out.1.below.trans (k.mono I3.out.1.below.size)) ((StrRow.Reads.of_own I3.out.2).below k (Nat.le_refl _)))
      refine QuietCalls.region (by kernel_rfl) (by kernel_rfl) ?_
      iterate 3 first | go_big_quiet_step (fail) | quiet_step (fail)
      refine QuietCalls.load rfl 60 _ rfl _ rfl _ _ _ _ hrow.out Tryz.underlying60 rfl infoNd ?_; simp only [Act.put, List.setIfInBounds_toArray, List.set_cons_succ, List.set_cons_zero]
      refine QuietCalls.call2 rfl rfl Tryz.call84 HG.out rfl rfl ?_; simp only [Act.put, List.setIfInBounds_toArray, List.set_cons_succ, List.set_cons_zero]
      first | go_big_quiet_step (fail) | quiet_step (fail)
      refine wpQuiet_nil ?_
      intro w4 k4
      have I4 := hide (And.intro (I3.out.1.step k4) (own_low I3.out.2 fun g hg => k4.block g (I3.out.2.lt g hg).2))
      have hrow4 := hide (kept_block hrow.out k4)
      clear k4 I3 hrow HG
      go_wp2_with (first
        | (refine wpList_load_row rfl 60 _ rfl _ rfl _ _ _ _ hrow4.out Tryz.underlying60 rfl infoNd ?_)
        | (refine wpList_store_row rfl 60 _ _ rfl _ _ rfl rfl 60 _ I4.out.1.row infoNd rfl (by simp [Value.oneCell']) ?_))
      have hpn : pn = n.ps.length := by simpa using I4.out.2.1.symm
      subst hpn
      exact bodyPost_ret (results_cell2_row Tryz.results53 _ _ _ _ _ (0, 0) _ rfl (setRow_heap _ _ _ _ _ _ I4.out.1.row) Tryz.underlying60 rfl infoNd) rfl ⟨.slice pa n.ps.length pc, _, rfl, .inl ⟨rfl, rfl⟩, nd_own_mono (nd_setRow I4.out.2 (Nat.lt_succ_self _) _) (Nat.le_succ _), below_setRow I4.out.1.below (Nat.le_refl _) _⟩
    | false =>
      rw [hr] at HG
      rw [if_pos rfl, if_pos rfl]
      replace HG := hide (fun pv w' (k : Below w.heap.size w w') => HG.out pv w' k h0)
      clear HDe0 h0
      unfold Nd.v at HDe HG
      go_enter Tryz.func53, Tryz.ntmps53
      go_upto_region 4 with (first
        | (go_at_call 83; refine (HC.out _).mono ?_; rintro e w1 ⟨rfl, k1⟩; have I1 := hide (I0.out.step k1); clear k1)
        | (go_at_call 82; refine (HDe.out _).mono ?_; rintro e w2 ⟨pv, rfl, h2, k2⟩; obtain ⟨pa, pc, hpv⟩ := own_slice h2; have I2 := hide (And.intro (I1.out.step k2) (nd_own_mono (base' := w.heap.size + 1) h2 (Array.getElem?_eq_some_iff.1 I1.out.row).1)); clear k2 h2; subst hpv))
      generalize n.ps.length = pn at *
      have k3 := (Below.refl w2.heap.size w2).alloc (Nat.le_refl _) (.cells (n.cs (.slice pa pn pc)) 60)
      have I3 := hide (And.intro (I2.out.1.step k3) (own_low I2.out.2 fun g hg => k3.block g (I2.out.2.lt g hg).2))
      have hrow := hide (heap_alloc_new w2 (.cells (n.cs (.slice pa pn pc)) 60))
      clear k3 I2 I1 I0 HC HDe
      generalize w2.alloc (.cells (n.cs (.slice pa pn pc)) 60) = w3 at *
      generalize w2.heap.size = g at *
      replace HG := hide (fun w' (k : Below w3.heap.size w3 w') => HG.out (.slice pa pn pc) w' (I3.out.1.below.trans (k.mono I3.out.1.below.size)) ((StrRow.Reads.of_own I3.out.2).below k (Nat.le_refl _)))
      refine QuietCalls.region (by kernel_rfl) (by kernel_rfl) ?_
      iterate 3 first | go_big_quiet_step (fail) | quiet_step (fail)
      refine QuietCalls.load rfl 60 _ rfl _ rfl _ _ _ _ hrow.out Tryz.underlying60 rfl infoNd ?_; simp only [Act.put, List.setIfInBounds_toArray, List.set_cons_succ, List.set_cons_zero]
      refine QuietCalls.call2 rfl rfl Tryz.call84 HG.out rfl rfl ?_; simp only [Act.put, List.setIfInBounds_toArray, List.set_cons_succ, List.set_cons_zero]
      first | go_big_quiet_step (fail) | quiet_step (fail)
      refine wpQuiet_nil ?_
      intro w4 k4
      have I4 := hide (And.intro (I3.out.1.step k4) (own_low I3.out.2 fun g hg => k4.block g (I3.out.2.lt g hg).2))
      have hrow4 := hide (kept_block hrow.out k4)
      clear k4 I3 hrow HG
      unfold Nd.zero Opn.Ob.zero at I4
      go_wp2_with (refine wpList_store_row rfl 60 _ _ rfl _ _ rfl rfl 60 _ I4.out.1.row infoNd rfl (by simp [Value.oneCell']) ?_)
      exact bodyPost_ret (results_cell2_row Tryz.results53 _ _ _ _ _ (0, 0) _ rfl (setRow_heap _ _ _ _ _ _ I4.out.1.row) Tryz.underlying60 rfl infoNd) rfl ⟨.slice none 0 0, _, rfl, .inr (.inl ⟨by decide, rfl⟩), ⟨rfl, .inl ⟨rfl, rfl⟩⟩, below_setRow I4.out.1.below (Nat.le_refl _) _⟩
  · have hE : rdE ks s = decE s := by unfold rdE; rw [if_pos h0]
    have hN : rdN ks s = Nd.zero := by unfold rdN; rw [hE, if_neg h0]
    have hN2 : decN s = Nd.zero := by unfold decN; rw [if_neg h0]
    rw [hE, hN]
    rw [hN2] at HDe
    generalize decE s = DE at *
    have hbn : (DE != 0) = true := bne_iff_ne.2 h0
    clear HG hE hN hN2
    unfold Nd.v Nd.zero Opn.Ob.zero at *
    dsimp only at *
    go_enter Tryz.func53, Tryz.ntmps53
    go_wp2_with (first
      | (go_at_call 83; refine (HC.out _).mono ?_; rintro e w1 ⟨rfl, k1⟩; have I1 := hide (I0.out.step k1); clear k1)
      | (go_at_call 82; refine (HDe.out _).mono ?_; rintro e w2 ⟨pv, rfl, h2, k2⟩; obtain ⟨pa, pc, rfl⟩ := own_slice h2; have I2 := hide (I1.out.step k2); clear k2 h2)
      | (refine wpList_store_row rfl 60 _ _ rfl _ _ rfl rfl 60 _ (I2.out.step ((Below.refl _ w2).alloc (Nat.le_refl _) _)).row infoNd rfl (by simp [Value.oneCell']) ?_))
    exact bodyPost_ret (results_cell2_row Tryz.results53 _ _ _ _ _ (0, 0) _ rfl (setRow_heap _ _ _ _ _ _ (I2.out.step ((Below.refl _ w2).alloc (Nat.le_refl _) _)).row) Tryz.underlying60 rfl infoNd) rfl ⟨.slice none 0 0, _, rfl, .inr (.inl ⟨h0, rfl⟩), ⟨rfl, .inl ⟨rfl, rfl⟩⟩, below_setRow (I2.out.step ((Below.refl _ w2).alloc (Nat.le_refl _) _)).below (Nat.le_refl _) _⟩
end Go.Proofs.YtkbboddibgfjbaaGreatDoor
