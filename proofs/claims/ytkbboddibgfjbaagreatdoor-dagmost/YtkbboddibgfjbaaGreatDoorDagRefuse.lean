/- Contract: why a node that comes is not taken now. -/
import Derived.Test.YtkbboddibgfjbaaGreatDoorDagCount
import Derived.Test.YtkbboddibgfjbaaGreatDoorNodeOne
namespace Go.Proofs.YtkbboddibgfjbaaGreatDoor
open Go.RowKit Go.Sort Go.Nod Go.MapFun Go.Dag
attribute [local go_sem] Oper.semAt_some
set_option maxRecDepth 100000 in
set_option maxHeartbeats 4000000 in
theorem refuses_any {base : Nat} {F : Fp} {ks : List ByteArray} {sl : ByteArray → Sl} {d : Dg} (h : ByteArray) (n : Nd) (pv : Value) (w : World) (hD : DagAt Tryz.prog 75 base F ks sl d w) (hR : StrRow.Reads w pv n.ps) (hg : n.Good) (hs : h.size = 32) (hK : d.waits.length ≤ 100000) :
    Calls Tryz.prog 55 #[.pointer (some ⟨F.b, 0, none⟩), .string h, n.v pv] w fun e w' => ∃ v, e = .returned v ∧ Er (d.refuses h n) v ∧ Below w.heap.size w w' := by
  have hsm : h.size ≤ maxLen := by unfold maxLen; omega
  obtain ⟨pa, pc, rfl⟩ := hR.form
  generalize n.ps.length = pn at *
  have I0 := hide (Bn.new w (n.cs (.slice pa pn pc)) 60)
  have HHas := hide (fun w' (k : Below w.heap.size w w') => hasDag_any h w' (hD.r.below k) hsm)
  have HWts := hide (fun w' (k : Below w.heap.size w w') => waitsDag_any h w' (hD.r.below k) hsm)
  have HUn := hide (fun w' (k : Below w.heap.size w w') => unfit_any n (.slice pa pn pc) w' (hD.r.below k) (hR.below k (Nat.le_refl _)) hg)
  have HWo := hide (fun w' (k : Below w.heap.size w w') => waitingOf_any n.au w' (hD.r.below k) hK)
  unfold Nd.v at HUn ⊢
  dsimp only [Dg.raw] at HHas HWts HUn HWo
  have HRf : Hid (d.refuses h n = if (lk d.taken h).isSome = true ∨ (lk d.waits h).isSome = true then 121 else if unfit d.taken n = 123 ∧ 8 ≤ ofAuthor d.waits n.au then 3 else unfit d.taken n) := rfl
  generalize d.refuses h n = RF at *
  clear hD hR
  cases hT : (lk d.taken h).isSome with
  | true =>
    rw [hT] at HHas HRf
    simp only [true_or, if_true] at HRf
    go_enter Tryz.func55, Tryz.ntmps55
    go_wp2_with (go_at_call 21; refine (HHas.out _ I0.out.below).mono ?_; rintro e w2 ⟨rfl, k2⟩; have I2 := hide (I0.out.step k2); clear k2)
    go_ret
    exact ⟨_, rfl, .inr (.inl ⟨by rw [HRf.out]; decide, by rw [HRf.out]; rfl⟩), I2.out.below⟩
  | false =>
    rw [hT] at HHas HRf
    cases hW : (lk d.waits h).isSome with
    | true =>
      rw [hW] at HWts HRf
      simp only [or_true, if_true] at HRf
      go_enter Tryz.func55, Tryz.ntmps55
      go_wp2_with (first
        | (go_at_call 21; refine (HHas.out _ I0.out.below).mono ?_; rintro e w2 ⟨rfl, k2⟩; have I2 := hide (I0.out.step k2); clear k2)
        | (go_at_call 48; refine (HWts.out _ I2.out.below).mono ?_; rintro e w3 ⟨rfl, k3⟩; have I3 := hide (I2.out.step k3); clear k3))
      go_ret
      exact ⟨_, rfl, .inr (.inl ⟨by rw [HRf.out]; decide, by rw [HRf.out]; rfl⟩), I3.out.below⟩
    | false =>
      rw [hW] at HWts HRf
      simp only [Bool.false_eq_true, or_self, if_false] at HRf
      by_cases hU : unfit d.taken n = 123
      · rw [hU] at HRf HUn
        simp only [true_and] at HRf
        have hau : ∀ w', Bn w w.heap.size (n.cs (.slice pa pn pc)) 60 w' → w'.cell? ⟨w.heap.size, 0, none⟩ = some (.int .i64 n.au) := fun w' i => (cells12 i.row).1
        have HAu := hide hau
        clear hau
        go_enter Tryz.func55, Tryz.ntmps55
        go_upto_region 4 with (first
          | (go_at_call 21; refine (HHas.out _ I0.out.below).mono ?_; rintro e w2 ⟨rfl, k2⟩; have I2 := hide (I0.out.step k2); clear k2)
          | (go_at_call 48; refine (HWts.out _ I2.out.below).mono ?_; rintro e w3 ⟨rfl, k3⟩; have I3 := hide (I2.out.step k3); clear k3)
          | (refine wpList_load_row rfl 60 _ rfl _ rfl _ _ _ _ I3.out.row Tryz.underlying60 rfl infoNd ?_)
          | (go_at_call 76; refine (HUn.out _ I3.out.below).mono ?_; rintro e w4 ⟨v, rfl, hw, k4⟩; have I4 := hide (I3.out.step k4); clear k4))
        have HEr := hide hw.er
        have HI := hide (isWait_any hw.er)
        clear hw HHas HWts HUn I0 I2 I3
        have c0 := HAu.out _ I4.out
        by_cases h8 : 8 ≤ ofAuthor d.waits n.au
        · rw [if_pos h8] at HRf
          have h8' : (8 : Int) ≤ (ofAuthor d.waits n.au : Nat) := by omega
          go_wp2_with (first
            | (go_at_call 56; refine (HI.out _).mono ?_; rintro e w5 ⟨rfl, hw5⟩; subst hw5)
            | (go_at_call 85; refine (HWo.out _ I4.out.below).mono ?_; rintro e w6 ⟨rfl, k6⟩; have I6 := hide (I4.out.step k6); clear k6))
          go_ret
          exact ⟨_, rfl, .inr (.inl ⟨by rw [HRf.out]; decide, by rw [HRf.out]; rfl⟩), I6.out.below⟩
        · rw [if_neg h8] at HRf
          have h8' : ¬ (8 : Int) ≤ (ofAuthor d.waits n.au : Nat) := by omega
          go_wp2_with (first
            | (go_at_call 56; refine (HI.out _).mono ?_; rintro e w5 ⟨rfl, hw5⟩; subst hw5)
            | (go_at_call 85; refine (HWo.out _ I4.out.below).mono ?_; rintro e w6 ⟨rfl, k6⟩; have I6 := hide (I4.out.step k6); clear k6))
          go_ret
          exact ⟨_, rfl, by rw [HRf.out]; exact HEr.out, I6.out.below⟩
      · rw [if_neg (fun e => hU e.1)] at HRf
        generalize unfit d.taken n = U at *
        go_enter Tryz.func55, Tryz.ntmps55
        go_upto_region 4 with (first
          | (go_at_call 21; refine (HHas.out _ I0.out.below).mono ?_; rintro e w2 ⟨rfl, k2⟩; have I2 := hide (I0.out.step k2); clear k2)
          | (go_at_call 48; refine (HWts.out _ I2.out.below).mono ?_; rintro e w3 ⟨rfl, k3⟩; have I3 := hide (I2.out.step k3); clear k3)
          | (refine wpList_load_row rfl 60 _ rfl _ rfl _ _ _ _ I3.out.row Tryz.underlying60 rfl infoNd ?_)
          | (go_at_call 76; refine (HUn.out _ I3.out.below).mono ?_; rintro e w4 ⟨v, rfl, hw, k4⟩; have I4 := hide (I3.out.step k4); clear k4))
        have HEr := hide hw.er
        have HI := hide (isWait_any hw.er)
        clear hw HHas HWts HUn I0 I2 I3
        rw [beq_eq_false_iff_ne.2 hU] at HI
        go_wp2_with (go_at_call 56; refine (HI.out _).mono ?_; rintro e w5 ⟨rfl, hw5⟩; subst hw5)
        go_ret
        exact ⟨_, rfl, by rw [HRf.out]; exact HEr.out, I4.out.below⟩
end Go.Proofs.YtkbboddibgfjbaaGreatDoor
