/- Contract: whether a share shows its chunk, or why not. -/
import Derived.Test.YtoopaeahhbkncaaDoorMerkleProve
namespace Go.Proofs.YtoopaeahhbkncaaDoor
open Go.RowKit Go.Mk Go.Chunk
attribute [local go_sem] Oper.semAt_some
theorem verify_ok (x : Sh) (pv : Value) (w : World) (hC : x.Claims) (hP : x.Proves) (hr : StrRow.Reads w pv x.pa) (hst : Steps w) :
    Calls Tryd.prog 24 #[x.v pv] w fun e w' => e = .returned (.int .i64 0) ∧ Below w.heap.size w w' := by
  have H1 := hide (fun (w' : World) (h : Below w.heap.size w w') => why_yes x pv w' hC hP (hr.below h (Nat.le_refl _)) (hst.kept h))
  obtain ⟨dg, sz, mn, at_, ck, pa⟩ := x
  dsimp only [Sh.v] at H1 ⊢
  clear hC hP hr hst
  go_enter Tryd.func24, Tryd.ntmps24
  go_upto_region 1 with fail
  have I := hide (Bx.new w #[.string dg, .int .i64 sz, .int .i64 mn, .int .i64 at_, .string ck, pv] 45)
  generalize w.alloc (.cells #[.string dg, .int .i64 sz, .int .i64 mn, .int .i64 at_, .string ck, pv] 45) = W at *
  go_wp2_with (first
    | (refine wpList_load_row rfl 45 _ rfl _ rfl _ _ _ _ I.out.row Tryd.underlying45 rfl infoShare ?_)
    | (go_at_call 54; refine (H1.out _ I.out.below).mono ?_; rintro e w2 ⟨rfl, hb⟩; replace I := hide (I.out.step hb); clear hb))
  go_ret
  exact ⟨rfl, I.out.below⟩
theorem verify_un (x : Sh) (pv : Value) (w : World) (t : TypeId) (ht : t ∈ [125, 129, 132, 136]) (H1 : Hid (∀ w', Below w.heap.size w w' → Calls Tryd.prog 54 #[x.v pv] w' fun e w'' => Unshown w' t e w'')) :
    Calls Tryd.prog 24 #[x.v pv] w fun e w' => e = .returned (.int .i64 (kindOf t)) ∧ Below w.heap.size w w' := by
  obtain ⟨dg, sz, mn, at_, ck, pa⟩ := x
  dsimp only [Sh.v] at H1 ⊢
  have hk : kindOf t = 1 ∨ kindOf t = 90 := by unfold kindOf; split; exact .inl rfl; exact .inr rfl
  have HT := hide (fun u at_ v w h => isErr_any u at_ t ht v 1 w h)
  have hn := fun (w : World) (v : Value) => run_eql_iface_nil_right (P := Tryd.prog) w 104 v Tryd.underlying79
  clear ht
  generalize kindOf t = K at *
  rcases hk with rfl | rfl
  all_goals
    go_enter Tryd.func24, Tryd.ntmps24
    go_upto_region 1 with fail
    have I := hide (Bx.new w #[.string dg, .int .i64 sz, .int .i64 mn, .int .i64 at_, .string ck, pv] 45)
    generalize w.alloc (.cells #[.string dg, .int .i64 sz, .int .i64 mn, .int .i64 at_, .string ck, pv] 45) = W at *
    go_wp2_with (first
      | (refine wpList_load_row rfl 45 _ rfl _ rfl _ _ _ _ I.out.row Tryd.underlying45 rfl infoShare ?_)
      | (go_at_call 54; refine (H1.out _ I.out.below).mono ?_; rintro e w2 ⟨u, at2, v, rfl, hrow, hb⟩; replace I := hide (I.out.step hb); clear hb; have HRW := hide hrow; clear hrow)
      | (go_at_call 55; refine (HT.out _ _ _ _ HRW.out).mono ?_; rintro e w3 ⟨rfl, hb⟩; replace I := hide (I.out.step hb); clear hb))
    go_ret
    exact ⟨rfl, I.out.below⟩
/-- Verify is the verdict. -/
theorem verify_any (x : Sh) (pv : Value) (w : World) (hr : StrRow.Reads w pv x.pa) (hst : Steps w) :
    Calls Tryd.prog 24 #[x.v pv] w fun e w' => e = .returned (.int .i64 x.verdict) ∧ Below w.heap.size w w' := by
  unfold Sh.verdict
  by_cases hC : x.Claims
  · rw [if_pos hC]
    by_cases hP : x.Proves
    · rw [if_pos hP]
      exact verify_ok x pv w hC hP hr hst
    · rw [if_neg hP]
      by_cases p1 : x.pa.length = way x.at_.toNat x.mn.toNat
      · by_cases p2 : ∀ h ∈ x.pa, h.size = 32
        · exact verify_un x pv w 136 (by simp) (hide fun w' hb => why_proof x pv w' _ hC (hide fun w'' hb' => proved_unlike x pv w'' hC p1 p2 (fun p3 => hP ⟨p1, p2, p3⟩) ((hr.below hb (Nat.le_refl _)).below hb' (Nat.le_refl _)) ((hst.kept hb).kept hb')))
        · exact verify_un x pv w 132 (by simp) (hide fun w' hb => why_proof x pv w' _ hC (hide fun w'' hb' => proved_stump x pv w'' hC p1 p2 ((hr.below hb (Nat.le_refl _)).below hb' (Nat.le_refl _)) ((hst.kept hb).kept hb')))
      · exact verify_un x pv w 129 (by simp) (hide fun w' hb => why_proof x pv w' _ hC (hide fun w'' hb' => proved_len x pv w'' hC p1 ((hr.below hb (Nat.le_refl _)).below hb' (Nat.le_refl _)) ((hst.kept hb).kept hb')))
  · rw [if_neg hC]
    exact verify_un x pv w 125 (by simp) (hide fun w' _ => why_claim x pv w' hC)
end Go.Proofs.YtoopaeahhbkncaaDoor
