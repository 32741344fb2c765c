/- Contract of the document: whether a share shows its chunk. -/
import Derived.Test.YtoopaeahhbkncabDoorMerkleRef
import Derived.Test.YtoopaeahhbkncabDoorMerkleRefClaim
namespace Go.Proofs.YtoopaeahhbkncabDoor
open Go.RowKit Go.Mk Go.Chunk
attribute [local go_sem] Oper.semAt_some
set_option maxHeartbeats 1000000 in
theorem rverify_more (x : Sh) (pv : Value) (w : World) (hC : x.Claims) (hr : StrRow.Reads w pv x.pa) (hl : 20 < x.pa.length) :
    Calls Tryd.prog 10 #[x.v pv] w fun e w' => e = .returned (.int .i64 90) ∧ Below w.heap.size w w' := by
  obtain ⟨dg, sz, mn, at_, ck, pa⟩ := x
  obtain ⟨h1, h2, h3, h4, ⟨-, h5c, h5, h5b⟩, h6, h7⟩ := hC
  dsimp only at h1 h2 h3 h4 h5 h5b h5c h6 h7 hl hr
  obtain ⟨a, c, rfl⟩ := hr.form
  have h6' : ck.toList.isEmpty = false := by rw [empty_iff, decide_eq_false (by omega)]
  have h7' : (ck.size : Int) ≤ 512 := by omega
  have hl' : (20 : Int) < pa.length := by omega
  have HB := hide ((Below.refl _ w).alloc (Nat.le_refl _) (.cells #[.string dg, .int .i64 sz, .int .i64 mn, .int .i64 at_, .string ck, .slice a pa.length c] 34))
  clear hr h6 h7 hl
  go_enter Tryd.func10, Tryd.ntmps10
  go_wp2_with fail
  go_ret
  exact ⟨rfl, HB.out⟩
set_option maxHeartbeats 1000000 in
theorem rverify_few (x : Sh) (pv : Value) (w : World) (hC : x.Claims) (hr : StrRow.Reads w pv x.pa) (hl : x.pa.length ≤ 20) :
    Calls Tryd.prog 10 #[x.v pv] w fun e w' => e = .returned (.int .i64 x.verdict) ∧ Below w.heap.size w w' := by
  obtain ⟨V, hV, hV0, hV9⟩ : ∃ V, x.verdict = V ∧ (Gd x.at_.toNat x.mn.toNat x.pa → named x.sz.toNat x.mn.toNat (climb (digest x.ck) x.at_.toNat x.mn.toNat x.pa) = x.dg → V = 0) ∧ (¬ (Gd x.at_.toNat x.mn.toNat x.pa ∧ named x.sz.toNat x.mn.toNat (climb (digest x.ck) x.at_.toNat x.mn.toNat x.pa) = x.dg) → V = 90) := by
    refine ⟨_, rfl, fun h1 h2 => ?_, fun h => ?_⟩
    · unfold Sh.verdict; rw [if_pos hC, if_pos ⟨h1.1, h1.2, h2⟩]
    · unfold Sh.verdict; rw [if_pos hC, if_neg (fun hp => h ⟨⟨hp.1, hp.2.1⟩, hp.2.2⟩)]
  rw [hV]
  have HV0 := hide hV0
  have HV9 := hide hV9
  clear hV hV0 hV9
  obtain ⟨dg, sz, mn, at_, ck, pa⟩ := x
  obtain ⟨h1, h2, h3, h4, ⟨-, h5c, h5, h5b⟩, h6, h7⟩ := hC
  dsimp only at h1 h2 h3 h4 h5 h5b h5c h6 h7 hl hr HV0 HV9
  obtain ⟨m, rfl⟩ : ∃ m : Nat, mn = m := ⟨mn.toNat, by omega⟩
  obtain ⟨i, rfl⟩ : ∃ i : Nat, at_ = i := ⟨at_.toNat, by omega⟩
  obtain ⟨z, rfl⟩ : ∃ z : Nat, sz = z := ⟨sz.toNat, by omega⟩
  simp only [Int.toNat_natCast] at HV0 HV9
  obtain ⟨a, c, rfl⟩ := hr.form
  have h6' : ck.toList.isEmpty = false := by rw [empty_iff, decide_eq_false (by omega)]
  have h7' : (ck.size : Int) ≤ 512 := by omega
  have hl' : (pa.length : Int) ≤ 20 := by omega
  obtain ⟨w1, hw1⟩ : ∃ w1, w1 = w.alloc (.cells #[.string dg, .int .i64 z, .int .i64 m, .int .i64 i, .string ck, .slice a pa.length c] 34) := ⟨_, rfl⟩
  have hbw : Below w.heap.size w w1 := by rw [hw1]; exact (Below.refl _ w).alloc (Nat.le_refl _) _
  have hrow : w1.heap[w.heap.size]? = some (.cells #[.string dg, .int .i64 z, .int .i64 m, .int .i64 i, .string ck, .slice a pa.length c] 34 (0, 0)) := by rw [hw1]; exact heap_alloc_new _ _
  have HW1 := hide hw1
  have HR := hide (hr.below hbw (Nat.le_refl _))
  have I := hide (show Bx w w.heap.size _ _ w1 from ⟨hrow, hbw⟩)
  obtain ⟨c0, c1, c2, c3, c4, c5⟩ := cells6 hrow
  clear hw1 hbw hrow hr
  have HD := hide (fun (w' : World) => rdigest_any ck w' (by omega))
  have HU := hide (fun (w' : World) (h : Below w1.heap.size w1 w') => up_any m (digest ck) i _ pa w' (by omega) (by omega) (by omega) (digest_size ck) (by omega) (HR.out.below h (Nat.le_refl _)))
  have HN := hide (fun (r : ByteArray) (w' : World) (h : r.size ≤ 32) => rnamed_any z m r w' (by omega) (by omega) (by omega))
  have hsp := up_spec m (digest ck) i pa (by omega) (digest_size ck)
  have hrs := hsp.size
  have HN' := hide (fun (w' : World) => HN.out (up (digest ck) i m pa).1 w' hrs)
  have HG := hide hsp.good
  have HB := hide hsp.bad
  clear HN hsp
  generalize (up (digest ck) i m pa).1 = r at *
  generalize (up (digest ck) i m pa).2 = ok at *
  generalize climb (digest ck) i m pa = C at *
  generalize digest ck = D at *
  have r3 := cell_regrown c3
  have r2 := cell_regrown c2
  have r4 := cell_regrown c4
  have r5 := cell_regrown c5
  by_cases hgd : Gd i m pa
  · obtain ⟨hok, hrc⟩ := HG.out hgd
    subst hok hrc
    by_cases hnm : named z m r = dg
    · rw [HV0.out hgd hnm]
      rw [hnm] at HN'
      clear hgd hnm HG HB HV0 HV9
      go_enter Tryd.func10, Tryd.ntmps10
      go_upto_region 1 with fail
      rw [← HW1.out]
      go_wp2_with fail
      refine QuietCalls.region (by kernel_rfl) (by kernel_rfl) ?_
      iterate 2 first | go_big_quiet_step (fail) | quiet_step (fail)
      refine QuietCalls.call1 rfl rfl Tryd.call17 (fun w _ => HD.out w) rfl ?_; simp only [Act.put, List.setIfInBounds_toArray, List.set_cons_succ, List.set_cons_zero]
      iterate 6 first | go_big_quiet_step (fail) | quiet_step (fail)
      refine QuietCalls.call4 rfl rfl Tryd.call24 (fun w h => HU.out w h) rfl rfl rfl rfl ?_; simp only [Act.put, List.setIfInBounds_toArray, List.set_cons_succ, List.set_cons_zero]
      iterate 5 first | go_big_quiet_step (fail) | quiet_step (fail)
      refine wpQuiet_nil ?_
      intro w2 hb2
      replace I := hide (I.out.step hb2)
      clear hb2 r2 r3 r4 r5 c0 c1 c2 c3 c4 c5
      obtain ⟨c0, c1, c2, c3, c4, c5⟩ := cells6 I.out.row
      go_wp2_with fail
      have r0 := cell_regrown c0
      have r1 := cell_regrown c1
      have r2 := cell_regrown c2
      refine QuietCalls.region (by kernel_rfl) (by kernel_rfl) ?_
      iterate 8 first | go_big_quiet_step (fail) | quiet_step (fail)
      refine QuietCalls.call3 rfl rfl Tryd.call25 (fun w _ => HN'.out w) rfl rfl rfl ?_; simp only [Act.put, List.setIfInBounds_toArray, List.set_cons_succ, List.set_cons_zero]
      iterate 4 first | go_big_quiet_step (fail) | quiet_step (fail)
      refine wpQuiet_nil ?_
      intro w3 hb3
      replace I := hide (I.out.step hb3)
      clear hb3 r0 r1 r2
      go_wp2_with fail
      go_ret
      exact ⟨rfl, I.out.below⟩
    · rw [HV9.out (fun h => hnm h.2)]
      have hne := str_ne hnm
      clear hgd HG HB HV0 HV9
      generalize named z m r = NM at *
      go_enter Tryd.func10, Tryd.ntmps10
      go_upto_region 1 with fail
      rw [← HW1.out]
      go_wp2_with fail
      refine QuietCalls.region (by kernel_rfl) (by kernel_rfl) ?_
      iterate 2 first | go_big_quiet_step (fail) | quiet_step (fail)
      refine QuietCalls.call1 rfl rfl Tryd.call17 (fun w _ => HD.out w) rfl ?_; simp only [Act.put, List.setIfInBounds_toArray, List.set_cons_succ, List.set_cons_zero]
      iterate 6 first | go_big_quiet_step (fail) | quiet_step (fail)
      refine QuietCalls.call4 rfl rfl Tryd.call24 (fun w h => HU.out w h) rfl rfl rfl rfl ?_; simp only [Act.put, List.setIfInBounds_toArray, List.set_cons_succ, List.set_cons_zero]
      iterate 5 first | go_big_quiet_step (fail) | quiet_step (fail)
      refine wpQuiet_nil ?_
      intro w2 hb2
      replace I := hide (I.out.step hb2)
      clear hb2 r2 r3 r4 r5 c0 c1 c2 c3 c4 c5
      obtain ⟨c0, c1, c2, c3, c4, c5⟩ := cells6 I.out.row
      go_wp2_with fail
      have r0 := cell_regrown c0
      have r1 := cell_regrown c1
      have r2 := cell_regrown c2
      refine QuietCalls.region (by kernel_rfl) (by kernel_rfl) ?_
      iterate 8 first | go_big_quiet_step (fail) | quiet_step (fail)
      refine QuietCalls.call3 rfl rfl Tryd.call25 (fun w _ => HN'.out w) rfl rfl rfl ?_; simp only [Act.put, List.setIfInBounds_toArray, List.set_cons_succ, List.set_cons_zero]
      iterate 4 first | go_big_quiet_step (fail) | quiet_step (fail)
      refine wpQuiet_nil ?_
      intro w3 hb3
      replace I := hide (I.out.step hb3)
      clear hb3 r0 r1 r2
      go_wp2_with fail
      go_ret
      exact ⟨rfl, I.out.below⟩
  · have hok := HB.out hgd
    subst hok
    rw [HV9.out (fun h => hgd h.1)]
    clear hgd HG HB HV0 HV9
    go_enter Tryd.func10, Tryd.ntmps10
    go_upto_region 1 with fail
    rw [← HW1.out]
    go_wp2_with fail
    refine QuietCalls.region (by kernel_rfl) (by kernel_rfl) ?_
    iterate 2 first | go_big_quiet_step (fail) | quiet_step (fail)
    refine QuietCalls.call1 rfl rfl Tryd.call17 (fun w _ => HD.out w) rfl ?_; simp only [Act.put, List.setIfInBounds_toArray, List.set_cons_succ, List.set_cons_zero]
    iterate 6 first | go_big_quiet_step (fail) | quiet_step (fail)
    refine QuietCalls.call4 rfl rfl Tryd.call24 (fun w h => HU.out w h) rfl rfl rfl rfl ?_; simp only [Act.put, List.setIfInBounds_toArray, List.set_cons_succ, List.set_cons_zero]
    iterate 5 first | go_big_quiet_step (fail) | quiet_step (fail)
    refine wpQuiet_nil ?_
    intro w2 hb2
    replace I := hide (I.out.step hb2)
    clear hb2 r2 r3 r4 r5 c0 c1 c2 c3 c4 c5
    obtain ⟨c0, c1, c2, c3, c4, c5⟩ := cells6 I.out.row
    go_wp2_with fail
    refine QuietCalls.region (by kernel_rfl) (by kernel_rfl) ?_
    iterate 13 first | go_big_quiet_step (fail) | quiet_step (fail)
    refine wpQuiet_nil ?_
    intro w3 hb3
    replace I := hide (I.out.step hb3)
    clear hb3
    go_wp2_with fail
    go_ret
    exact ⟨rfl, I.out.below⟩
theorem rverify_any (x : Sh) (pv : Value) (w : World) (hr : StrRow.Reads w pv x.pa) :
    Calls Tryd.prog 10 #[x.v pv] w fun e w' => e = .returned (.int .i64 x.verdict) ∧ Below w.heap.size w w' := by
  by_cases hC : x.Claims
  · by_cases hl : x.pa.length ≤ 20
    · exact rverify_few x pv w hC hr hl
    · have hv : x.verdict = 90 := by
        unfold Sh.verdict
        rw [if_pos hC, if_neg (fun hp => ?_)]
        have h8 := way_eight x.at_.toNat x.mn.toNat (by have := hC.1; omega) (by have := hC.2.1; omega)
        have := hp.1
        omega
      rw [hv]
      exact rverify_more x pv w hC hr (by omega)
  · have hv : x.verdict = 1 := by unfold Sh.verdict; rw [if_neg hC]
    rw [hv]
    exact rverify_claim x pv w hC
end Go.Proofs.YtoopaeahhbkncabDoor
