/- The walk of WalNobody. -/
import Derived.Test.YtoineobjmllicaaGreatDoorWlThree
namespace Go.Wal
open Go.RowKit Go.Dk
theorem w_gatherm (m : Nat) : gatherOf A0.files m = ⟨m, 0, 0, 0, []⟩ := by kernel_rfl
theorem w_openm (m : Nat) : openOf A0 m = (A0, some ⟨m, 0, 0, 0, []⟩, 0, 0) := by kernel_rfl
theorem w_dead : (A0.crash 0 0).down = true := by rfl
end Go.Wal
namespace Go.Proofs.YtoineobjmllicaaGreatDoor
open Go.RowKit Go.Dk Go.Wal
set_option maxRecDepth 100000 in
set_option maxHeartbeats 4000000 in
theorem walNobody_any (v : Value) (ls : List Bs) (most : Int) (w : World) (hT : Texts w v ls) (hs : ∀ l ∈ ls, l.length ≤ maxLen) (hn : ls.length ≤ maxLen) (hv : Vars w) :
    Calls Tryz.prog 8 #[v, .int .i64 most] w fun e w' => e = .returned (.bool true) ∧ Below w.heap.size w w' := by
  have h5 : 5 ≤ w.heap.size := hv.size
  have HN1 : Hid (Calls Tryz.prog 9 #[] w fun e w1 => e = .returned (.pointer (some ⟨w.heap.size, 0, none⟩)) ∧ Wk Tryz.prog w w.heap.size 0 A0 w1) :=
    (new_any w).mono fun e w1 ⟨he, hr, hb⟩ => ⟨he, ⟨⟨bare (-1), rfl, fresh_disk w.heap.size w.heap.size w1 (Nat.le_refl _) hr⟩, hb⟩⟩
  have HCR : Hid (∀ w1, Wk Tryz.prog w w.heap.size 0 A0 w1 → Calls Tryz.prog 16 #[.pointer (some ⟨w.heap.size, 0, none⟩), .int .i64 0, .int .i64 0] w1 fun e w2 => e = .returned (.tuple #[]) ∧ Wk Tryz.prog w w.heap.size 0 (A0.crash 0 0) w2) := fun w1 h1 => by
    obtain ⟨T, hT, hD⟩ := h1.disk
    refine (crash_op w.heap.size 0 w.heap.size T 0 0 w1 hD h1.below.size).mono ?_
    rintro e w2 ⟨he, T', hT', hD', hk⟩
    exact ⟨he, ⟨⟨T', by rw [hT', hT], hD'⟩, h1.below.trans (hk.below h1.below.size)⟩⟩
  have HO1 : Hid (∀ w2, Wk Tryz.prog w w.heap.size 0 (A0.crash 0 0) w2 → Calls Tryz.prog 10 #[.pointer (some ⟨w.heap.size, 0, none⟩), .int .i64 10] w2 fun e w' => e = .returned (.tuple #[.pointer none, .int .i64 0, .int .i64 7]) ∧ w' = w2) := fun w2 h2 => by
    obtain ⟨T, hT, hD⟩ := h2.disk
    exact walOpen_down w.heap.size 0 w.heap.size T 10 w2 hD (by decide) (by rw [hT]; exact w_dead)
  have HN2 : Hid (∀ w2, Below w.heap.size w w2 → Calls Tryz.prog 9 #[] w2 fun e w3 => e = .returned (.pointer (some ⟨w2.heap.size, 0, none⟩)) ∧ Wk Tryz.prog w2 w2.heap.size 0 A0 w3) := fun w2 _ =>
    (new_any w2).mono fun e w3 ⟨he, hr, hb⟩ => ⟨he, ⟨⟨bare (-1), rfl, fresh_disk w2.heap.size w2.heap.size w3 (Nat.le_refl _) hr⟩, hb⟩⟩
  have HO2 : Hid (∀ w2 w3, Below w.heap.size w w2 → Wk Tryz.prog w2 w2.heap.size 0 A0 w3 → Calls Tryz.prog 10 #[.pointer (some ⟨w2.heap.size, 0, none⟩), .int .i64 most] w3 fun e w4 => (∃ p, e = .returned (.tuple #[.pointer p, .int .i64 0, .int .i64 (if most < 1 then 1 else 0)])) ∧ Below w.heap.size w w4) := fun w2 w3 h2 h3 => by
    have hb3 : Below w.heap.size w w3 := h2.trans (h3.below.mono h2.size)
    by_cases hm : most < 1
    · rw [if_pos hm]
      refine (walOpen_arg w2.heap.size most w3 hm).mono ?_
      rintro e w4 ⟨he, rfl⟩
      exact ⟨⟨_, he⟩, hb3⟩
    · rw [if_neg hm]
      obtain ⟨m, rfl⟩ : ∃ m : Nat, most = m := ⟨most.toNat, by omega⟩
      obtain ⟨T, hT, hD⟩ := h3.disk
      have := walOpen_any (M := fun _ => True) (fun _ => trivial) w2.heap.size 0 w2.heap.size T m w3 hD (Vars.below hv hb3) h3.below.size (Nat.le_trans h5 h2.size) (by rw [hT]; decide) (by omega) (by rw [hT]; rfl) (by rw [hT]; intro f hf; cases hf) (by rw [hT]; intro f hf; cases hf) (by rw [hT, w_gatherm]; exact Nat.zero_le _)
      rw [hT, w_openm, w_gatherm] at this
      refine this.mono ?_
      rintro e w4 ⟨h4 | ⟨b, rv, he, _, _, _⟩, _, hk⟩
      · exact absurd h4.2.1 (by simp)
      · exact ⟨⟨_, he⟩, hb3.trans ((hk.below h3.below.size).mono h2.size)⟩
  have HA : Hid (∀ w4, Below w.heap.size w w4 → Calls Tryz.prog 11 #[] w4 fun e w5 => e = .returned (.bool true) ∧ Below w.heap.size w w5) := fun w4 h4 =>
    (walAwake_any w4 (Vars.below hv h4)).mono fun e w5 ⟨he, hb⟩ => ⟨he, h4.trans (hb.mono h4.size)⟩
  have HCUT : Hid (∀ w5, Below w.heap.size w w5 → Calls Tryz.prog 12 #[v] w5 fun e w6 => ∃ a n c, e = .returned (.slice a n c) ∧ Below w.heap.size w w6) := fun w5 h5 =>
    (cut7_any v ls w5 (hT.below h5) hs hn).mono fun e w6 ⟨v', he, ho, hb⟩ => by
      obtain ⟨a, c, rfl⟩ := own_form ho
      exact ⟨_, _, _, he, h5.trans (hb.mono h5.size)⟩
  obtain ⟨va, vc, rfl, _⟩ := hT
  clear hv hs hn h5
  by_cases hm : most < 1
  · rw [if_pos hm] at HO2
    have hd : decide (1 ≤ most) = false := decide_eq_false (by omega)
    go_enter Tryz.func8, Tryz.ntmps8
    go_wp2_with (first
      | (go_at_call 9; first
         | (refine (HN2.out w2 K2.out.below).mono ?_; rintro e w3 ⟨rfl, k3⟩; have K3 := hide k3; clear k3)
         | (refine HN1.out.mono ?_; rintro e w1 ⟨rfl, k1⟩; have K1 := hide k1; clear k1))
      | (go_at_call 16; refine (HCR.out w1 K1.out).mono ?_; rintro e w2 ⟨rfl, k2⟩; have K2 := hide k2; clear k2)
      | (go_at_call 10; first
         | (refine (HO2.out w2 w3 K2.out.below K3.out).mono ?_; rintro e w4 ⟨⟨p4, rfl⟩, k4⟩; have K4 := hide k4; clear k4)
         | (have _ := Q1.out; refine (HO1.out w2 K2.out).mono ?_; rintro e w' ⟨rfl, hw⟩; replace hw := hw.symm; subst hw)
         | (refine (walOpen_nil _ _).mono ?_; rintro e w' ⟨rfl, hw⟩; replace hw := hw.symm; subst hw; have Q1 := hide (Nat.le_refl 0)))
      | (go_at_call 11; refine (HA.out w4 K4.out).mono ?_; rintro e w5 ⟨rfl, k5⟩; have K5 := hide k5; clear k5)
      | (go_at_call 12; first
         | (refine (HCUT.out w6 K6.out).mono ?_; rintro e w7 ⟨a7, n7, c7, rfl, k7⟩; have K7 := hide k7; clear k7)
         | (refine (HCUT.out w5 K5.out).mono ?_; rintro e w6 ⟨a6, n6, c6, rfl, k6⟩; have K6 := hide k6; clear k6))
      | (go_at_call 18; refine (add_nil _ _).mono ?_; rintro e w' ⟨rfl, hw⟩; replace hw := hw.symm; subst hw)
      | (go_at_call 13; refine (reset_nil _ _).mono ?_; rintro e w' ⟨rfl, hw⟩; replace hw := hw.symm; subst hw)
      | (go_at_call 20; refine (allRecs_nil _).mono ?_; rintro e w' ⟨rfl, hw⟩; replace hw := hw.symm; subst hw)
      | (go_at_call 21; refine (lenRecs_nil _).mono ?_; rintro e w' ⟨rfl, hw⟩; replace hw := hw.symm; subst hw)
      | (go_at_call 23; refine (segs_nil _).mono ?_; rintro e w' ⟨rfl, hw⟩; replace hw := hw.symm; subst hw))
    go_ret
    exact ⟨rfl, K7.out⟩
  · rw [if_neg hm] at HO2
    have hd : decide (1 ≤ most) = true := decide_eq_true (by omega)
    go_enter Tryz.func8, Tryz.ntmps8
    go_wp2_with (first
      | (go_at_call 9; first
         | (refine (HN2.out w2 K2.out.below).mono ?_; rintro e w3 ⟨rfl, k3⟩; have K3 := hide k3; clear k3)
         | (refine HN1.out.mono ?_; rintro e w1 ⟨rfl, k1⟩; have K1 := hide k1; clear k1))
      | (go_at_call 16; refine (HCR.out w1 K1.out).mono ?_; rintro e w2 ⟨rfl, k2⟩; have K2 := hide k2; clear k2)
      | (go_at_call 10; first
         | (refine (HO2.out w2 w3 K2.out.below K3.out).mono ?_; rintro e w4 ⟨⟨p4, rfl⟩, k4⟩; have K4 := hide k4; clear k4)
         | (have _ := Q1.out; refine (HO1.out w2 K2.out).mono ?_; rintro e w' ⟨rfl, hw⟩; replace hw := hw.symm; subst hw)
         | (refine (walOpen_nil _ _).mono ?_; rintro e w' ⟨rfl, hw⟩; replace hw := hw.symm; subst hw; have Q1 := hide (Nat.le_refl 0)))
      | (go_at_call 11; refine (HA.out w4 K4.out).mono ?_; rintro e w5 ⟨rfl, k5⟩; have K5 := hide k5; clear k5)
      | (go_at_call 12; first
         | (refine (HCUT.out w6 K6.out).mono ?_; rintro e w7 ⟨a7, n7, c7, rfl, k7⟩; have K7 := hide k7; clear k7)
         | (refine (HCUT.out w5 K5.out).mono ?_; rintro e w6 ⟨a6, n6, c6, rfl, k6⟩; have K6 := hide k6; clear k6))
      | (go_at_call 18; refine (add_nil _ _).mono ?_; rintro e w' ⟨rfl, hw⟩; replace hw := hw.symm; subst hw)
      | (go_at_call 13; refine (reset_nil _ _).mono ?_; rintro e w' ⟨rfl, hw⟩; replace hw := hw.symm; subst hw)
      | (go_at_call 20; refine (allRecs_nil _).mono ?_; rintro e w' ⟨rfl, hw⟩; replace hw := hw.symm; subst hw)
      | (go_at_call 21; refine (lenRecs_nil _).mono ?_; rintro e w' ⟨rfl, hw⟩; replace hw := hw.symm; subst hw)
      | (go_at_call 23; refine (segs_nil _).mono ?_; rintro e w' ⟨rfl, hw⟩; replace hw := hw.symm; subst hw))
    go_ret
    exact ⟨rfl, K7.out⟩
end Go.Proofs.YtoineobjmllicaaGreatDoor
