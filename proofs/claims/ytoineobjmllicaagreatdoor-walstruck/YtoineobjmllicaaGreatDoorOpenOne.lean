/- Several texts in one: WalOpen. -/
import Derived.Test.YtoineobjmllicaaGreatDoorWlSix
/- Contract: a log is opened. -/
namespace Go.Wal
open Go.RowKit Go.Dk
variable {M : Nat → Prop}
/-- What Open does to the plain disk: the disk, the log, how many bytes went, the error. -/
def openOf (a : A) (most : Nat) : A × Option Lg × Nat × Int :=
  if a.down = true then (a, none, 0, 7)
  else if (sweepOf (gatherOf a.files most) (nums a.files) a 0).2.2 ≠ 0 then ((sweepOf (gatherOf a.files most) (nums a.files) a 0).1, none, 0, (sweepOf (gatherOf a.files most) (nums a.files) a 0).2.2)
  else if ((sweepOf (gatherOf a.files most) (nums a.files) a 0).1.doRemove newB).2 ≠ 0 ∧ ((sweepOf (gatherOf a.files most) (nums a.files) a 0).1.doRemove newB).2 ≠ 2 then (((sweepOf (gatherOf a.files most) (nums a.files) a 0).1.doRemove newB).1, none, 0, ((sweepOf (gatherOf a.files most) (nums a.files) a 0).1.doRemove newB).2)
  else (((sweepOf (gatherOf a.files most) (nums a.files) a 0).1.doRemove newB).1, some (gatherOf a.files most), (sweepOf (gatherOf a.files most) (nums a.files) a 0).2.1, 0)
theorem run_bounds {fs : List AF} : ∀ (k n : Nat) (l : Lg), l.first ≤ 1000000 → l.last ≤ 1000000 → l.size ≤ 1000000 → 1 ≤ n → n + k ≤ 9000000 → Few fs → Sm fs → (run fs k n l).first ≤ 1000000 ∧ (run fs k n l).last ≤ 1000000 ∧ (run fs k n l).size ≤ 1000000
  | 0, _, _, h1, h2, h3, _, _, _, _ => ⟨h1, h2, h3⟩
  | k + 1, n, l, h1, h2, h3, h4, h5, hf, hs => by
    cases h : readN fs n with
    | none => rw [run_none h]; exact ⟨h1, h2, h3⟩
    | some s =>
      have hn := hf.read h4 (by omega) h
      have hsl := readN_bytes h hs
      cases hh : head s with
      | none => rw [run_no h hh]; exact ⟨h1, h2, h3⟩
      | some b =>
        have hw := whole_le hh
        by_cases hw' : whole s < s.length
        · rw [run_end h hh hw']; exact ⟨h1, hn, by show whole s ≤ _; omega⟩
        · rw [run_on h hh hw']
          exact run_bounds k (n + 1) _ h1 hn (by show whole s ≤ _; omega) (by omega) (by omega) hf hs
theorem gather_bounds {fs : List AF} {most : Nat} (hf : Few fs) (hs : Sm fs) : (gatherOf fs most).first ≤ 1000000 ∧ (gatherOf fs most).last ≤ 1000000 ∧ (gatherOf fs most).size ≤ 1000000 := by
  have h1 := hf.first
  unfold gatherOf
  split
  · exact ⟨Nat.zero_le _, Nat.zero_le _, Nat.zero_le _⟩
  · exact run_bounds _ _ _ h1 (Nat.zero_le _) (Nat.zero_le _) (by omega) (by omega) hf hs
theorem dsk_new {base : Nat} {w w1 w2 : World} (h : Below w.heap.size w w1) (k : Dsk M base w1 w2) : Dsk M base w w2 := Dsk.trans (.of_below h) k
end Go.Wal
namespace Go.Proofs.YtoineobjmllicaaGreatDoor
open Go.RowKit Go.Dk Go.Wal
variable {M : Nat → Prop}
theorem deadAt (base K d : Nat) (S : WD) (w : World) (h : DiskAt Tryz.prog M base K d w S) : Calls Tryz.prog 27 #[.pointer (some ⟨d, 0, none⟩)] w fun e w' => e = .returned (.bool S.a.down) ∧ w' = w := by
  have hr := h.row
  unfold drow at hr
  exact dead_any d _ _ _ _ _ _ w hr
theorem walOpen_nil (most : Int) (w : World) : Calls Tryz.prog 10 #[.pointer none, .int .i64 most] w fun e w' => e = .returned (.tuple #[.pointer none, .int .i64 0, .int .i64 1]) ∧ w' = w := by
  go_enter Tryz.func10, Tryz.ntmps10
  go_wp2_with fail
  go_ret3
  exact ⟨rfl, rfl⟩
theorem walOpen_arg (d : Nat) (most : Int) (w : World) (hm : most < 1) : Calls Tryz.prog 10 #[.pointer (some ⟨d, 0, none⟩), .int .i64 most] w fun e w' => e = .returned (.tuple #[.pointer none, .int .i64 0, .int .i64 1]) ∧ w' = w := by
  have hd : decide (most < 1) = true := decide_eq_true hm
  go_enter Tryz.func10, Tryz.ntmps10
  go_wp2_with fail
  go_ret3
  exact ⟨rfl, rfl⟩
theorem walOpen_down (base K d : Nat) (S : WD) (most : Nat) (w : World) (h : DiskAt Tryz.prog M base K d w S) (hm : 1 ≤ most) (hd : S.a.down = true) : Calls Tryz.prog 10 #[.pointer (some ⟨d, 0, none⟩), .int .i64 most] w fun e w' => e = .returned (.tuple #[.pointer none, .int .i64 0, .int .i64 7]) ∧ w' = w := by
  have HD : Hid (Calls Tryz.prog 27 #[.pointer (some ⟨d, 0, none⟩)] w fun e w' => e = .returned (.bool true) ∧ w' = w) := by have := deadAt base K d S w h; rw [hd] at this; exact this
  have hdm : decide ((most : Int) < 1) = false := decide_eq_false (by omega)
  clear h
  go_enter Tryz.func10, Tryz.ntmps10
  go_wp2_with (go_at_call 27; refine HD.out.mono ?_; rintro e w1 ⟨rfl, rfl⟩)
  go_ret3
  exact ⟨rfl, rfl⟩
set_option maxRecDepth 100000 in
set_option maxHeartbeats 4000000 in
theorem walOpen_all (base K d : Nat) (S : WD) (most : Nat) (w : World) (h : DiskAt Tryz.prog M base K d w S) (hv : Vars w) (hbase : base ≤ w.heap.size) (h5 : 5 ≤ base) (hK : K + S.a.files.length ≤ 4980) (hm : 1 ≤ most) (hd : S.a.down = false) (hs : Sm S.a.files) (hf : Few S.a.files) (hr : (gatherOf S.a.files most).recs.length ≤ 1000000) :
    Calls Tryz.prog 10 #[.pointer (some ⟨d, 0, none⟩), .int .i64 most] w fun e w' => ((e = .returned (.tuple #[.pointer none, .int .i64 0, .int .i64 (openOf S.a most).2.2.2]) ∧ (openOf S.a most).2.1 = none ∧ (openOf S.a most).2.2.2 ≠ 0) ∨ (∃ b rv, e = .returned (.tuple #[.pointer (some ⟨b, 0, none⟩), .int .i64 ((openOf S.a most).2.2.1 : Nat), .int .i64 0]) ∧ LogAt TLog w.heap.size b d (gatherOf S.a.files most) rv w' ∧ (openOf S.a most).2.1 = some (gatherOf S.a.files most) ∧ (openOf S.a most).2.2.2 = 0)) ∧ (∃ T : WD, T.a = (openOf S.a most).1 ∧ DiskAt Tryz.prog M base (K + S.a.files.length + 1) d w' T) ∧ Dsk M base w w' := by
  have HDE : Hid (Calls Tryz.prog 27 #[.pointer (some ⟨d, 0, none⟩)] w fun e w' => e = .returned (.bool false) ∧ w = w') := by have := deadAt base K d S w h; rw [hd] at this; exact this.mono fun e w' ⟨h1, h2⟩ => ⟨h1, h2.symm⟩
  have hdm : decide ((most : Int) < 1) = false := decide_eq_false (by omega)
  have hgb := gather_bounds (most := most) hf hs
  have hB1 : Below w.heap.size w (w.alloc (.cells #[.pointer (some ⟨d, 0, none⟩), .int .i64 (most : Int), .slice none 0 0, .int .i64 0, .int .i64 0, .int .i64 0] 69)) := (Below.refl _ _).alloc (Nat.le_refl _) _
  have HG : Hid (Calls Tryz.prog 37 #[.pointer (some ⟨w.heap.size, 0, none⟩)] (w.alloc (.cells #[.pointer (some ⟨d, 0, none⟩), .int .i64 (most : Int), .slice none 0 0, .int .i64 0, .int .i64 0, .int .i64 0] 69)) fun e w' => e = .returned (.int .i64 0) ∧ (∃ rv, LogAt TLog w.heap.size w.heap.size d (gatherOf S.a.files most) rv w') ∧ Below w.heap.size w w') :=
    gather_any base K w.heap.size d most S w _ h hv ⟨heap_alloc_new _ _, World.ownsRow_nil _ _ _ _, (by intro x; cases x), Nat.le_refl _⟩ hB1 hd hs hf hr
  have HSW : Hid (∀ w1 rv, Below w.heap.size w w1 → LogAt TLog w.heap.size w.heap.size d (gatherOf S.a.files most) rv w1 → Calls Tryz.prog 38 #[.pointer (some ⟨w.heap.size, 0, none⟩)] w1 fun e w' => e = .returned (.tuple #[.int .i64 ((sweepOf (gatherOf S.a.files most) (nums S.a.files) S.a 0).2.1 : Nat), .int .i64 (sweepOf (gatherOf S.a.files most) (nums S.a.files) S.a 0).2.2]) ∧ (∃ T : WD, T.a = (sweepOf (gatherOf S.a.files most) (nums S.a.files) S.a 0).1 ∧ DiskAt Tryz.prog M base (K + S.a.files.length) d w' T) ∧ Dsk M base w1 w') := fun w1 rv h1 hL =>
    sweep_any base w.heap.size K w.heap.size d S _ rv w1 (h.below h1) (Vars.below hv h1) hL (Nat.le_trans hbase h1.size) h5 (by omega) hd hs (by omega)
  have HDR : Hid (∀ w2 rv (T : WD), DiskAt Tryz.prog M base (K + S.a.files.length) d w2 T → base ≤ w2.heap.size → LogAt TLog w.heap.size w.heap.size d (gatherOf S.a.files most) rv w2 → Calls Tryz.prog 39 #[.pointer (some ⟨w.heap.size, 0, none⟩)] w2 fun e w' => e = .returned (.int .i64 (if (T.a.doRemove newB).2 = 2 then 0 else (T.a.doRemove newB).2)) ∧ (∃ T' : WD, T'.a = (T.a.doRemove newB).1 ∧ DiskAt Tryz.prog M base (K + S.a.files.length + 1) d w' T') ∧ Dsk M base w2 w') := fun w2 rv T hT hb hL => drop_any base w.heap.size (K + S.a.files.length) w.heap.size d T _ rv w2 hT hL hb (by omega)
  have HO : Hid (openOf S.a most = if (sweepOf (gatherOf S.a.files most) (nums S.a.files) S.a 0).2.2 ≠ 0 then ((sweepOf (gatherOf S.a.files most) (nums S.a.files) S.a 0).1, none, 0, (sweepOf (gatherOf S.a.files most) (nums S.a.files) S.a 0).2.2)
      else if ((sweepOf (gatherOf S.a.files most) (nums S.a.files) S.a 0).1.doRemove newB).2 ≠ 0 ∧ ((sweepOf (gatherOf S.a.files most) (nums S.a.files) S.a 0).1.doRemove newB).2 ≠ 2 then (((sweepOf (gatherOf S.a.files most) (nums S.a.files) S.a 0).1.doRemove newB).1, none, 0, ((sweepOf (gatherOf S.a.files most) (nums S.a.files) S.a 0).1.doRemove newB).2)
      else (((sweepOf (gatherOf S.a.files most) (nums S.a.files) S.a 0).1.doRemove newB).1, some (gatherOf S.a.files most), (sweepOf (gatherOf S.a.files most) (nums S.a.files) S.a 0).2.1, 0)) := by
    show _ = _
    conv => lhs; unfold openOf
    rw [if_neg (by rw [hd]; decide)]
  clear h hv hgb
  generalize openOf S.a most = O at *
  generalize sweepOf (gatherOf S.a.files most) (nums S.a.files) S.a 0 = R at *
  generalize gatherOf S.a.files most = G at *
  obtain ⟨ra, rc, re⟩ := R
  simp only at HO HSW
  go_enter Tryz.func10, Tryz.ntmps10
  go_upto_region 10 with (first
    | (go_at_call 27; refine HDE.out.mono ?_; rintro e w0 ⟨rfl, rfl⟩)
    | (go_at_call 37; refine HG.out.mono ?_; rintro e w1 ⟨rfl, ⟨rv, hL1⟩, k1⟩; have H1 := hide (And.intro hL1 k1); clear hL1 k1)
    | (go_at_call 38; refine (HSW.out w1 rv H1.out.2 H1.out.1).mono ?_; rintro e w2 ⟨rfl, ⟨T, hT, hD2⟩, k2⟩; have H2 := hide (And.intro hT (And.intro hD2 k2)); clear hT hD2 k2))
  have hb2 : base ≤ w2.heap.size := Nat.le_trans (Nat.le_trans hbase H1.out.2.size) H2.out.2.2.size
  have L2 := hide (H1.out.1.dsk H2.out.2.2)
  have K2 := hide (dsk_new H1.out.2 H2.out.2.2)
  by_cases h0 : re = 0
  · subst h0
    rw [if_neg (by simp)] at HO
    have HD2 := hide (HDR.out w2 rv T H2.out.2.1 hb2 L2.out)
    rw [H2.out.1] at HD2
    generalize ra.doRemove newB = q at *
    obtain ⟨qa, qe⟩ := q
    simp only at HO HD2
    by_cases h2 : qe = 2
    · subst h2
      rw [if_pos rfl] at HD2
      rw [if_neg (by simp)] at HO
      go_wp2_with (go_at_call 39; refine HD2.out.mono ?_; rintro e w3 ⟨rfl, t3, k3⟩; have H3 := hide (And.intro t3 k3); clear t3 k3)
      go_ret3
      rw [HO.out]
      exact ⟨.inr ⟨_, _, rfl, L2.out.dsk H3.out.2, rfl, rfl⟩, H3.out.1, K2.out.trans H3.out.2⟩
    · rw [if_neg h2] at HD2
      by_cases h3 : qe = 0
      · subst h3
        rw [if_neg (by simp)] at HO
        go_wp2_with (go_at_call 39; refine HD2.out.mono ?_; rintro e w3 ⟨rfl, t3, k3⟩; have H3 := hide (And.intro t3 k3); clear t3 k3)
        go_ret3
        rw [HO.out]
        exact ⟨.inr ⟨_, _, rfl, L2.out.dsk H3.out.2, rfl, rfl⟩, H3.out.1, K2.out.trans H3.out.2⟩
      · rw [if_pos ⟨h3, h2⟩] at HO
        have hqb : (qe == 0) = false := by simpa using h3
        go_wp2_with (go_at_call 39; refine HD2.out.mono ?_; rintro e w3 ⟨rfl, t3, k3⟩; have H3 := hide (And.intro t3 k3); clear t3 k3)
        go_ret3
        rw [HO.out]
        exact ⟨.inl ⟨rfl, rfl, h3⟩, H3.out.1, K2.out.trans H3.out.2⟩
  · rw [if_pos h0] at HO
    have hrb : (re == 0) = false := by simpa using h0
    have HE : Hid (∃ T' : WD, T'.a = ra ∧ DiskAt Tryz.prog M base (K + S.a.files.length + 1) d w2 T') := ⟨T, H2.out.1, H2.out.2.1.mono (Nat.le_succ _) (by omega)⟩
    go_wp2_with fail
    go_ret3
    rw [HO.out]
    exact ⟨.inl ⟨rfl, rfl, h0⟩, HE.out, K2.out⟩
theorem walOpen_any (_hM : ∀ b, M b) (base K d : Nat) (S : WD) (most : Nat) (w : World) (h : DiskAt Tryz.prog M base K d w S) (hv : Vars w) (hbase : base ≤ w.heap.size) (h5 : 5 ≤ base) (hK : K + S.a.files.length ≤ 4980) (hm : 1 ≤ most) (hd : S.a.down = false) (hs : Sm S.a.files) (hf : Few S.a.files) (hr : (gatherOf S.a.files most).recs.length ≤ 1000000) :
    Calls Tryz.prog 10 #[.pointer (some ⟨d, 0, none⟩), .int .i64 most] w fun e w' => ((e = .returned (.tuple #[.pointer none, .int .i64 0, .int .i64 (openOf S.a most).2.2.2]) ∧ (openOf S.a most).2.1 = none ∧ (openOf S.a most).2.2.2 ≠ 0) ∨ (∃ b rv, e = .returned (.tuple #[.pointer (some ⟨b, 0, none⟩), .int .i64 ((openOf S.a most).2.2.1 : Nat), .int .i64 0]) ∧ LogAt TLog w.heap.size b d (gatherOf S.a.files most) rv w' ∧ (openOf S.a most).2.1 = some (gatherOf S.a.files most) ∧ (openOf S.a most).2.2.2 = 0)) ∧ (∃ T : WD, T.a = (openOf S.a most).1 ∧ DiskAt Tryz.prog M base (K + S.a.files.length + 1) d w' T) ∧ Dsk M base w w' :=
  walOpen_all base K d S most w h hv hbase h5 hK hm hd hs hf hr
end Go.Proofs.YtoineobjmllicaaGreatDoor
