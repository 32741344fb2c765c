/- Several texts in one: WalAdd, WalLay. -/
import Derived.Test.YtoineobjmllicaaGreatDoorOpenOne
import Derived.BigQuiet
/- Contracts: where records come, whether they may, and records are added. -/
namespace Go.Wal
open Go.RowKit Go.Dk
variable {M : Nat → Prop}
/-- The segment into which records come, how many bytes it has, the head that it needs. -/
def placeOf (l : Lg) : Nat × Nat × Bs := if l.last = 0 then (1, 0, hd true) else if l.most ≤ l.size then (l.last + 1, 0, hd false) else (l.last, l.size, [])
/-- What Add does: the disk, the log, the error. -/
def addOf (l : Lg) (a : A) (recs : List Bs) : A × Lg × Int :=
  if a.down = true then (a, l, 7)
  else if (a.doPut (seg (placeOf l).1) ⟨(placeOf l).2.2 ++ frs recs, false⟩).2 ≠ 0 then ((a.doPut (seg (placeOf l).1) ⟨(placeOf l).2.2 ++ frs recs, false⟩).1, l, (a.doPut (seg (placeOf l).1) ⟨(placeOf l).2.2 ++ frs recs, false⟩).2)
  else if ((a.doPut (seg (placeOf l).1) ⟨(placeOf l).2.2 ++ frs recs, false⟩).1.doSync).2 ≠ 0 then (((a.doPut (seg (placeOf l).1) ⟨(placeOf l).2.2 ++ frs recs, false⟩).1.doSync).1, l, ((a.doPut (seg (placeOf l).1) ⟨(placeOf l).2.2 ++ frs recs, false⟩).1.doSync).2)
  else (((a.doPut (seg (placeOf l).1) ⟨(placeOf l).2.2 ++ frs recs, false⟩).1.doSync).1, ⟨l.most, max l.first 1, (placeOf l).1, (placeOf l).2.1 + ((placeOf l).2.2 ++ frs recs).length, l.recs ++ recs⟩, 0)
/-- What a log's calls turn: its disk's blocks, and its own. -/
abbrev Lds (M : Nat → Prop) (base b : Nat) (rv : Value) (w w' : World) : Prop := Tch (fun k => Mine M base w k ∨ k = b ∨ rv.ownBlock = some k) w w'
end Go.Wal
namespace Go.Proofs.YtoineobjmllicaaGreatDoor
open Go.RowKit Go.Dk Go.Wal
variable {M : Nat → Prop}
theorem frameH (b : Bool) (w : World) : Calls Tryz.prog 41 #[.string ⟨(if b = true then [66] else [71] : List UInt8).toArray⟩] w fun e w' => e = .returned (.string ⟨(hd b).toArray⟩) ∧ Below w.heap.size w w' := by
  have hsz : (⟨(if b = true then [66] else [71] : List UInt8).toArray⟩ : ByteArray).size ≤ 1000000 := by rw [ba_size]; cases b <;> decide
  unfold hd
  generalize (if b = true then [66] else [71] : List UInt8) = t at *
  rw [← frame_fr]
  exact frame_any _ w hsz
set_option maxHeartbeats 2000000 in
theorem place_any (base b d : Nat) (l : Lg) (rv : Value) (w : World) (h : LogAt TLog base b d l rv w) (hl : l.last ≤ 2000000 ∧ l.size ≤ 1000000000 ∧ l.most ≤ 9223372036854775807) :
    Calls Tryz.prog 49 #[.pointer (some ⟨b, 0, none⟩)] w fun e w' => e = .returned (.tuple #[.int .i64 ((placeOf l).1 : Nat), .int .i64 ((placeOf l).2.1 : Nat), .string ⟨(placeOf l).2.2.toArray⟩]) ∧ Below w.heap.size w w' := by
  obtain ⟨c0, c1, c2, c3, c4, c5⟩ := h.cells
  have hbl : b < w.heap.size := block_lt h.row
  clear h
  by_cases h0 : l.last = 0
  · have hp : placeOf l = (1, 0, hd true) := by unfold placeOf; rw [if_pos h0]
    rw [hp]
    have HF : Hid (∀ w, Calls Tryz.prog 41 #[.string ⟨#[66]⟩] w fun e w' => e = .returned (.string ⟨(hd true).toArray⟩) ∧ Below w.heap.size w w') := frameH true
    rw [h0] at c4
    clear h0 hp
    generalize hd true = H at *
    go_enter Tryz.func49, Tryz.ntmps49
    go_wp2_with (go_at_call 41; refine (HF.out _).mono ?_; rintro e w1 ⟨rfl, k1⟩)
    go_ret3
    exact ⟨rfl, k1⟩
  · have hb0 : ((l.last : Int) == 0) = false := by rw [beq_eq_false_iff_ne]; omega
    by_cases h1 : l.most ≤ l.size
    · have hp : placeOf l = (l.last + 1, 0, hd false) := by unfold placeOf; rw [if_neg h0, if_pos h1]
      rw [hp]
      have HF : Hid (∀ w, Calls Tryz.prog 41 #[.string ⟨#[71]⟩] w fun e w' => e = .returned (.string ⟨(hd false).toArray⟩) ∧ Below w.heap.size w w') := frameH false
      have hd1 : decide ((l.most : Int) ≤ (l.size : Int)) = true := decide_eq_true (by omega)
      clear hp
      generalize hd false = H at *
      go_enter Tryz.func49, Tryz.ntmps49
      go_upto_region 3 with fail
      go_quiet (fail)
      have d4 : (w.drewN nq).cell? ⟨b, 4, none⟩ = some (.int .i64 (l.last : Int)) := c4
      go_upto_region 4 with fail
      have e4 := cell_regrown d4
      refine QuietCalls.region (by kernel_rfl) (by kernel_rfl) ?_
      iterate 5 (first | go_big_quiet_step (fail) | quiet_step (fail))
      refine QuietCalls.call1 rfl rfl Tryz.call41 (fun w' _ => HF.out w') rfl ?_; simp only [Act.put, List.setIfInBounds_toArray, List.set_cons_succ, List.set_cons_zero]
      iterate 3 (first | go_big_quiet_step (fail) | quiet_step (fail))
      refine wpQuiet_nil ?_
      intro w3 k3
      have K3 : Hid (Below w.heap.size w w3) := (show Below w.heap.size w (w.drewN nq) from ⟨rfl, rfl, rfl, Nat.le_refl _, fun _ _ => rfl⟩).trans k3
      clear k3 e4 d4
      go_wp2
      go_ret3
      exact ⟨by rfl, K3.out⟩
    · have hp : placeOf l = (l.last, l.size, []) := by unfold placeOf; rw [if_neg h0, if_neg h1]
      rw [hp]
      have hd1 : decide ((l.most : Int) ≤ (l.size : Int)) = false := decide_eq_false (by omega)
      go_enter Tryz.func49, Tryz.ntmps49
      go_upto_region 3 with fail
      go_quiet (fail)
      have d4 : (w.drewN nq).cell? ⟨b, 4, none⟩ = some (.int .i64 (l.last : Int)) := c4
      have d5 : (w.drewN nq).cell? ⟨b, 5, none⟩ = some (.int .i64 (l.size : Int)) := c5
      go_upto_region 5 with fail
      go_quiet (fail)
      go_wp2
      go_ret3
      exact ⟨rfl, ⟨rfl, rfl, rfl, Nat.le_refl _, fun _ _ => rfl⟩⟩
theorem walAble_any (base base' K b d n : Nat) (S : WD) (l : Lg) (rv : Value) (w : World) (h : DiskAt Tryz.prog M base K d w S) (hL : LogAt TLog base' b d l rv w) (hn : 1 ≤ n) :
    Calls Tryz.prog 40 #[.pointer (some ⟨b, 0, none⟩), .int .i64 n] w fun e w' => e = .returned (.int .i64 (if S.a.down = true then 7 else 0)) ∧ w = w' := by
  have HD : Hid (Calls Tryz.prog 27 #[.pointer (some ⟨d, 0, none⟩)] w fun e w' => e = .returned (.bool S.a.down) ∧ w = w') := (deadAt base K d S w h).mono fun e w' ⟨h1, h2⟩ => ⟨h1, h2.symm⟩
  obtain ⟨c0, -⟩ := hL.cells
  have hd : decide ((n : Int) < 1) = false := decide_eq_false (by omega)
  clear h hL
  cases hdn : S.a.down with
  | true =>
    rw [hdn] at HD
    go_enter Tryz.func40, Tryz.ntmps40
    go_wp2_with (go_at_call 27; refine HD.out.mono ?_; rintro e w1 ⟨rfl, rfl⟩)
    go_ret
    exact ⟨rfl, rfl⟩
  | false =>
    rw [hdn] at HD
    go_enter Tryz.func40, Tryz.ntmps40
    go_wp2_with (go_at_call 27; refine HD.out.mono ?_; rintro e w1 ⟨rfl, rfl⟩)
    go_ret
    exact ⟨rfl, rfl⟩
end Go.Proofs.YtoineobjmllicaaGreatDoor
/- Contract: a segment is laid under a name that does not count, and gets its own. -/
namespace Go.Wal
open Go.RowKit Go.Dk
/-- What lay does to the plain disk. -/
def layOf (a : A) (n : Nat) (s : Bs) : A × Int :=
  if (a.doPut newB ⟨s, true⟩).2 ≠ 0 then a.doPut newB ⟨s, true⟩
  else if (a.doPut newB ⟨s, true⟩).1.doSync.2 ≠ 0 then (a.doPut newB ⟨s, true⟩).1.doSync
  else (a.doPut newB ⟨s, true⟩).1.doSync.1.doMove newB (seg n)
end Go.Wal
namespace Go.Proofs.YtoineobjmllicaaGreatDoor
open Go.RowKit Go.Dk Go.Wal
variable {M : Nat → Prop}
set_option maxRecDepth 100000 in
set_option maxHeartbeats 4000000 in
theorem lay_any (hM : ∀ b, M b) (base base' K b d n : Nat) (S : WD) (l : Lg) (rv : Value) (s : Bs) (w : World) (h : DiskAt Tryz.prog M base K d w S) (hv : Vars w) (hL : LogAt TLog base' b d l rv w) (hbase : base ≤ w.heap.size) (h5 : 5 ≤ base) (hK : K + 2 ≤ 5000) (hn : n < 9223372036854775808) (hz : s.length ≤ 2000) :
    Calls Tryz.prog 43 #[.pointer (some ⟨b, 0, none⟩), .int .i64 n, .string ⟨s.toArray⟩] w fun e w' => e = .returned (.int .i64 (layOf S.a n s).2) ∧ (∃ T : WD, T.a = (layOf S.a n s).1 ∧ DiskAt Tryz.prog M base (K + 2) d w' T) ∧ Dsk M base w w' := by
  have hsz : (⟨(seg n).toArray⟩ : ByteArray).size ≤ maxLen := by rw [ba_size]; have := seg_length n hn; unfold maxLen; omega
  have HWR : Hid (Calls Tryz.prog 31 #[.pointer (some ⟨d, 0, none⟩), .string ⟨#[108, 111, 103, 46, 110, 101, 119]⟩, .string ⟨s.toArray⟩] w fun e w' => e = .returned (.int .i64 (S.a.doPut newB ⟨s, true⟩).2) ∧ (∃ T : WD, T.a = (S.a.doPut newB ⟨s, true⟩).1 ∧ DiskAt Tryz.prog M base (K + 1) d w' T) ∧ Dsk M base w w') :=
    (write_op hM base K d S ⟨newB.toArray⟩ ⟨s.toArray⟩ w h hbase (by omega) (by decide) (by rw [ba_size]; exact hz)).mono fun e w' ⟨he, T, hT', hD', hk⟩ => ⟨he, ⟨T, hT', hD'⟩, hk⟩
  have HSY : Hid (∀ U (T : WD), DiskAt Tryz.prog M base (K + 1) d U T → Calls Tryz.prog 33 #[.pointer (some ⟨d, 0, none⟩)] U fun e w' => e = .returned (.int .i64 T.a.doSync.2) ∧ (∃ T' : WD, T'.a = T.a.doSync.1 ∧ DiskAt Tryz.prog M base (K + 1) d w' T') ∧ Dsk M base U w') := fun U T hT => (sync_op base (K + 1) d T U hT).mono fun e w' ⟨he, T', hT', hD', hk⟩ => ⟨he, ⟨T', hT', hD'⟩, hk⟩
  have HMV : Hid (∀ U (T : WD), DiskAt Tryz.prog M base (K + 1) d U T → base ≤ U.heap.size → Calls Tryz.prog 77 #[.pointer (some ⟨d, 0, none⟩), .string ⟨#[108, 111, 103, 46, 110, 101, 119]⟩, .string ⟨(seg n).toArray⟩] U fun e w' => e = .returned (.int .i64 (T.a.doMove newB (seg n)).2) ∧ (∃ T' : WD, T'.a = (T.a.doMove newB (seg n)).1 ∧ DiskAt Tryz.prog M base (K + 2) d w' T') ∧ Dsk M base U w') := fun U T hT hb => (move_op base (K + 1) d T ⟨newB.toArray⟩ ⟨(seg n).toArray⟩ U hT hb (by omega) (by decide) hsz).mono fun e w' ⟨he, T', hT', hD', hk⟩ => ⟨he, ⟨T', hT', hD'⟩, hk⟩
  have HO : Hid (layOf S.a n s = if (S.a.doPut newB ⟨s, true⟩).2 ≠ 0 then S.a.doPut newB ⟨s, true⟩ else if (S.a.doPut newB ⟨s, true⟩).1.doSync.2 ≠ 0 then (S.a.doPut newB ⟨s, true⟩).1.doSync else (S.a.doPut newB ⟨s, true⟩).1.doSync.1.doMove newB (seg n)) := rfl
  have HX := hide (And.intro hv hL)
  have c0 := hL.cells.1
  clear h hv hL hsz
  generalize layOf S.a n s = O at *
  generalize S.a.doPut newB ⟨s, true⟩ = r at *
  obtain ⟨ra, re⟩ := r
  simp only at HO HWR
  go_enter Tryz.func43, Tryz.ntmps43
  go_upto_region 2 with (go_at_call 31; refine HWR.out.mono ?_; rintro e w1 ⟨rfl, ⟨T1, hT1, hD1⟩, k1⟩; have H1 := hide (And.intro hT1 (And.intro hD1 k1)); have d0 := (HX.out.2.dsk k1).cells.1; clear hT1 hD1 k1)
  by_cases h0 : re = 0
  · subst h0
    rw [if_neg (by simp)] at HO
    have HS1 := hide (HSY.out w1 T1 H1.out.2.1)
    rw [H1.out.1] at HS1
    generalize ra.doSync = q at *
    obtain ⟨qa, qe⟩ := q
    simp only at HO HS1
    by_cases h1 : qe = 0
    · subst h1
      rw [if_neg (by simp)] at HO
      go_upto_region 7 with (go_at_call 33; refine HS1.out.mono ?_; rintro e w2 ⟨rfl, ⟨T2, hT2, hD2⟩, k2⟩; have H2 := hide (And.intro hT2 (And.intro hD2 (H1.out.2.2.trans k2))); have e0 := ((HX.out.2.dsk H1.out.2.2).dsk k2).cells.1; clear hT2 hD2 k2)
      have hb2 : base ≤ w2.heap.size := Nat.le_trans hbase H2.out.2.2.size
      have V2 := hide (Vars.dsk HX.out.1 H2.out.2.2 h5)
      have L2 := hide (HX.out.2.dsk H2.out.2.2)
      have hbl2 : b < w2.heap.size := block_lt L2.out.row
      have HFN : Hid (∀ U, Below w2.heap.size w2 U → Calls Tryz.prog 51 #[.int .i64 n] U fun e w' => e = .returned (.string ⟨(seg n).toArray⟩) ∧ Below w2.heap.size w2 w') := fun U hU => (fileName_any n U (Vars.below V2.out hU) hn).mono fun e w' ⟨he, hb⟩ => ⟨he, hU.trans (hb.mono hU.size)⟩
      have HM2 : Hid (∀ U, Below w2.heap.size w2 U → Calls Tryz.prog 77 #[.pointer (some ⟨d, 0, none⟩), .string ⟨#[108, 111, 103, 46, 110, 101, 119]⟩, .string ⟨(seg n).toArray⟩] U fun e w' => e = .returned (.int .i64 (qa.doMove newB (seg n)).2) ∧ (∃ T' : WD, T'.a = (qa.doMove newB (seg n)).1 ∧ DiskAt Tryz.prog M base (K + 2) d w' T') ∧ Dsk M base w2 w') := fun U hU => by
        have := HMV.out U T2 (H2.out.2.1.below hU) (Nat.le_trans hb2 hU.size)
        rw [H2.out.1] at this
        exact this.mono fun e w' ⟨he, ht, hk⟩ => ⟨he, ht, Dsk.trans (.of_below hU) hk⟩
      clear HMV HSY HS1 HWR d0
      generalize qa.doMove newB (seg n) = m at *
      go_region_held (fun w' => w'.cell? ⟨b, 0, none⟩ = some (.pointer (some ⟨d, 0, none⟩))) (first | exact e0 | exact g0 | exact j0) (first
        | (go_at_call 51; refine (HFN.out _ (Below.drew (Below.refl _ _))).mono ?_; rintro e w3 ⟨rfl, k3⟩; have K3 := hide k3; have g0 := (k3.cell (p := ⟨b, 0, none⟩) hbl2).trans e0; clear k3)
        | (go_at_call 77; refine (HM2.out _ K3.out).mono ?_; rintro e w4 ⟨rfl, t4, k4⟩; have H4 := hide (And.intro t4 k4); have j0 := (L2.out.dsk k4).cells.1; clear t4 k4))
      go_wp2
      go_ret
      rw [HO.out]
      exact ⟨rfl, H4.out.1, H2.out.2.2.trans H4.out.2⟩
    · rw [if_pos h1] at HO
      have hqb : (qe == 0) = false := by simpa using h1
      go_wp2_with (go_at_call 33; refine HS1.out.mono ?_; rintro e w2 ⟨rfl, ⟨T2, hT2, hD2⟩, k2⟩; have H2 := hide (And.intro hT2 (And.intro hD2 (H1.out.2.2.trans k2))); clear hT2 hD2 k2)
      go_ret
      rw [HO.out]
      exact ⟨rfl, ⟨T2, H2.out.1, H2.out.2.1.mono (Nat.le_succ _) hK⟩, H2.out.2.2⟩
  · rw [if_pos h0] at HO
    have hrb : (re == 0) = false := by simpa using h0
    go_wp2_with fail
    go_ret
    rw [HO.out]
    exact ⟨rfl, ⟨T1, H1.out.1, H1.out.2.1.mono (Nat.le_succ _) hK⟩, H1.out.2.2⟩
end Go.Proofs.YtoineobjmllicaaGreatDoor
