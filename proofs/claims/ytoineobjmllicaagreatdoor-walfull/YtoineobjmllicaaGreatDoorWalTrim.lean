/- Contracts: what does not count of a segment goes; what never came to its number goes. -/
import Derived.Test.YtoineobjmllicaaGreatDoorWalGather
import Derived.Deep.RegionHeld
namespace Go.Wal
open Go.RowKit Go.Dk
variable {M : Nat → Prop}
theorem LogAt.dsk {base base' b d : Nat} {l : Lg} {rv : Value} {w w' : World} (h : LogAt 69 base' b d l rv w) (hk : Dsk M base w w') : LogAt 69 base' b d l rv w' :=
  ⟨box_kept hk h.row (by simp [dkind]), ownsRow_kept h.recs fun g hg => by
    obtain ⟨cur, hc⟩ := ownsRow_tag h.recs hg
    exact hk.block g (block_lt hc) fun ⟨_, o, ho, hd⟩ => by
      rw [hc] at ho
      cases ho
      simp [dkind] at hd, h.apart, h.ge⟩
/-- What trim does to the plain disk: the disk, how many bytes went, the error. -/
def trimOf (l : Lg) (n size : Nat) (a : A) : A × Nat × Int :=
  if n < l.first ∨ l.last < n then ((a.doRemove (seg n)).1, size, (a.doRemove (seg n)).2)
  else if n = l.last ∧ l.size < size then ((a.doTrunc (seg n) (l.size : Int)).1, size - l.size, (a.doTrunc (seg n) (l.size : Int)).2)
  else (a, 0, 0)
end Go.Wal
namespace Go.Proofs.YtoineobjmllicaaGreatDoor
open Go.RowKit Go.Dk Go.Wal
variable {M : Nat → Prop}
set_option maxRecDepth 100000 in
set_option maxHeartbeats 4000000 in
theorem trim_any (base base' K b d n size : Nat) (S : WD) (l : Lg) (rv : Value) (w : World) (h : DiskAt Tryz.prog M base K d w S) (hv : Vars w) (hL : LogAt TLog base' b d l rv w) (hbase : base ≤ w.heap.size) (hK : K + 1 ≤ 5000) (hn : n < 9223372036854775808) (hz : size ≤ 1000000) (hl : l.first < 9223372036854775808 ∧ l.last < 9223372036854775808 ∧ l.size < 9223372036854775808) :
    Calls Tryz.prog 69 #[.pointer (some ⟨b, 0, none⟩), .int .i64 n, .int .i64 size] w fun e w' => e = .returned (.tuple #[.int .i64 ((trimOf l n size S.a).2.1 : Nat), .int .i64 (trimOf l n size S.a).2.2]) ∧ (∃ T : WD, T.a = (trimOf l n size S.a).1 ∧ DiskAt Tryz.prog M base (K + 1) d w' T) ∧ Dsk M base w w' := by
  have hsz : (⟨(seg n).toArray⟩ : ByteArray).size ≤ maxLen := by rw [ba_size]; have := seg_length n hn; unfold maxLen; omega
  have HF : Hid (∀ U, Below w.heap.size w U → Calls Tryz.prog 51 #[.int .i64 n] U fun e w' => e = .returned (.string ⟨(seg n).toArray⟩) ∧ Below w.heap.size w w') := fun U hU =>
    (fileName_any n U (Vars.below hv hU) hn).mono fun e w' ⟨he, hb⟩ => ⟨he, hU.trans (hb.mono hU.size)⟩
  have HL := hide hL
  have HD := hide h
  clear h hv hL
  obtain ⟨c0, c1, c2, c3, c4, c5⟩ := HL.out.cells
  by_cases h1 : n < l.first ∨ l.last < n
  · have hT : trimOf l n size S.a = ((S.a.doRemove (seg n)).1, size, (S.a.doRemove (seg n)).2) := by unfold trimOf; rw [if_pos h1]
    rw [hT]
    have HR : Hid (∀ U, Below w.heap.size w U → Calls Tryz.prog 70 #[.pointer (some ⟨d, 0, none⟩), .string ⟨(seg n).toArray⟩] U fun e w' => e = .returned (.int .i64 (S.a.doRemove (seg n)).2) ∧ (∃ T : WD, T.a = (S.a.doRemove (seg n)).1 ∧ DiskAt Tryz.prog M base (K + 1) d w' T) ∧ Dsk M base w w') := fun U hU =>
      (remove_op base K d S ⟨(seg n).toArray⟩ U (HD.out.below hU) (Nat.le_trans hbase hU.size) hK hsz).mono fun e w' ⟨he, T, hT', hD', hk⟩ => ⟨he, ⟨T, hT', hD'⟩, Dsk.trans (.of_below hU) hk⟩
    have hg : (if (n : Int) < (l.first : Int) then true else decide ((l.last : Int) < (n : Int))) = true := by
      split
      · rfl
      · exact decide_eq_true (by omega)
    have hbl : b < w.heap.size := block_lt HL.out.row
    generalize S.a.doRemove (seg n) = r at *
    clear hT HD
    go_enter Tryz.func69, Tryz.ntmps69
    by_cases h2 : n < l.first
    · have hd1 : decide ((n : Int) < (l.first : Int)) = true := decide_eq_true (by omega)
      go_upto_region 2 with fail
      go_region_held (fun w' => w'.cell? ⟨b, 0, none⟩ = some (.pointer (some ⟨d, 0, none⟩))) (first | exact c0 | exact e0 | exact g0) (first
        | (go_at_call 51; refine (HF.out _ (by first | exact Below.refl _ _ | exact ⟨rfl, rfl, rfl, Nat.le_refl _, fun _ _ => rfl⟩)).mono ?_; rintro e w1 ⟨rfl, k1⟩; have K1 := hide k1; have e0 := (k1.cell (p := ⟨b, 0, none⟩) hbl).trans c0; clear k1)
        | (go_at_call 70; refine (HR.out _ K1.out).mono ?_; rintro e w2 ⟨rfl, t2, k2⟩; have H2 := hide (And.intro t2 k2); have g0 := (HL.out.dsk k2).cells.1; clear t2 k2))
      all_goals (go_wp2; go_ret2; exact ⟨rfl, H2.out.1, H2.out.2⟩)
    · have hd1 : decide ((n : Int) < (l.first : Int)) = false := decide_eq_false (by omega)
      have hd2 : decide ((l.last : Int) < (n : Int)) = true := decide_eq_true (by omega)
      go_upto_region 2 with fail
      go_region_held (fun w' => w'.cell? ⟨b, 0, none⟩ = some (.pointer (some ⟨d, 0, none⟩))) (first | exact c0 | exact e0 | exact g0) (first
        | (go_at_call 51; refine (HF.out _ (by first | exact Below.refl _ _ | exact ⟨rfl, rfl, rfl, Nat.le_refl _, fun _ _ => rfl⟩)).mono ?_; rintro e w1 ⟨rfl, k1⟩; have K1 := hide k1; have e0 := (k1.cell (p := ⟨b, 0, none⟩) hbl).trans c0; clear k1)
        | (go_at_call 70; refine (HR.out _ K1.out).mono ?_; rintro e w2 ⟨rfl, t2, k2⟩; have H2 := hide (And.intro t2 k2); have g0 := (HL.out.dsk k2).cells.1; clear t2 k2))
      all_goals (go_wp2; go_ret2; exact ⟨rfl, H2.out.1, H2.out.2⟩)
  · have hd1 : decide ((n : Int) < (l.first : Int)) = false := decide_eq_false (by omega)
    have hd2 : decide ((l.last : Int) < (n : Int)) = false := decide_eq_false (by omega)
    have hbl : b < w.heap.size := block_lt HL.out.row
    by_cases h2 : n = l.last ∧ l.size < size
    · have hT : trimOf l n size S.a = ((S.a.doTrunc (seg n) (l.size : Int)).1, size - l.size, (S.a.doTrunc (seg n) (l.size : Int)).2) := by unfold trimOf; rw [if_neg h1, if_pos h2]
      rw [hT]
      have HR : Hid (∀ U, Below w.heap.size w U → Calls Tryz.prog 98 #[.pointer (some ⟨d, 0, none⟩), .string ⟨(seg n).toArray⟩, .int .i64 (l.size : Int)] U fun e w' => e = .returned (.int .i64 (S.a.doTrunc (seg n) (l.size : Int)).2) ∧ (∃ T : WD, T.a = (S.a.doTrunc (seg n) (l.size : Int)).1 ∧ DiskAt Tryz.prog M base (K + 1) d w' T) ∧ Dsk M base w w') := fun U hU =>
        (trunc_op base K d S ⟨(seg n).toArray⟩ (l.size : Int) U (HD.out.below hU) (Nat.le_trans hbase hU.size) hK hsz).mono fun e w' ⟨he, T, hT', hD', hk⟩ => ⟨he, ⟨T, hT', hD'⟩, Dsk.trans (.of_below hU) hk⟩
      generalize S.a.doTrunc (seg n) (l.size : Int) = r at *
      obtain ⟨rfl, h2b⟩ := h2
      have hd4 : decide ((l.size : Int) < (size : Int)) = true := decide_eq_true (by omega)
      have hwrap : IntKind.i64.wrap ((size : Int) - (l.size : Int)) = (size : Int) - (l.size : Int) := by simp [IntKind.wrap, IntKind.bits, IntKind.signed]; omega
      have hsub : ((size - l.size : Nat) : Int) = (size : Int) - (l.size : Int) := by omega
      rw [hsub]
      clear hT HD hsub
      go_enter Tryz.func69, Tryz.ntmps69
      go_upto_region 4 with fail
      go_region_held (fun w' => w'.cell? ⟨b, 0, none⟩ = some (.pointer (some ⟨d, 0, none⟩)) ∧ w'.cell? ⟨b, 5, none⟩ = some (.int .i64 (l.size : Int))) (first | exact ⟨c0, c5⟩ | exact ⟨e0, e5⟩ | exact ⟨g0, g5⟩) (first
        | (go_at_call 51; refine (HF.out _ (by first | exact Below.refl _ _ | exact ⟨rfl, rfl, rfl, Nat.le_refl _, fun _ _ => rfl⟩)).mono ?_; rintro e w1 ⟨rfl, k1⟩; have K1 := hide k1; have e0 := (k1.cell (p := ⟨b, 0, none⟩) hbl).trans c0; have e5 := (k1.cell (p := ⟨b, 5, none⟩) hbl).trans c5; clear k1)
        | (go_at_call 98; refine (HR.out _ K1.out).mono ?_; rintro e w2 ⟨rfl, t2, k2⟩; have H2 := hide (And.intro t2 k2); have g0 := (HL.out.dsk k2).cells.1; have g5 := (HL.out.dsk k2).cells.2.2.2.2.2; clear t2 k2))
      all_goals (go_wp2; go_ret2; exact ⟨by rfl, H2.out.1, H2.out.2⟩)
    · have hT : trimOf l n size S.a = (S.a, 0, 0) := by unfold trimOf; rw [if_neg h1, if_neg h2]
      rw [hT]
      have HEND : Hid ((∃ T : WD, T.a = S.a ∧ DiskAt Tryz.prog M base (K + 1) d w T) ∧ Dsk M base w w) := ⟨⟨S, rfl, HD.out.mono (Nat.le_succ _) hK⟩, Dsk.of_below (Below.refl _ _)⟩
      clear hT HD
      by_cases h3 : n = l.last
      · subst h3
        have hd4 : decide ((l.size : Int) < (size : Int)) = false := decide_eq_false (by omega)
        go_enter Tryz.func69, Tryz.ntmps69
        go_wp2_with fail
        go_ret2
        exact ⟨rfl, HEND.out⟩
      · have hd3 : ((n : Int) == (l.last : Int)) = false := by rw [beq_eq_false_iff_ne]; omega
        go_enter Tryz.func69, Tryz.ntmps69
        go_wp2_with fail
        go_ret2
        exact ⟨rfl, HEND.out⟩
/-- What dropUnfinished does to the plain disk. -/
theorem drop_any (base base' K b d : Nat) (S : WD) (l : Lg) (rv : Value) (w : World) (h : DiskAt Tryz.prog M base K d w S) (hL : LogAt TLog base' b d l rv w) (hbase : base ≤ w.heap.size) (hK : K + 1 ≤ 5000) :
    Calls Tryz.prog 39 #[.pointer (some ⟨b, 0, none⟩)] w fun e w' => e = .returned (.int .i64 (if (S.a.doRemove newB).2 = 2 then 0 else (S.a.doRemove newB).2)) ∧ (∃ T : WD, T.a = (S.a.doRemove newB).1 ∧ DiskAt Tryz.prog M base (K + 1) d w' T) ∧ Dsk M base w w' := by
  have HR : Hid (Calls Tryz.prog 70 #[.pointer (some ⟨d, 0, none⟩), .string ⟨#[108, 111, 103, 46, 110, 101, 119]⟩] w fun e w' => e = .returned (.int .i64 (S.a.doRemove newB).2) ∧ (∃ T : WD, T.a = (S.a.doRemove newB).1 ∧ DiskAt Tryz.prog M base (K + 1) d w' T) ∧ Dsk M base w w') :=
    (remove_op base K d S ⟨newB.toArray⟩ w h hbase hK (by decide)).mono fun e w' ⟨he, T, hT', hD', hk⟩ => ⟨he, ⟨T, hT', hD'⟩, hk⟩
  obtain ⟨c0, -⟩ := hL.cells
  generalize S.a.doRemove newB = r at *
  obtain ⟨a, e⟩ := r
  clear h hL
  by_cases h2 : e = 2
  · subst h2
    go_enter Tryz.func39, Tryz.ntmps39
    go_wp2_with (go_at_call 70; refine HR.out.mono ?_; rintro e w2 ⟨rfl, t2, k2⟩; have H2 := hide (And.intro t2 k2); clear t2 k2)
    go_ret
    exact ⟨rfl, H2.out⟩
  · have hb : (e == 2) = false := by simpa using h2
    simp only [if_neg h2]
    go_enter Tryz.func39, Tryz.ntmps39
    go_wp2_with (go_at_call 70; refine HR.out.mono ?_; rintro e' w2 ⟨rfl, t2, k2⟩; have H2 := hide (And.intro t2 k2); clear t2 k2)
    go_ret
    exact ⟨rfl, H2.out⟩
end Go.Proofs.YtoineobjmllicaaGreatDoor
