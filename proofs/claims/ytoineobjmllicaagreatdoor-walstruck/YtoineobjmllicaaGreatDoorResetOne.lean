/- Several texts in one: WalReset. -/
import Derived.Test.YtoineobjmllicaaGreatDoorWlTwo
import Derived.Test.YtoineobjmllicaaGreatDoorAddsOne
/- Contract: records are laid in the place of all. -/
namespace Go.Wal
open Go.RowKit Go.Dk
variable {M : Nat → Prop}
/-- What Reset does: the disk, the log, the error. -/
def resetOf (l : Lg) (a : A) (recs : List Bs) : A × Lg × Int :=
  if a.down = true then (a, l, 7)
  else if (layOf a (l.last + 1) (hd true ++ frs recs)).2 ≠ 0 then ((layOf a (l.last + 1) (hd true ++ frs recs)).1, l, (layOf a (l.last + 1) (hd true ++ frs recs)).2)
  else ((sweepOf ⟨l.most, l.last + 1, l.last + 1, (hd true ++ frs recs).length, recs⟩ (nums (layOf a (l.last + 1) (hd true ++ frs recs)).1.files) (layOf a (l.last + 1) (hd true ++ frs recs)).1 0).1, ⟨l.most, l.last + 1, l.last + 1, (hd true ++ frs recs).length, recs⟩, (sweepOf ⟨l.most, l.last + 1, l.last + 1, (hd true ++ frs recs).length, recs⟩ (nums (layOf a (l.last + 1) (hd true ++ frs recs)).1.files) (layOf a (l.last + 1) (hd true ++ frs recs)).1 0).2.2)
theorem own_mono {w : World} {B B' e k n : Nat} {v : Value} {xs : List Value} (h : w.ownsRow B e k v n xs) (hle : B' ≤ B) : w.ownsRow B' e k v n xs := by
  refine ⟨h.1, ?_⟩
  rcases h.2 with h' | ⟨g, cap, cur, h1, h2, h3⟩
  · exact .inl h'
  · exact .inr ⟨g, cap, cur, h1, Nat.le_trans hle h2, h3⟩
/-- Other records are laid. -/
theorem LogAt.relaid {T base b d : Nat} {l : Lg} {rv rv' : Value} {w : World} {ls : List Bs} (h : LogAt T base b d l rv w) (hown : w.ownsRow base 9 1 rv' ls.length (tv ls)) (hap : rv'.ownBlock ≠ some b) : LogAt T base b d ⟨l.most, l.first, l.last, l.size, ls⟩ rv' (w.setCell ⟨b, 2, none⟩ rv') :=
  ⟨by rw [heap_setCell_same _ _ _ _ _ _ h.row]; rfl, ownsRow_kept hown fun g hg => heap_setCell_other _ _ _ _ fun e => hap (by rw [← show g = b from e]; exact hg), hap, h.ge⟩
theorem Lds.then {base b : Nat} {rv : Value} {w w1 w2 : World} (h : Lds M base b rv w w1) (k : Dsk M base w1 w2) : Lds M base b rv w w2 :=
  Tch.trans h k (fun _ x => x) fun j hj ⟨h1, o, h2, h3⟩ => by
    by_cases hx : Mine M base w j ∨ j = b ∨ rv.ownBlock = some j
    · exact hx
    · exact .inl ⟨h1, o, by rw [← h.block j hj hx]; exact h2, h3⟩
end Go.Wal
namespace Go.Proofs.YtoineobjmllicaaGreatDoor
open Go.RowKit Go.Dk Go.Wal
variable {M : Nat → Prop}
theorem Vars.set {w : World} (h : Vars w) {b : Nat} (hb : 5 ≤ b) (j : Nat) (v : Value) : Vars (w.setCell ⟨b, j, none⟩ v) := VarsOf.kept h gPow (by decide) (by decide) (by decide) (by rw [World.size_setCell]; exact Nat.le_refl _) fun k hk => heap_setCell_other _ _ _ _ (show k ≠ b by omega)
theorem clone_any (v : Value) (ls : List Bs) (w : World) (hT : Texts w v ls) (hva : ∃ a c, v = .slice a ls.length c ∧ (a = none ∨ ∃ b off, a = some ⟨b, off, none⟩)) (hn : ls.length ≤ 1000000) :
    Calls Tryz.prog 44 #[v] w fun e w' => ∃ v', e = .returned v' ∧ w'.ownsRow w.heap.size 9 1 v' ls.length (tv ls) ∧ Below w.heap.size w w' := by
  obtain ⟨a, c, rfl, ha⟩ := hva
  obtain ⟨a', c', h1, h2, h3⟩ := hT
  cases h1
  rcases ha with rfl | ⟨b, off, rfl⟩
  · have hls : ls = [] := by
      cases ls with
      | nil => rfl
      | cons x xs => obtain ⟨b, off, h4, _⟩ := h3 0 x rfl; cases h4
    subst hls
    refine (Any.slices_Clone_string_nil cloneSL 0 c w).mono ?_
    rintro e w' ⟨he, rfl⟩
    exact ⟨_, he, World.ownsRow_nil _ _ _ _, Below.refl _ _⟩
  · have hzl : (ls.map fun l => (⟨l.toArray⟩ : ByteArray)).length = ls.length := List.length_map ..
    refine (Any.slices_Clone_string cloneSL b off ls.length c (ls.map fun l => (⟨l.toArray⟩ : ByteArray)) w (Nat.le_of_eq hzl.symm) (by omega) fun j hj => ?_).mono ?_
    · rw [hzl] at hj
      obtain ⟨b', off', h4, h5⟩ := h3 j _ (List.getElem?_eq_getElem hj)
      cases h4
      rw [h5]
      simp [List.getD, hj]
    · rintro e w' ⟨v', he, ho, _, hb⟩
      refine ⟨v', he, ?_, hb⟩
      rw [List.take_of_length_le (Nat.le_of_eq hzl), List.map_map] at ho
      exact ho
set_option maxRecDepth 100000 in
set_option maxHeartbeats 4000000 in
theorem reset_any (hM : ∀ b, M b) (base base' K b d : Nat) (S : WD) (l : Lg) (rv v : Value) (ls : List Bs) (w : World) (h : DiskAt Tryz.prog M base K d w S) (hv : Vars w) (hL : LogAt TLog base' b d l rv w) (hT : Texts w v ls) (hTd : ∀ w', Dsk M base w w' → Texts w' v ls) (hva : ∃ a c, v = .slice a ls.length c ∧ (a = none ∨ ∃ b off, a = some ⟨b, off, none⟩)) (hbase : base ≤ w.heap.size) (hbase' : base' ≤ w.heap.size) (h5 : 5 ≤ base) (h5' : 5 ≤ base') (hK : K + 2 ≤ 5000) (hl : l.last ≤ 2000000) (hs : ∀ t ∈ ls, t.length ≤ 1000) (hn : ls.length ≤ 1000) (hz : (frs ls).length ≤ 1980)
    (hA : (layOf S.a (l.last + 1) (hd true ++ frs ls)).2 = 0 → (layOf S.a (l.last + 1) (hd true ++ frs ls)).1.down = false ∧ Sm (layOf S.a (l.last + 1) (hd true ++ frs ls)).1.files ∧ K + 2 + (layOf S.a (l.last + 1) (hd true ++ frs ls)).1.files.length ≤ 4990) (K2 : Nat) (hK2 : (layOf S.a (l.last + 1) (hd true ++ frs ls)).2 = 0 → K + 2 + (layOf S.a (l.last + 1) (hd true ++ frs ls)).1.files.length ≤ K2) (hK3 : K + 2 ≤ K2) (hK4 : K2 ≤ 5000) :
    Calls Tryz.prog 13 #[.pointer (some ⟨b, 0, none⟩), v] w fun e w' => e = .returned (.int .i64 (resetOf l S.a ls).2.2) ∧ (∃ rv', LogAt TLog base' b d (resetOf l S.a ls).2.1 rv' w' ∧ Since w rv rv') ∧ (∃ T : WD, T.a = (resetOf l S.a ls).1 ∧ DiskAt Tryz.prog M base K2 d w' T) ∧ Lds M base b rv w w' := by
  have HFH : Hid (∀ w, Calls Tryz.prog 41 #[.string ⟨#[66]⟩] w fun e w' => e = .returned (.string ⟨(hd true).toArray⟩) ∧ Below w.heap.size w w') := frameH true
  have hcat : (⟨(hd true).toArray⟩ : ByteArray) ++ ⟨(frs ls).toArray⟩ = ⟨(hd true ++ frs ls).toArray⟩ := ba_append _ _
  have hhl : (hd true).length = 17 := hd_length true
  have HO : Hid (resetOf l S.a ls = if S.a.down = true then (S.a, l, 7) else if (layOf S.a (l.last + 1) (hd true ++ frs ls)).2 ≠ 0 then ((layOf S.a (l.last + 1) (hd true ++ frs ls)).1, l, (layOf S.a (l.last + 1) (hd true ++ frs ls)).2)
    else ((sweepOf ⟨l.most, l.last + 1, l.last + 1, (hd true ++ frs ls).length, ls⟩ (nums (layOf S.a (l.last + 1) (hd true ++ frs ls)).1.files) (layOf S.a (l.last + 1) (hd true ++ frs ls)).1 0).1, ⟨l.most, l.last + 1, l.last + 1, (hd true ++ frs ls).length, ls⟩, (sweepOf ⟨l.most, l.last + 1, l.last + 1, (hd true ++ frs ls).length, ls⟩ (nums (layOf S.a (l.last + 1) (hd true ++ frs ls)).1.files) (layOf S.a (l.last + 1) (hd true ++ frs ls)).1 0).2.2)) := rfl
  generalize resetOf l S.a ls = O at *
  generalize hd true = H at *
  have HAB : Hid (∀ U, Below w.heap.size w U → Calls Tryz.prog 40 #[.pointer (some ⟨b, 0, none⟩), .int .i64 ((l.last : Int) + 1)] U fun e w' => e = .returned (.int .i64 (if S.a.down = true then 7 else 0)) ∧ U = w') := fun U hU => walAble_any base base' K b d (l.last + 1) S l rv U (h.below hU) (hL.below hU) (by omega)
  have HFR : Hid (∀ U, Below w.heap.size w U → Calls Tryz.prog 42 #[v] U fun e w' => e = .returned (.string ⟨(frs ls).toArray⟩) ∧ Below w.heap.size w w') := fun U hU => (frames_any v ls U (hT.below hU) hs hn).mono fun e w' ⟨he, hb⟩ => ⟨he, hU.trans (hb.mono hU.size)⟩
  have HLA : Hid (∀ U, Below w.heap.size w U → Calls Tryz.prog 43 #[.pointer (some ⟨b, 0, none⟩), .int .i64 ((l.last : Int) + 1), .string (⟨H.toArray⟩ ++ ⟨(frs ls).toArray⟩)] U fun e w' => e = .returned (.int .i64 (layOf S.a (l.last + 1) (H ++ frs ls)).2) ∧ (∃ T : WD, T.a = (layOf S.a (l.last + 1) (H ++ frs ls)).1 ∧ DiskAt Tryz.prog M base (K + 2) d w' T) ∧ Dsk M base w w') := fun U hU => by
    rw [hcat]
    exact (lay_any hM base base' K b d (l.last + 1) S l rv (H ++ frs ls) U (h.below hU) (Vars.below hv hU) (hL.below hU) (Nat.le_trans hbase hU.size) h5 hK (by omega) (by rw [List.length_append]; omega)).mono fun e w' ⟨he, ht, hk⟩ => ⟨he, ht, Dsk.trans (.of_below hU) hk⟩
  have HX := hide (And.intro h (And.intro hv (And.intro hL hTd)))
  have HVA := hide hva
  have hbl : b < w.heap.size := block_lt hL.row
  have hbb : 5 ≤ b := Nat.le_trans h5' hL.ge
  have c4 := hL.cells.2.2.2.2.1
  have hfz : (⟨(frs ls).toArray⟩ : ByteArray).size = (frs ls).length := ba_size _
  have hhz : (⟨H.toArray⟩ : ByteArray).size = H.length := ba_size _
  have HN : Hid (ls.length ≤ 1000000) := Nat.le_trans hn (by decide)
  clear h hv hL hT hTd hs hcat
  obtain ⟨va, vc, hv1, -⟩ := hva
  subst hv1
  go_enter Tryz.func13, Tryz.ntmps13
  cases hdn : S.a.down with
  | true =>
    rw [hdn] at HAB HO
    rw [if_pos rfl] at HO
    go_wp2_with (go_at_call 40; refine (HAB.out _ (Below.refl _ _)).mono ?_; rintro e w2 ⟨rfl, rfl⟩)
    go_ret
    rw [HO.out]
    exact ⟨rfl, ⟨rv, HX.out.2.2.1, Since.same _ _⟩, ⟨S, rfl, HX.out.1.mono (by omega) hK4⟩, Tch.refl _ _⟩
  | false =>
    rw [hdn] at HAB HO
    rw [if_neg (by decide)] at HO
    go_upto_region 9 with (first
      | (go_at_call 40; refine (HAB.out _ (Below.refl _ _)).mono ?_; rintro e w2 ⟨rfl, rfl⟩)
      | (go_at_call 41; refine (HFH.out _).mono ?_; rintro e w2 ⟨rfl, k2⟩; have K2' := hide k2; clear k2)
      | (go_at_call 42; refine (HFR.out _ K2'.out).mono ?_; rintro e w3 ⟨rfl, k3⟩; have K3 := hide k3; clear k3)
      | (go_at_call 43; refine (HLA.out _ K3.out).mono ?_; rintro e w4 ⟨rfl, ⟨T4, hT4, hD4⟩, k4⟩; have H4 := hide (And.intro hT4 (And.intro hD4 k4)); clear hT4 hD4 k4))
    clear HLA HFR HFH HAB K2' K3
    have hhl2 : (H ++ frs ls).length = 17 + (frs ls).length := by rw [List.length_append]; omega
    generalize H ++ frs ls = F at *
    generalize layOf S.a (l.last + 1) F = r at *
    obtain ⟨ra, re⟩ := r
    simp only at HO H4 hA hK2
    have L4 := hide (HX.out.2.2.1.dsk H4.out.2.2)
    by_cases h0 : re = 0
    · subst h0
      rw [if_neg (by simp)] at HO
      obtain ⟨hdn2, hsm2, hkk⟩ := hA (by first | rfl | trivial)
      have hb4 : base ≤ w4.heap.size := Nat.le_trans hbase H4.out.2.2.size
      have hbl4 : b < w4.heap.size := block_lt L4.out.row
      have HCL : Hid (Calls Tryz.prog 44 #[.slice va ls.length vc] w4 fun e w' => ∃ a c, e = .returned (.slice a ls.length c) ∧ LogAt TLog base' b d l rv w' ∧ w'.ownsRow base' 9 1 (.slice a ls.length c) ls.length (tv ls) ∧ (Value.slice a ls.length c).ownBlock ≠ some b ∧ Below w4.heap.size w4 w' ∧ ∀ g, (Value.slice a ls.length c).ownBlock = some g → w4.heap.size ≤ g) :=
        (clone_any _ ls w4 (HX.out.2.2.2 w4 H4.out.2.2) HVA.out HN.out).mono fun e w' ⟨v', he, ho, hb⟩ => by
          obtain ⟨a, c, rfl⟩ := own_form ho
          exact ⟨a, c, he, L4.out.below hb, own_mono ho (Nat.le_trans hbase' H4.out.2.2.size), fun x => absurd (ownsRow_ge ho x) (by omega), hb, fun g x => ownsRow_ge ho x⟩
      go_upto_region 12 with (go_at_call 44; refine HCL.out.mono ?_; rintro e w5 ⟨ca, cc, rfl, hL5, ho5, hap5, k5, s5⟩; have SN : Hid (Since w rv (.slice ca ls.length cc)) := (fun g hg => .inr (Nat.le_trans H4.out.2.2.size (s5 g hg))); clear s5; have H5 := hide (And.intro hL5 (And.intro ho5 (And.intro hap5 k5))); have p2 := hL5.cells.2.2.1; have f2 := hL5.frozen 2; have L6 := hide (hL5.relaid ho5 hap5); have p3 := L6.out.cells.2.2.2.1; have f3 := L6.out.frozen 3; have L7 := hide (L6.out.set (l' := ⟨l.most, l.last + 1, l.last, l.size, ls⟩) 3 (.int .i64 ((l.last : Int) + 1)) rfl rfl); have p4 := L7.out.cells.2.2.2.2.1; have f4 := L7.out.frozen 4; have L8 := hide (L7.out.set (l' := ⟨l.most, l.last + 1, l.last + 1, l.size, ls⟩) 4 (.int .i64 ((l.last : Int) + 1)) rfl rfl); have p5 := L8.out.cells.2.2.2.2.2; have f5 := L8.out.frozen 5; clear hL5 ho5 hap5 k5)
      have hFI : (F.length : Int) = 17 + ((frs ls).length : Int) := by omega
      have L9 := hide (L8.out.set (l' := ⟨l.most, l.last + 1, l.last + 1, F.length, ls⟩) 5 (.int .i64 (17 + ((frs ls).length : Int))) (by rw [← hFI]; rfl) rfl)
      have DT : Hid (Lds M base b rv w w5) := Tch.trans H4.out.2.2 (Tch.of_below (X := fun _ => False) H5.out.2.2.2) (fun _ x => .inl x) (fun _ _ x => x.elim)
      have D9 := hide (show DiskAt Tryz.prog M base (K + 2) d _ T4 from disk_log (disk_log (disk_log (disk_log (H4.out.2.1.below H5.out.2.2.2) H5.out.1 2 (.slice ca ls.length cc)) L6.out 3 (.int .i64 ((l.last : Int) + 1))) L7.out 4 (.int .i64 ((l.last : Int) + 1))) L8.out 5 (.int .i64 (17 + ((frs ls).length : Int))))
      have V9 := hide (Vars.set (Vars.set (Vars.set (Vars.set (Vars.below (Vars.dsk HX.out.2.1 H4.out.2.2 h5) H5.out.2.2.2) hbb 2 (.slice ca ls.length cc)) hbb 3 (.int .i64 ((l.last : Int) + 1))) hbb 4 (.int .i64 ((l.last : Int) + 1))) hbb 5 (.int .i64 (17 + ((frs ls).length : Int))))
      have F9 : Hid (Lds M base b rv w ((((w5.setCell ⟨b, 2, none⟩ (.slice ca ls.length cc)).setCell ⟨b, 3, none⟩ (.int .i64 ((l.last : Int) + 1))).setCell ⟨b, 4, none⟩ (.int .i64 ((l.last : Int) + 1))).setCell ⟨b, 5, none⟩ (.int .i64 (17 + ((frs ls).length : Int))))) :=
        Tch.trans DT.out (lgs_set (lgs_set (lgs_set (lgs_set (Tch.refl (fun k => k = b ∨ rv.ownBlock = some k) w5) 2 _) 3 _) 4 _) 5 _) (fun _ x => x) (fun _ _ x => .inr x)
      have hb9 : base ≤ ((((w5.setCell ⟨b, 2, none⟩ (.slice ca ls.length cc)).setCell ⟨b, 3, none⟩ (.int .i64 ((l.last : Int) + 1))).setCell ⟨b, 4, none⟩ (.int .i64 ((l.last : Int) + 1))).setCell ⟨b, 5, none⟩ (.int .i64 (17 + ((frs ls).length : Int)))).heap.size := Nat.le_trans hbase F9.out.size
      obtain ⟨w9, hw9⟩ : ∃ w9, w9 = (((w5.setCell ⟨b, 2, none⟩ (.slice ca ls.length cc)).setCell ⟨b, 3, none⟩ (.int .i64 ((l.last : Int) + 1))).setCell ⟨b, 4, none⟩ (.int .i64 ((l.last : Int) + 1))).setCell ⟨b, 5, none⟩ (.int .i64 (17 + ((frs ls).length : Int))) := ⟨_, rfl⟩
      rw [← hw9] at L9 D9 V9 F9 hb9
      have HSW : Hid (Calls Tryz.prog 38 #[.pointer (some ⟨b, 0, none⟩)] w9 fun e w' => e = .returned (.tuple #[.int .i64 ((sweepOf ⟨l.most, l.last + 1, l.last + 1, F.length, ls⟩ (nums ra.files) ra 0).2.1 : Nat), .int .i64 (sweepOf ⟨l.most, l.last + 1, l.last + 1, F.length, ls⟩ (nums ra.files) ra 0).2.2]) ∧ (∃ T : WD, T.a = (sweepOf ⟨l.most, l.last + 1, l.last + 1, F.length, ls⟩ (nums ra.files) ra 0).1 ∧ DiskAt Tryz.prog M base (K + 2 + ra.files.length) d w' T) ∧ Dsk M base w9 w') := by
        have := sweep_any base base' (K + 2) b d T4 ⟨l.most, l.last + 1, l.last + 1, F.length, ls⟩ (.slice ca ls.length cc) w9 D9.out V9.out L9.out hb9 h5 (by rw [H4.out.1]; exact hkk) (by rw [H4.out.1]; exact hdn2) (by rw [H4.out.1]; exact hsm2) ⟨by show l.last + 1 < _; omega, by show l.last + 1 < _; omega, by show F.length < _; omega⟩
        rw [H4.out.1] at this
        exact this
      rw [← hw9]
      clear hw9 p2 f2 p3 f3 p4 f4 p5 f5 L6 L7 L8 hFI
      generalize sweepOf ⟨l.most, l.last + 1, l.last + 1, F.length, ls⟩ (nums ra.files) ra 0 = q at *
      go_wp2_with (go_at_call 38; refine HSW.out.mono ?_; rintro e wA ⟨rfl, ⟨TA, hTA, hDA⟩, kA⟩; have HA' := hide (And.intro hTA (And.intro hDA kA)); clear hTA hDA kA)
      go_ret
      rw [HO.out]
      exact ⟨rfl, ⟨_, L9.out.dsk HA'.out.2.2, SN.out⟩, ⟨TA, HA'.out.1, HA'.out.2.1.mono (hK2 (by first | rfl | trivial)) hK4⟩, Lds.then F9.out HA'.out.2.2⟩
    · rw [if_pos h0] at HO
      have hrb : (re == 0) = false := by simpa using h0
      go_wp2_with fail
      go_ret
      rw [HO.out]
      exact ⟨rfl, ⟨rv, L4.out, Since.same _ _⟩, ⟨T4, H4.out.1, H4.out.2.1.mono hK3 hK4⟩, H4.out.2.2.mono fun _ x => .inl x⟩
end Go.Proofs.YtoineobjmllicaaGreatDoor
