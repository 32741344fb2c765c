/- Several texts in one: WalAdds. -/
import Derived.Test.YtoineobjmllicaaGreatDoorWlTwo
/- Contract: records are added. -/
namespace Go.Wal
open Go.RowKit Go.Dk
variable {M : Nat → Prop}
theorem Lds.of {base b : Nat} {rv : Value} {w w1 w2 : World} (h : Dsk M base w w1) (k : Lgs b rv w1 w2) : Lds M base b rv w w2 := Tch.trans h k (fun _ x => .inl x) (fun _ _ x => .inr x)
theorem disk_log {P : Program} {base base' K d d' b : Nat} {l : Lg} {rv : Value} {S : WD} {W : World} (h : DiskAt P M base K d W S) (hL : LogAt 69 base' b d' l rv W) (j : Nat) (v : Value) : DiskAt P M base K d (W.setCell ⟨b, j, none⟩ v) S :=
  h.other (Tch.set (X := fun k => k = b) W ⟨b, j, none⟩ v rfl) fun k hk => by
    subst hk
    rintro ⟨_, o, ho, hd⟩
    rw [hL.row] at ho
    cases ho
    simp [dkind] at hd
/-- Where a log's row lies behind a call: where it lay, or anew. -/
def Since (w : World) (rv rv' : Value) : Prop := ∀ g, rv'.ownBlock = some g → rv.ownBlock = some g ∨ w.heap.size ≤ g
theorem Since.same (w : World) (rv : Value) : Since w rv rv := fun _ h => .inl h
end Go.Wal
namespace Go.Proofs.YtoineobjmllicaaGreatDoor
open Go.RowKit Go.Dk Go.Wal
variable {M : Nat → Prop}
set_option maxRecDepth 100000 in
set_option maxHeartbeats 4000000 in
theorem add_any (hM : ∀ b, M b) (base base' K b d : Nat) (S : WD) (l : Lg) (rv v : Value) (ls : List Bs) (w : World) (h : DiskAt Tryz.prog M base K d w S) (hv : Vars w) (hL : LogAt TLog base' b d l rv w) (hT : Texts w v ls) (hTd : ∀ w', Dsk M base w w' → Texts w' v ls) (hvn : ∀ n c, v = .slice none n c → n = 0 ∧ c = 0) (hbase : base ≤ w.heap.size) (hbase' : base' ≤ w.heap.size) (hK : K + 1 ≤ 5000) (hl : l.first ≤ 2000000 ∧ l.last ≤ 2000000 ∧ l.size ≤ 1000000000 ∧ l.most ≤ 9223372036854775807 ∧ l.recs.length ≤ 1000000) (hs : ∀ t ∈ ls, t.length ≤ 1000) (hn : ls.length ≤ 1000) (hz : (frs ls).length ≤ 1980) :
    Calls Tryz.prog 18 #[.pointer (some ⟨b, 0, none⟩), v] w fun e w' => e = .returned (.int .i64 (addOf l S.a ls).2.2) ∧ (∃ rv', LogAt TLog base' b d (addOf l S.a ls).2.1 rv' w' ∧ Since w rv rv') ∧ (∃ T : WD, T.a = (addOf l S.a ls).1 ∧ DiskAt Tryz.prog M base (K + 1) d w' T) ∧ Lds M base b rv w w' := by
  have hp1 : 1 ≤ (placeOf l).1 ∧ (placeOf l).1 ≤ 2000001 ∧ (placeOf l).2.1 ≤ 1000000000 ∧ (placeOf l).2.2.length ≤ 17 := by
    unfold placeOf
    split
    · exact ⟨by simp, by simp, by simp, by rw [hd_length]; exact Nat.le_refl _⟩
    · split
      · exact ⟨by simp, by show l.last + 1 ≤ _; omega, by simp, by rw [hd_length]; exact Nat.le_refl _⟩
      · exact ⟨by show 1 ≤ l.last; omega, by show l.last ≤ _; omega, by show l.size ≤ _; omega, by simp⟩
  have HPL : Hid (Calls Tryz.prog 49 #[.pointer (some ⟨b, 0, none⟩)] w fun e w' => e = .returned (.tuple #[.int .i64 ((placeOf l).1 : Nat), .int .i64 ((placeOf l).2.1 : Nat), .string ⟨(placeOf l).2.2.toArray⟩]) ∧ Below w.heap.size w w') := place_any base' b d l rv w hL ⟨hl.2.1, hl.2.2.1, hl.2.2.2.1⟩
  have HO : Hid (addOf l S.a ls = if S.a.down = true then (S.a, l, 7) else if (S.a.doPut (seg (placeOf l).1) ⟨(placeOf l).2.2 ++ frs ls, false⟩).2 ≠ 0 then ((S.a.doPut (seg (placeOf l).1) ⟨(placeOf l).2.2 ++ frs ls, false⟩).1, l, (S.a.doPut (seg (placeOf l).1) ⟨(placeOf l).2.2 ++ frs ls, false⟩).2)
      else if ((S.a.doPut (seg (placeOf l).1) ⟨(placeOf l).2.2 ++ frs ls, false⟩).1.doSync).2 ≠ 0 then (((S.a.doPut (seg (placeOf l).1) ⟨(placeOf l).2.2 ++ frs ls, false⟩).1.doSync).1, l, ((S.a.doPut (seg (placeOf l).1) ⟨(placeOf l).2.2 ++ frs ls, false⟩).1.doSync).2)
      else (((S.a.doPut (seg (placeOf l).1) ⟨(placeOf l).2.2 ++ frs ls, false⟩).1.doSync).1, ⟨l.most, max l.first 1, (placeOf l).1, (placeOf l).2.1 + ((placeOf l).2.2 ++ frs ls).length, l.recs ++ ls⟩, 0)) := rfl
  have HX := hide (And.intro h (And.intro hv (And.intro hL (And.intro hT hs))))
  have HTD := hide hTd
  clear h hv hL hT hs hTd
  generalize addOf l S.a ls = O at *
  generalize placeOf l = P at *
  obtain ⟨n, sz, hdr⟩ := P
  simp only at HO HPL hp1
  have HAB : Hid (∀ U, Below w.heap.size w U → Calls Tryz.prog 40 #[.pointer (some ⟨b, 0, none⟩), .int .i64 n] U fun e w' => e = .returned (.int .i64 (if S.a.down = true then 7 else 0)) ∧ U = w') := fun U hU => walAble_any base base' K b d n S l rv U (HX.out.1.below hU) (HX.out.2.2.1.below hU) hp1.1
  have HFR : Hid (∀ U, Below w.heap.size w U → Calls Tryz.prog 42 #[v] U fun e w' => e = .returned (.string ⟨(frs ls).toArray⟩) ∧ Below w.heap.size w w') := fun U hU => (frames_any v ls U (HX.out.2.2.2.1.below hU) HX.out.2.2.2.2 hn).mono fun e w' ⟨he, hb⟩ => ⟨he, hU.trans (hb.mono hU.size)⟩
  have HFN : Hid (∀ U, Below w.heap.size w U → Calls Tryz.prog 51 #[.int .i64 n] U fun e w' => e = .returned (.string ⟨(seg n).toArray⟩) ∧ Below w.heap.size w w') := fun U hU => (fileName_any n U (Vars.below HX.out.2.1 hU) (by omega)).mono fun e w' ⟨he, hb⟩ => ⟨he, hU.trans (hb.mono hU.size)⟩
  have hsz : (⟨(seg n).toArray⟩ : ByteArray).size ≤ maxLen := by rw [ba_size]; have := seg_length n (by omega); unfold maxLen; omega
  have hcat : (⟨hdr.toArray⟩ : ByteArray) ++ ⟨(frs ls).toArray⟩ = ⟨(hdr ++ frs ls).toArray⟩ := ba_append hdr (frs ls)
  have HAP : Hid (∀ U, Below w.heap.size w U → Calls Tryz.prog 50 #[.pointer (some ⟨d, 0, none⟩), .string ⟨(seg n).toArray⟩, .string (⟨hdr.toArray⟩ ++ ⟨(frs ls).toArray⟩)] U fun e w' => e = .returned (.int .i64 (S.a.doPut (seg n) ⟨hdr ++ frs ls, false⟩).2) ∧ (∃ T : WD, T.a = (S.a.doPut (seg n) ⟨hdr ++ frs ls, false⟩).1 ∧ DiskAt Tryz.prog M base (K + 1) d w' T) ∧ Dsk M base w w') := fun U hU => by
    rw [hcat]
    exact (append_op hM base K d S ⟨(seg n).toArray⟩ ⟨(hdr ++ frs ls).toArray⟩ U (HX.out.1.below hU) (Nat.le_trans hbase hU.size) hK hsz (by rw [ba_size, List.length_append]; omega)).mono fun e w' ⟨he, T, hT', hD', hk⟩ => ⟨he, ⟨T, hT', hD'⟩, Dsk.trans (.of_below hU) hk⟩
  have HSY : Hid (∀ U (T : WD), DiskAt Tryz.prog M base (K + 1) d U T → Calls Tryz.prog 33 #[.pointer (some ⟨d, 0, none⟩)] U fun e w' => e = .returned (.int .i64 T.a.doSync.2) ∧ (∃ T' : WD, T'.a = T.a.doSync.1 ∧ DiskAt Tryz.prog M base (K + 1) d w' T') ∧ Dsk M base U w') := fun U T hT => (sync_op base (K + 1) d T U hT).mono fun e w' ⟨he, T', hT', hD', hk⟩ => ⟨he, ⟨T', hT', hD'⟩, hk⟩
  have hbl : b < w.heap.size := block_lt HX.out.2.2.1.row
  have c0 := HX.out.2.2.1.cells.1
  have hfz : (⟨(frs ls).toArray⟩ : ByteArray).size = (frs ls).length := ba_size _
  have hhz : (⟨hdr.toArray⟩ : ByteArray).size = hdr.length := ba_size _
  obtain ⟨va, vc, hv1, -⟩ := HX.out.2.2.2.1
  subst hv1
  have HVN := hide hvn
  have HP1 := hide hp1
  have HLB := hide hl
  clear hcat hsz hvn hl
  go_enter Tryz.func18, Tryz.ntmps18
  cases hdn : S.a.down with
  | true =>
    rw [hdn] at HAB HO
    rw [if_pos rfl] at HO
    go_wp2_with (first
      | (go_at_call 49; refine HPL.out.mono ?_; rintro e w1 ⟨rfl, k1⟩; have K1 := hide k1; clear k1)
      | (go_at_call 40; refine (HAB.out _ K1.out).mono ?_; rintro e w2 ⟨rfl, rfl⟩))
    go_ret
    rw [HO.out]
    exact ⟨rfl, ⟨rv, HX.out.2.2.1.below K1.out, Since.same _ _⟩, ⟨S, rfl, (HX.out.1.below K1.out).mono (Nat.le_succ _) hK⟩, Tch.of_below K1.out⟩
  | false =>
    rw [hdn] at HAB HO
    rw [if_neg (by decide)] at HO
    go_upto_region 8 with (first
      | (go_at_call 49; refine HPL.out.mono ?_; rintro e w1 ⟨rfl, k1⟩; have K1 := hide k1; clear k1)
      | (go_at_call 40; refine (HAB.out _ K1.out).mono ?_; rintro e w2 ⟨rfl, rfl⟩)
      | (go_at_call 42; refine (HFR.out _ K1.out).mono ?_; rintro e w3 ⟨rfl, k3⟩; have K3 := hide k3; have d0 := (k3.cell (p := ⟨b, 0, none⟩) hbl).trans c0; clear k3))
    go_region_held (fun w' => w'.cell? ⟨b, 0, none⟩ = some (.pointer (some ⟨d, 0, none⟩))) (first | exact d0 | exact e0 | exact g0) (first
      | (go_at_call 51; refine (HFN.out _ (Below.drew K3.out)).mono ?_; rintro e w4 ⟨rfl, k4⟩; have K4 := hide k4; have e0 := (k4.cell (p := ⟨b, 0, none⟩) hbl).trans c0; clear k4)
      | (go_at_call 50; refine (HAP.out _ K4.out).mono ?_; rintro e w5 ⟨rfl, ⟨T5, hT5, hD5⟩, k5⟩; have H5 := hide (And.intro hT5 (And.intro hD5 k5)); have g0 := (HX.out.2.2.1.dsk k5).cells.1; clear hT5 hD5 k5))
    clear HAP HFN HFR HAB HPL d0 e0 K1 K3 K4
    generalize S.a.doPut (seg n) ⟨hdr ++ frs ls, false⟩ = r at *
    obtain ⟨ra, re⟩ := r
    simp only at HO H5
    have L5 := hide (HX.out.2.2.1.dsk H5.out.2.2)
    by_cases h0 : re = 0
    · subst h0
      rw [if_neg (by simp)] at HO
      have HS5 := hide (HSY.out w5 T5 H5.out.2.1)
      rw [H5.out.1] at HS5
      generalize ra.doSync = q at *
      obtain ⟨qa, qe⟩ := q
      simp only at HO HS5
      by_cases h1 : qe = 0
      · subst h1
        rw [if_neg (by simp)] at HO
        go_upto_region 14 with (go_at_call 33; refine HS5.out.mono ?_; rintro e w6 ⟨rfl, t6, k6⟩; have H6 := hide (And.intro t6 k6); clear t6 k6)
        have K6 := hide (H5.out.2.2.trans H6.out.2)
        have L6 := hide (L5.out.dsk H6.out.2)
        have TX := hide (HTD.out w6 K6.out)
        have hbase6 : base' ≤ w6.heap.size := Nat.le_trans hbase' K6.out.size
        obtain ⟨i9, hi9, hz0, hz1, hz2⟩ := info_parts info_str
        obtain ⟨ra', rc', hrv⟩ := own_form L6.out.recs
        subst hrv
        obtain ⟨q0, q1, q2, q3, q4, q5⟩ := L6.out.cells
        have f2 := L6.out.frozen 2
        have hlb := HLB.out
        have hp1 := HP1.out
        have HAPP : Hid (∃ t6 : WD, t6.a = qa ∧ DiskAt Tryz.prog M base (K + 1) d w6 t6) := H6.out.1
        have hmx : ((max l.first 1 : Nat) : Int) = max (l.first : Int) 1 := by omega
        cases va with
        | none =>
          obtain ⟨hn0, hc0⟩ := HVN.out _ _ rfl
          have hls : ls = [] := List.length_eq_zero_iff.1 hn0
          subst hls
          subst hc0
          go_upto_region 15 with (at_builtin; refine wpList_append_own_none rfl _ _ 30 rfl base' 9 i9 1 under_strs hi9 _ _ _ rfl L6.out.recs rfl ?_)
          have hszI : ((sz + (hdr ++ frs []).length : Nat) : Int) = (sz : Int) + ((hdr.length : Int) + ((frs []).length : Int)) := by rw [List.length_append]; omega
          have D7 := hide (show ∃ t6 : WD, t6.a = qa ∧ DiskAt Tryz.prog M base (K + 1) d _ t6 from by obtain ⟨t6, h1, h2⟩ := HAPP.out; exact ⟨t6, h1, disk_log h2 L6.out 2 (.slice ra' l.recs.length rc')⟩)
          have L7 := hide (L6.out.set (l' := ⟨l.most, l.first, l.last, l.size, l.recs ++ []⟩) 2 (.slice ra' l.recs.length rc') rfl (List.append_nil _))
          have f3 := L7.out.frozen 3
          have p3 := L7.out.cells.2.2.2.1
          have L8 := hide (L7.out.set (l' := ⟨l.most, max l.first 1, l.last, l.size, l.recs ++ []⟩) 3 (.int .i64 (max (l.first : Int) 1)) (by rw [← hmx]; rfl) rfl)
          have f4 := L8.out.frozen 4
          have p4 := L8.out.cells.2.2.2.2.1
          have L9 := hide (L8.out.set (l' := ⟨l.most, max l.first 1, n, l.size, l.recs ++ []⟩) 4 (.int .i64 (n : Int)) rfl rfl)
          have f5 := L9.out.frozen 5
          have p5 := L9.out.cells.2.2.2.2.2
          have LA := hide (L9.out.set (l' := ⟨l.most, max l.first 1, n, sz + (hdr ++ frs []).length, l.recs ++ []⟩) 5 (.int .i64 ((sz : Int) + ((hdr.length : Int) + ((frs []).length : Int)))) (by rw [← hszI]; rfl) rfl)
          have DD := hide (show ∃ t6 : WD, t6.a = qa ∧ DiskAt Tryz.prog M base (K + 1) d _ t6 from by obtain ⟨t6, h1, h2⟩ := D7.out; exact ⟨t6, h1, disk_log (disk_log (disk_log h2 L7.out 3 (.int .i64 (max (l.first : Int) 1))) L8.out 4 (.int .i64 (n : Int))) L9.out 5 (.int .i64 ((sz : Int) + ((hdr.length : Int) + ((frs []).length : Int))))⟩)
          go_wp2
          go_ret
          rw [HO.out]
          exact ⟨rfl, ⟨_, LA.out, Since.same _ _⟩, DD.out, Lds.of K6.out (lgs_set (lgs_set (lgs_set (lgs_set (Tch.refl _ _) 2 _) 3 _) 4 _) 5 _)⟩
        | some ad =>
          have hszI : ((sz + (hdr ++ frs ls).length : Nat) : Int) = (sz : Int) + ((hdr.length : Int) + ((frs ls).length : Int)) := by rw [List.length_append]; omega
          go_upto_region 15 with (at_builtin; refine wpList_append_own_at _ rfl _ _ 30 rfl base' 9 i9 (.string ⟨#[]⟩) 1 16 under_strs hi9 hz0 hz1 hz2 rfl (by decide) _ _ _ rfl L6.out.recs ad ls.length vc (tv ls) rfl ?a1 ?a2 ?a3 ?a4 ?a5 ?a6 ?_)
          case a1 => unfold tv; rw [List.length_map, Nat.mul_one]
          case a2 =>
            intro j u hj
            unfold tv at hj
            rw [List.getElem?_map] at hj
            cases hjl : ls[j]? with
            | none => rw [hjl] at hj; cases hj
            | some t =>
              rw [hjl] at hj
              cases hj
              obtain ⟨a, c, h1, _, h3⟩ := TX.out
              cases h1
              obtain ⟨b', off, h4, h5⟩ := h3 j t hjl
              cases h4
              simp only [Addr.add]
              split
              · rename_i hj0
                subst hj0
                exact h5
              · exact h5
          case a3 => intro u hu; unfold tv at hu; obtain ⟨x, _, rfl⟩ := List.mem_map.1 hu; rfl
          case a4 => unfold maxLen; omega
          case a5 => omega
          case a6 => exact hbase6
          intro rv' w7 hown hgrow _ hat
          obtain ⟨rb, rd, hrv'⟩ := own_form hown
          subst hrv'
          have G7 := L6.out.grown hgrow hown hat
          have r7 := (hgrow.block b (block_lt L6.out.row) (fun e => L6.out.apart e.symm)).trans L6.out.row
          have f2' : w7.frozen? ⟨b, 2, none⟩ = false := frozen_of_row _ _ _ _ _ r7
          have p2' : w7.cell? ⟨b, 2, none⟩ = some (.slice ra' l.recs.length rc') := cell_of_row _ _ _ _ _ _ r7
          have D7 : Hid (∃ t6 : WD, t6.a = qa ∧ DiskAt Tryz.prog M base (K + 1) d (w7.setCell ⟨b, 2, none⟩ (.slice rb (l.recs.length + ls.length) rd)) t6) := by
            obtain ⟨t6, h1, h2⟩ := HAPP.out
            refine ⟨t6, h1, h2.other G7.2 fun k hk => ?_⟩
            rcases hk with rfl | hk
            · rintro ⟨_, o, ho, hd⟩
              rw [L6.out.row] at ho
              cases ho
              simp [dkind] at hd
            · rintro ⟨_, o, ho, hd⟩
              obtain ⟨cur, hc⟩ := ownsRow_tag L6.out.recs hk
              rw [hc] at ho
              cases ho
              simp [dkind] at hd
          have GT := hide G7.2
          have SN : Hid (Since w (.slice ra' l.recs.length rc') (.slice rb (l.recs.length + ls.length) rd)) := fun g hg => hat.elim (fun e => .inl (by rw [← e]; exact hg)) (fun e => .inr (by rw [e] at hg; cases hg; exact K6.out.size))
          have L7 := hide G7.1
          clear hown hgrow hat G7 r7
          have f3 := L7.out.frozen 3
          have p3 := L7.out.cells.2.2.2.1
          have L8 := hide (L7.out.set (l' := ⟨l.most, max l.first 1, l.last, l.size, l.recs ++ ls⟩) 3 (.int .i64 (max (l.first : Int) 1)) (by rw [← hmx]; rfl) rfl)
          have f4 := L8.out.frozen 4
          have p4 := L8.out.cells.2.2.2.2.1
          have L9 := hide (L8.out.set (l' := ⟨l.most, max l.first 1, n, l.size, l.recs ++ ls⟩) 4 (.int .i64 (n : Int)) rfl rfl)
          have f5 := L9.out.frozen 5
          have p5 := L9.out.cells.2.2.2.2.2
          have LA := hide (L9.out.set (l' := ⟨l.most, max l.first 1, n, sz + (hdr ++ frs ls).length, l.recs ++ ls⟩) 5 (.int .i64 ((sz : Int) + ((hdr.length : Int) + ((frs ls).length : Int)))) (by rw [← hszI]; rfl) rfl)
          have DD := hide (show ∃ t6 : WD, t6.a = qa ∧ DiskAt Tryz.prog M base (K + 1) d _ t6 from by obtain ⟨t6, h1, h2⟩ := D7.out; exact ⟨t6, h1, disk_log (disk_log (disk_log h2 L7.out 3 (.int .i64 (max (l.first : Int) 1))) L8.out 4 (.int .i64 (n : Int))) L9.out 5 (.int .i64 ((sz : Int) + ((hdr.length : Int) + ((frs ls).length : Int))))⟩)
          go_wp2
          go_ret
          rw [HO.out]
          exact ⟨rfl, ⟨_, LA.out, SN.out⟩, DD.out, Lds.of K6.out (lgs_set (lgs_set (lgs_set GT.out 3 _) 4 _) 5 _)⟩
      · rw [if_pos h1] at HO
        have hqb : (qe == 0) = false := by simpa using h1
        go_wp2_with (go_at_call 33; refine HS5.out.mono ?_; rintro e w6 ⟨rfl, t6, k6⟩; have H6 := hide (And.intro t6 k6); clear t6 k6)
        go_ret
        rw [HO.out]
        exact ⟨rfl, ⟨rv, L5.out.dsk H6.out.2, Since.same _ _⟩, H6.out.1, (H5.out.2.2.trans H6.out.2).mono fun _ x => .inl x⟩
    · rw [if_pos h0] at HO
      have hrb : (re == 0) = false := by simpa using h0
      go_wp2_with fail
      go_ret
      rw [HO.out]
      exact ⟨rfl, ⟨rv, L5.out, Since.same _ _⟩, ⟨T5, H5.out.1, H5.out.2.1⟩, H5.out.2.2.mono fun _ x => .inl x⟩
end Go.Proofs.YtoineobjmllicaaGreatDoor
