/- Several texts in one: ImageFindsWalk, NameFrame. -/
import Derived.Test.YtmnenamdjkjlaaaGreatDoorFindG
import Derived.Test.YtmnenamdjkjlaaaGreatDoorFindB
import Derived.Deep.CutBlock
import Derived.Test.YtmnenamdjkjlaaaGreatDoorRunAO
import Derived.ProofKit
import Derived.LaidMore
import Derived.OpenShut
import Derived.ShutString
import Derived.Lib.LaidTab
import Derived.Stop.LaidErr
/- The walk: paths are found, folders are listed, in an image of any operations. -/
namespace Go.Img
theorem namesIn_at {l : List Fi} {i : Nat} {f : Fi} (h : l[i]? = some f) {s : ByteArray} (hd : inDir s f = true) : (namesIn l s)[(namesIn (l.take i) s).length]? = some (nmOf f) := by
  obtain ⟨hl, he⟩ := List.getElem?_eq_some_iff.1 h
  have e : l = l.take i ++ f :: l.drop (i + 1) := by rw [← he, ← List.drop_eq_getElem_cons hl, List.take_append_drop]
  have e2 : namesIn l s = namesIn (l.take i) s ++ nmOf f :: namesIn (l.drop (i + 1)) s := by
    unfold namesIn
    conv => lhs; rw [e]
    rw [List.filter_append, List.map_append, List.filter_cons_of_pos hd, List.map_cons]
  rw [e2, List.getElem?_append_right (Nat.le_refl _), Nat.sub_self]
  rfl
end Go.Img
namespace Go.Proofs.YtmnenamdjkjlaaaGreatDoor
open Go.RowKit Go.Img Go.Shelf Go.Rws Go.MapInt Go.Opn
open Go.Mov hiding fold
attribute [local go_sem] Oper.semAt_some
set_option maxRecDepth 100000 in
theorem infoRF4 : (Tryz.prog.info? 34).map (fun i => (i.zero, i.size, i.bytes)) = some (some (.agg #[.string ⟨#[]⟩, .bool false, .int .u64 0, .string ⟨#[]⟩, .int .i64 0]), 5, 56) := by kernel_rfl
set_option maxHeartbeats 8000000 in
set_option maxRecDepth 100000 in
theorem imageFinds_any (v : Value) (es : List Le) (s0 : ByteArray) (w : World) (hR : RowsAt Le.cs 10 w v es) (hf : ∀ e ∈ es, e.Fits) (_hn : es.length ≤ maxLen) (hv : Vt w) :
    Calls Tryz.prog 4 #[v, .string s0] w fun r w' => r = .returned (.bool true) ∧ Below w.heap.size w w' := by
  have HT := hide (tree15_any es v w hR hf)
  have HV := hide hv
  have HAW := hide (fun v (h : Vt v) => awake15_any v h)
  clear hR hf hv
  go_enter Tryz.func4, Tryz.ntmps4
  go_upto_region 2 with (go_at_call 6; refine HT.out.mono ?_; rintro r w1 ⟨b, tv, l, u, rfl, htg⟩; have I1 := hide htg; clear htg HT)
  have HO := hide (I1.out.of (HV.out.below HV.out.size I1.out.t.k))
  have HG := hide I1.out.gi
  have HW1 := hide I1.out.t.k
  obtain ⟨L, hL⟩ : ∃ L, L = img (ths [] l) := ⟨_, rfl⟩
  rw [← hL] at HO HG
  clear hL I1
  go_upto_region 3 with (go_at_call 7; refine HO.out.mono ?_; rintro r w2 ⟨gv, rfl, ho⟩; obtain ⟨ga, gc, rfl⟩ := ho.form; have I2 := hide ho; clear ho HO)
  have HW2 := hide (HW1.out.trans (I2.out.below.mono HW1.out.size))
  have HR := hide (I2.out.rows Fi.cs_length)
  obtain ⟨N, hN⟩ : ∃ N, N = L.length := ⟨_, rfl⟩
  have HN := hide hN
  have hN60 : N ≤ 60 := by rw [hN]; exact HG.out.len
  rw [← hN] at HR
  try rw [← hN]
  clear hN I2 HW1
  go_upto_if 28 with fail
  go_cut [1] (fun v1 wx => ∃ P : ByteArray, v1 = .string P ∧ P.size ≤ 250 ∧ wx = w2)
  case first =>
    rcases Nat.lt_or_ge 250 s0.size with hA | hA
    · have hAI : (250 : Int) < s0.size := by omega
      go_wp2_with fail
      go_meet
      exact ⟨s0.extract 0 250, rfl, by rw [ByteArray.size_extract]; omega, rfl⟩
    · have hAI : ¬ (250 : Int) < s0.size := by omega
      go_wp2_with fail
      go_meet
      exact ⟨s0, rfl, hA, rfl⟩
  obtain ⟨P, rfl, hP, rfl⟩ := hcut
  have HB0 : Hid (OwnR Fi.cs 5 34 wc (.slice (some ⟨wc.heap.size, 0, none⟩) 0 0) (L.take 0) (wc.alloc (.cells #[] 34))) := OwnR.made (Below.refl _ wc)
  go_wp2_with fail
  go_loopw [10, 11] (fun v10 v11 wr => ∃ (i : Nat) (a : Option Addr) (c : Nat), v11 = .int .i64 i ∧ v10 = .slice a i c ∧ i ≤ N ∧ Hid (OwnR Fi.cs 5 34 wc (.slice a i c) (L.take i) wr)) (fun _ v11 _ => N - (intOf v11).toNat)
  case atStart => exact ⟨0, _, _, rfl, rfl, Nat.zero_le _, HB0.out⟩
  case round =>
    obtain ⟨i, a, c, rfl, rfl, hi, HI⟩ := hrel
    clear HB0
    have h0 : (0 : Int) ≤ i := by omega
    by_cases hil : i < N
    · obtain ⟨f, hf⟩ : ∃ f, L[i]? = some f := ⟨_, List.getElem?_eq_getElem (by rw [← HN.out]; exact hil)⟩
      obtain ⟨g, off, hga, hq, hcap, hgl, hrg⟩ := (HR.out.below HI.out.below).at (fun e => by rw [e] at hf; cases hf)
      subst hga
      have hiI : (i : Int) < N := by omega
      have hcI : (N : Int) ≤ gc := by omega
      have HRG := hide (hrg i f hf)
      have hlt : Hid ((L.take i).length = i) := by show _ = _; rw [List.length_take, ← HN.out]; omega
      have hnx : Hid (L.take (i + 1) = L.take i ++ [f]) := by show _ = _; rw [List.take_add_one, hf]; rfl
      have HRf := hide (fun v => ref15_any f v)
      unfold Fi.cs at HRf
      generalize L.take i = pre at HI hlt hnx
      clear hf hrg hq hcap hgl
      go_wp2_with (first
        | (refine wpList_load_mid rfl 36 _ rfl g (off + i * 5) rfl f.cs _ HRG.out Tryz.underlying36 rfl infoFi5 ?_; simp only [Fi.cs])
        | (go_at_call 10; refine (HRf.out _).mono ?_; rintro r w3 ⟨rfl, k3⟩; have HI3 := hide (HI.out.step k3); clear k3 HRf)
        | (at_builtin; refine OwnR.append HI3.out f Fi.cs_length (fi_one f) (by decide) infoRF4 rfl (by rw [hlt.out]; omega) (by decide) rfl _ _ 29 Tryz.underlying29 rfl rfl rfl ?_; intro a1 c1 w4 hO; have HO3 := hide hO; clear hO))
      go_roundw
      case rel => exact ⟨i + 1, a1, c1, by simp, by rw [hlt.out], by omega, by rw [hnx.out]; have := HO3.out; rw [hlt.out] at this; exact this⟩
      case measure => simp [intOf]; omega
    · obtain rfl : i = N := by omega
      have hiI : ¬ (i : Int) < i := by omega
      have e1 : L.take i = L := by rw [HN.out]; exact List.take_length
      rw [e1] at HI
      have hL9 : L.length ≤ 900 := by rw [← HN.out]; omega
      have HFD := hide (rfind15_any L (.slice a i c) P wr (HI.out.rows Fi.cs_length) (by omega))
      have HFI := hide (find15_any L (.slice ga i gc) P wr (HR.out.below HI.out.below) (by omega))
      have HK := hide (And.intro HI.out.below (HR.out.below HI.out.below))
      obtain ⟨F, hF⟩ : ∃ F, F = (seek L P.toList).getD Fi.zero := ⟨_, rfl⟩
      obtain ⟨B, hB⟩ : ∃ B, B = (seek L P.toList).isSome := ⟨_, rfl⟩
      obtain ⟨A, hA⟩ : ∃ A, A = spotF L P.toList := ⟨_, rfl⟩
      have HS : Hid ((B = false ∧ A = -1 ∧ F.dir = false) ∨ (B = true ∧ ∃ j : Nat, A = (j : Int) ∧ L[j]? = some F)) := by
        rcases seek_spot L P.toList with ⟨h1, h2⟩ | ⟨j, f, h1, h2, h3⟩
        · rw [h1] at hF hB
          refine .inl ⟨hB, by rw [hA, h2], by rw [hF]; rfl⟩
        · rw [h1] at hF hB
          refine .inr ⟨hB, j, by rw [hA, h2], by rw [hF]; exact h3⟩
      have HTH : Hid (there L P = (decide (P.toList = []) || F.dir)) := by show _ = _; rw [hF]; rfl
      rw [← hF, ← hB] at HFI
      rw [← hA] at HFD
      unfold Fi.cs at HFI
      clear hF hB hA e1 HI
      go_upto_region 13 with (first
        | (go_at_call 13; refine HFD.out.mono ?_; rintro r w5 ⟨rfl, rfl⟩; clear HFD)
        | (go_at_call 14; refine HFI.out.mono ?_; rintro r w6 ⟨rfl, k6⟩; have K6 := hide k6; clear k6 HFI))
      have HW6 := hide (HK.out.1.trans (K6.out.mono HK.out.1.size))
      have HM : Hid (Below wc.heap.size wc (w6.alloc (.cells #[.string ⟨F.path.toArray⟩, .bool F.dir, .int .u64 F.id, .string F.dg, .int .i64 F.size] 36)) ∧ (w6.alloc (.cells #[.string ⟨F.path.toArray⟩, .bool F.dir, .int .u64 F.id, .string F.dg, .int .i64 F.size] 36)).heap[w6.heap.size]? = some (.cells F.cs.toArray 36 (0, 0))) := ⟨HW6.out.alloc HW6.out.size _, heap_alloc_new _ _⟩
      generalize w6.alloc (.cells #[.string ⟨F.path.toArray⟩, .bool F.dir, .int .u64 F.id, .string F.dg, .int .i64 F.size] 36) = W7 at *
      generalize w6.heap.size = q at *
      have HR7 := hide (HR.out.below HM.out.1)
      have HV7 := hide (HV.out.below HV.out.size (HW2.out.trans (HM.out.1.mono HW2.out.size)))
      have HW7 := hide (HW2.out.trans (HM.out.1.mono HW2.out.size))
      clear HK K6 HW6
      go_cut [73] (fun v73 wy => v73 = .bool false ∧ Hid (Below W7.heap.size W7 wy))
      case first =>
        have HAq := hide (fun v (k : Below W7.heap.size W7 v) => HAW.out v (HV7.out.below (Nat.le_trans HV.out.size HW7.out.size) k))
        rcases HS.out with ⟨rfl, rfl, hd⟩ | ⟨rfl, j, rfl, hj⟩
        · refine QuietCalls.region (by kernel_rfl) (by kernel_rfl) ?_
          refine QuietCalls.call rfl 9 #[] (.bool true) (fun v k => HAq.out v k) (fun v => by go_simp) ?_; simp only [Act.put, List.setIfInBounds_toArray, List.set_cons_succ, List.set_cons_zero]
          iterate 18 (first | go_big_quiet_step (fail) | quiet_step (fail))
          refine wpQuiet_nil ?_
          intro w8 k8
          have K8 := hide k8
          clear k8
          go_wp2_with fail
          go_meet
          exact ⟨rfl, K8.out⟩
        · obtain ⟨g, off, hga, hq, hcap, hgl, hrg⟩ := HR7.out.at (fun e => by rw [e] at hj; cases hj)
          subst hga
          have hjI : (j : Int) < i := by have := (List.getElem?_eq_some_iff.1 hj).1; omega
          have hj0 : (0 : Int) ≤ j := by omega
          have hcI : (i : Int) ≤ gc := by omega
          have HRG := hide (And.intro (hrg j F hj) hgl)
          clear hj hq hcap hgl hrg
          refine QuietCalls.region (by kernel_rfl) (by kernel_rfl) ?_
          refine QuietCalls.call rfl 9 #[] (.bool true) (fun v k => HAq.out v k) (fun v => by go_simp) ?_; simp only [Act.put, List.setIfInBounds_toArray, List.set_cons_succ, List.set_cons_zero]
          iterate 10 (first | go_big_quiet_step (fail) | quiet_step (fail))
          refine QuietCalls.load rfl 36 _ rfl _ rfl _ _ _ _ HM.out.2 Tryz.underlying36 rfl infoFi5 ?_; simp only [Act.put, List.setIfInBounds_toArray, List.set_cons_succ, List.set_cons_zero]
          iterate 3 (first | go_big_quiet_step (fail) | quiet_step (fail))
          refine QuietCalls.loadMid rfl 36 _ rfl g (off + j * 5) rfl F.cs _ (fun v k => rangeAt_below HRG.out.1 HRG.out.2 k) Tryz.underlying36 rfl infoFi5 ?_; simp only [Act.put, List.setIfInBounds_toArray, List.set_cons_succ, List.set_cons_zero]
          refine QuietCalls.hand rfl (.bool (!true)) (fun w => neq_fi rfl F rfl rfl w) ?_; simp only [Act.put, List.setIfInBounds_toArray, List.set_cons_succ, List.set_cons_zero]
          iterate 2 (first | go_big_quiet_step (fail) | quiet_step (fail))
          refine wpQuiet_nil ?_
          intro w8 k8
          have K8 := hide k8
          clear k8
          go_wp2_with fail
          go_meet
          exact ⟨rfl, K8.out⟩
      obtain ⟨rfl, HC⟩ := hcut
      rename World => w8
      have c1 : w8.cell? ⟨q, 1, none⟩ = some (.bool F.dir) := (cell_of_row _ _ 1 _ _ _ ((HC.out.block _ (Array.getElem?_eq_some_iff.1 HM.out.2).1).trans HM.out.2)).trans rfl
      have HLs := hide (list15_any L (.slice ga i gc) P w8 (HR7.out.below HC.out) hL9 (fun f hf => Nat.le_trans (HG.out.short f hf) (by decide)))
      have HW8 := hide (HW7.out.trans (HC.out.mono HW7.out.size))
      have HR8 := hide (HR7.out.below HC.out)
      obtain ⟨th, hth⟩ : ∃ th, th = there L P := ⟨_, rfl⟩
      rw [← hth] at HLs HTH
      obtain ⟨M, hM⟩ : ∃ M, M = lsF L P := ⟨_, rfl⟩
      have HMt : Hid (th = true → M = namesIn L P) := fun h => by
        rw [hM]
        unfold lsF
        rw [← hth, h, if_pos rfl]
        exact names_sorted HG.out.srt HG.out.path P
      have HMf : Hid (th = false → M = []) := fun h => by
        rw [hM]
        unfold lsF
        rw [← hth, h]
        rfl
      rw [← hM] at HLs
      clear hM hth HM HC HR7 HV7 HW7
      go_upto_region 16 with (go_at_call 15; refine HLs.out.mono ?_; rintro r w9 ⟨nv, rfl, har⟩; obtain ⟨na, nc, rfl⟩ := Go.Names.own_slice har.own; have HAr := hide har; clear har HLs)
      have c1' := c1
      clear c1
      have c1 : w9.cell? ⟨q, 1, none⟩ = some (.bool F.dir) := (HAr.out.below.cell (block_lt_of_cell c1')).trans c1'
      have HW9 := hide (HW8.out.trans (HAr.out.below.mono HW8.out.size))
      have HR9 := hide (HR8.out.below HAr.out.below)
      have HAw := hide HAr.out.reads
      clear c1' HW8 HR8 HAr
      go_cut [99] (fun v99 wy => v99 = .bool false ∧ wy = w9)
      case first =>
        obtain ⟨e, he⟩ : ∃ e, (P.toList == []) = e := ⟨_, rfl⟩
        have hed : decide (P.toList = []) = e := by rw [← he, Bool.eq_iff_iff]; simp
        have hth : th = (e || F.dir) := by rw [HTH.out, hed]
        have hF : B = true ∨ (B = false ∧ F.dir = false) := by
          rcases HS.out with ⟨h1, _, h2⟩ | ⟨h1, _⟩
          · exact .inr ⟨h1, h2⟩
          · exact .inl h1
        have hm : th = true ∨ (th = false ∧ M.length = 0) := by
          cases th with
          | true => exact .inl rfl
          | false => exact .inr ⟨rfl, by rw [HMf.out rfl]; rfl⟩
        clear hed HTH HMt HMf HS
        generalize F.dir = d at *
        generalize M.length = Ml at *
        rcases hm with rfl | ⟨rfl, rfl⟩
        · rcases hF with rfl | ⟨rfl, rfl⟩
          · cases e
            · obtain rfl : d = true := hth.symm
              clear hth
              go_wp2_with fail
              go_meet
              exact ⟨rfl, rfl⟩
            · clear hth
              go_wp2_with fail
              go_meet
              exact ⟨rfl, rfl⟩
          · obtain rfl : e = true := by
              cases e
              · exact absurd hth (by decide)
              · rfl
            clear hth
            go_wp2_with fail
            go_meet
            exact ⟨rfl, rfl⟩
        · obtain rfl : e = false := by
            cases e
            · rfl
            · exact absurd hth (by cases d <;> decide)
          obtain rfl : d = false := by
            cases d
            · rfl
            · exact absurd hth (by decide)
          clear hth
          have hB : B = true ∨ B = false := by cases B <;> simp
          rcases hB with rfl | rfl
          · go_wp2_with fail
            go_meet
            exact ⟨rfl, rfl⟩
          · go_wp2_with fail
            go_meet
            exact ⟨rfl, rfl⟩
      obtain ⟨rfl, rfl⟩ := hcut
      clear c1 HS HTH
      have HJ0 : Hid (Below wc.heap.size wc wc) := Below.refl _ _
      have hMl : M.length ≤ 60 := by
        cases th with
        | true =>
          rw [HMt.out rfl]
          unfold namesIn
          rw [List.length_map]
          exact Nat.le_trans (List.length_filter_le _ _) HG.out.len
        | false => rw [HMf.out rfl]; decide
      go_wp2_with fail
      go_loopw [9, 16] (fun v9 v16 wy => ∃ (j n : Nat), v16 = .int .i64 j ∧ v9 = .int .i64 n ∧ n ≤ j ∧ j ≤ i ∧ Hid ((th = true → n = (namesIn (L.take j) P).length) ∧ (th = false → n = 0) ∧ Below wc.heap.size wc wy)) (fun _ v16 _ => 100 - (intOf v16).toNat)
      case atStart => exact ⟨0, 0, rfl, rfl, Nat.le_refl _, Nat.zero_le _, fun _ => rfl, fun _ => rfl, HJ0.out⟩
      case round =>
        obtain ⟨j, n, rfl, rfl, hnj, hji, HQ⟩ := hrel
        clear HJ0
        have hj0 : (0 : Int) ≤ j := by omega
        have hn0 : (0 : Int) ≤ n := by omega
        have hth : th = true ∨ th = false := by cases th <;> decide
        rcases hth with rfl | rfl
        · have HM := hide (HMt.out rfl)
          have HNL := hide (HQ.out.1 rfl)
          clear HMf HMt
          by_cases hjl : j < i
          · obtain ⟨f, hf⟩ : ∃ f, L[j]? = some f := ⟨_, List.getElem?_eq_getElem (by rw [← HN.out]; exact hjl)⟩
            obtain ⟨g, off, hga, hq, hcap, hgl, hrg⟩ := (HR9.out.below HQ.out.2.2).at (fun e => by rw [e] at hf; cases hf)
            subst hga
            have hjI : (j : Int) < i := by omega
            have hcI : (i : Int) ≤ gc := by omega
            have c0 : wr.cell? ⟨g, off + j * 5, none⟩ = some (.string (bsOf f)) := (cells5f (hrg j f hf)).1
            have hfs : (bsOf f).size ≤ 1000 := by rw [bsOf_size]; exact Nat.le_trans (HG.out.short f (List.mem_of_getElem? hf)) (by decide)
            have HSp := hide (fun v => rsplit_any (bsOf f) v hfs)
            have HNX := hide (namesIn_snoc hf P)
            have HAT := hide (fun h => namesIn_at hf (s := P) h)
            obtain ⟨z, hz⟩ : ∃ z, z = inDir P f := ⟨_, rfl⟩
            obtain ⟨X, hX⟩ : ∃ X, X = (Go.Names.splitB (bsOf f)).1 := ⟨_, rfl⟩
            obtain ⟨Y, hY⟩ : ∃ Y, Y = (Go.Names.splitB (bsOf f)).2 := ⟨_, rfl⟩
            have hzX : (X.toList == P.toList) = z := by rw [hz, hX]; rfl
            have hYn : (⟨(nmOf f).toArray⟩ : ByteArray) = Y := by rw [hY]; unfold nmOf; simp
            have HYN := hide hYn
            rw [← hX, ← hY] at HSp
            rw [← hz] at HNX HAT
            generalize bsOf f = A at *
            clear hf hrg hgl hcap hq hz hX hY hfs hYn
            cases z with
            | true =>
              have hmn := HAT.out rfl
              rw [← HM.out, ← HNL.out] at hmn
              have hnl : n < M.length := (List.getElem?_eq_some_iff.1 hmn).1
              have hR2 := HAw.out.below HQ.out.2.2 (Nat.le_refl _)
              obtain ⟨b2, o2, cp, hvv, hcp, hb2⟩ := hR2.at (fun e => by
                have := congrArg List.length e
                rw [List.length_map, List.length_nil] at this
                omega)
              simp only [Value.slice.injEq] at hvv
              obtain ⟨rfl, hvl, rfl⟩ := hvv
              clear hvl
              have hms : (M.map fun x => (⟨x.toArray⟩ : ByteArray))[n]? = some Y := by rw [List.getElem?_map, hmn, ← HYN.out]; rfl
              have hcell := hR2.cell hms
              rw [List.length_map] at hcp
              have hnI : (n : Int) < M.length := by omega
              have hnI2 : ¬ (M.length : Int) ≤ n := by omega
              have hcI2 : (M.length : Int) ≤ nc := by omega
              have hnx2 : (namesIn (L.take (j + 1)) P).length = n + 1 := by rw [HNX.out, if_pos rfl, List.length_append, ← HNL.out]; rfl
              have HN2 := hide hnx2
              clear HNX HAT hnx2 hms hmn hR2 hb2 hcp
              go_wp2_with (go_at_call 16; refine (HSp.out _).mono ?_; rintro r w10 ⟨rfl, k10⟩; have hcell2 := (k10.cell (block_lt_of_cell hcell)).trans hcell; have HQ2 := hide (HQ.out.2.2.trans (k10.mono HQ.out.2.2.size)); clear k10 HSp hcell c0)
              go_roundw
              case rel => exact ⟨j + 1, n + 1, by simp, by simp, by omega, by omega, fun _ => HN2.out.symm, fun h => (by cases h), HQ2.out⟩
              case measure => simp [intOf]; omega
            | false =>
              have hnx2 : (namesIn (L.take (j + 1)) P).length = n := by rw [HNX.out, if_neg (by decide), List.append_nil, ← HNL.out]
              have HN2 := hide hnx2
              clear HNX HAT hnx2
              go_wp2_with (go_at_call 16; refine (HSp.out _).mono ?_; rintro r w10 ⟨rfl, k10⟩; have HQ2 := hide (HQ.out.2.2.trans (k10.mono HQ.out.2.2.size)); clear k10 HSp c0)
              go_roundw
              case rel => exact ⟨j + 1, n, by simp, rfl, by omega, by omega, fun _ => HN2.out.symm, fun h => (by cases h), HQ2.out⟩
              case measure => simp [intOf]; omega
          · obtain rfl : j = i := by omega
            have hjI : ¬ (j : Int) < j := by omega
            have e1 : L.take j = L := by rw [HN.out]; exact List.take_length
            have hml : M.length = n := by rw [HM.out, HNL.out, e1]
            have HK := hide (HW9.out.trans (HQ.out.2.2.mono HW9.out.size))
            rw [hml]
            clear HM HNL hml e1
            go_wp2_with fail
            go_ret
            exact ⟨rfl, HK.out⟩
        · have hml : M.length = 0 := by rw [HMf.out rfl]; rfl
          have hn : n = 0 := HQ.out.2.1 rfl
          have HK := hide (HW9.out.trans (HQ.out.2.2.mono HW9.out.size))
          subst hn
          rw [hml]
          clear hml HMt HMf
          have hjl : (j : Int) < i ∨ ¬ (j : Int) < i := Classical.em _
          rcases hjl with hjl | hjl
          · go_wp2_with fail
            go_ret
            exact ⟨rfl, HK.out⟩
          · go_wp2_with fail
            go_ret
            exact ⟨rfl, HK.out⟩
end Go.Proofs.YtmnenamdjkjlaaaGreatDoor
/- What the listed tables give the walks of name, and the start that fits. -/
namespace Go.Proofs.YtmnenamdjkjlaaaGreatDoor
open Go.ChangeShapes Go.WideShapes Go.ChangeAt Go.RowKit
theorem own : ownKnob Tryz.prog.godebug = none := by kernel_rfl
theorem laidOut : laidOutB Tryz.prog = true := by kernel_rfl
theorem tPow : (Tryz.prog.globals[1]?).map (·.type) = some 204 := by kernel_rfl
theorem uPow : Tryz.prog.underlying 204 = some (.array 20 31) := by kernel_rfl
theorem cPow : Tryz.prog.cellsOf 204 = 20 := by kernel_rfl
theorem cU64 : Tryz.prog.cellsOf 31 = 1 := by kernel_rfl
def laidName : List (String × DataW Unit) := [("math/bits.deBruijn32tab", Rows.laid_math_bits_deBruijn32tab), ("math/bits.deBruijn64tab", Rows.laid_math_bits_deBruijn64tab), ("internal/strconv.uint64pow10", Rows.laid_internal_strconv_uint64pow10)]
theorem pow_tab : (Rows.laid_internal_strconv_uint64pow10 : DataW Unit) = Lib.tabData .u64 Lib.pow10Tab := by rfl
theorem laid_lt {P : Program} {W : World} {name : String} {d : DataW Unit} {rest : List (String × DataW Unit)} {g : Nat} (hg : P.globalNamed name = some g) (h : laidMet P ((name, d) :: rest) W) : g < W.heap.size := by
  obtain ⟨ps, ⟨g', t', cs, fuel, p, q, hg', ht', hvar, hd, _, _⟩, _⟩ := h
  simp only [World.var?, hg, Option.bind_some] at hvar
  split at hvar
  · rename_i hh
    exact (Array.getElem?_eq_some_iff.1 hh).1
  · cases hvar
theorem gTab : Tryz.prog.globalNamed "math/bits.deBruijn64tab" = some 3 := by kernel_rfl
theorem of_laid {W : World} (h : laidMetH Tryz.prog laidName W) : Vt W := by
  rw [MakeChecks.laidMetH_plain _ _ _ (by kernel_rfl)] at h
  have hs : 4 ≤ W.heap.size := laid_lt gTab h.tail
  have h2 : laidMet Tryz.prog [("internal/strconv.uint64pow10", Lib.tabData .u64 Lib.pow10Tab)] W := by
    rw [← pow_tab]
    exact h.tail.tail
  exact ⟨Lib.tabIs_of_head gPow tPow uPow Tryz.underlying31 cU64 cPow h2, hs⟩
set_option maxRecDepth 100000 in
/-- The door's own heap meets the condition. -/
theorem door_met (os : Os) (args : Array Value) : laidMetH Tryz.prog laidName ((World.doorLaid Tryz.prog 24 os).forCall (fun _ _ => 0) ⟨#[], args, []⟩).memory :=
  laidMetH_of_parts3 (fuel := 8) (laidMet_of_run' 8 (by kernel_rfl) (by kernel_rfl)) (by kernel_rfl) (by kernel_rfl)
end Go.Proofs.YtmnenamdjkjlaaaGreatDoor
