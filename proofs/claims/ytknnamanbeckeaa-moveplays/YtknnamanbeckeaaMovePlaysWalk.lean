/- The walk: in whatever order operations come, the things are those of all of them, done one behind the other in the order of their times. -/
import Derived.Test.YtknnamanbeckeaaPlaysB
import Derived.Test.YtknnamanbeckeaaPlaysA
import Derived.Test.YtknnamanbeckeaaMoveBackWalk
import Derived.Test.YtknnamanbeckeaaOpRefEq
namespace Go.Mov
open Go.RowKit Go.Rws Go.Opn
theorem addU_all {P : En → Prop} {p : List En × Int} {e : En} (h : ∀ x ∈ p.1, P x) (he : P e) : ∀ x ∈ (addU p e).1, P x := by
  intro x hx
  unfold addU addE at hx
  dsimp only at hx
  split at hx
  · exact h x hx
  · rcases mem_ins.1 hx with rfl | hx
    · exact he
    · exact h x hx
theorem addsU_all {P : En → Prop} (l : List En) (h : ∀ x ∈ l, P x) : ∀ x ∈ (addsU l).1, P x := by
  suffices H : ∀ (l : List En) (p : List En × Int), (∀ x ∈ p.1, P x) → (∀ x ∈ l, P x) → ∀ x ∈ (l.foldl addU p).1, P x from H l _ (fun x hx => by cases hx) h
  intro l
  induction l with
  | nil => intro p hp _; exact hp
  | cons e r ih => intro p hp hl; exact ih _ (addU_all hp (hl e (by simp))) fun x hx => hl x (by simp [hx])
theorem sofar_okay {ks : List Le} (h : Right ks) (i : Nat) : ∀ e ∈ (sofar ks i).1, e.Fits ∧ Okay e.op := by
  unfold sofar
  refine addsU_all _ fun x hx => ?_
  obtain ⟨y, hy, rfl⟩ := List.mem_map.1 hx
  have := h.1 y (List.mem_of_mem_take hy)
  exact ⟨Le.en_fits this.1, okay_of this.2⟩
end Go.Mov
namespace Go.Proofs.Ytknnamanbeckeaa
open Go.RowKit Go.Opn Go.Stamp Go.MapInt Go.Mov Go.Shelf Go.Rws
attribute [local go_sem] Oper.semAt_some
theorem neq_rop {o : Oper} {a : Act} {x y : Operand} {t : TypeId} (ho : o.op = .binOp .neq 34 x y t) (p q : Ob) (hx : a.eval x = .agg p.cs) (hy : a.eval y = .agg q.cs) (e : Bool) (he : p.eqb q = e) (w : World) :
    (execOp a.eval o).run Try.prog w = .ok (.value (.bool (!e))) w := by
  subst he
  unfold execOp
  rw [ho]
  simp only [hx, hy, Sem.run_bind, run_eqGuard_agg w .neq 34 x y p.cs q.cs guardROp, Result.andThen_ok, run_neq_struct, eq_rop]
  rfl
theorem range_ope {w : World} {g o : Nat} {e : En} (h : w.rangeAt g o e.cs) : w.rangeAt g o (ocs e.op) := fun j u hu => by
  refine h j u ?_
  have e1 : (e.cs)[j]? = (ocs e.op ++ [.string e.h])[j]? := rfl
  rw [e1, List.getElem?_append_left (List.getElem?_eq_some_iff.1 hu).1]
  exact hu
set_option maxHeartbeats 8000000 in
set_option maxRecDepth 100000 in
theorem movePlays_any (v : Value) (es : List Le) (w : World) (hR : RowsAt Le.cs 10 w v es) (hf : ∀ e ∈ es, e.Fits) (hn : es.length ≤ maxLen) : Calls Try.prog 3 #[v] w fun r w' => r = .returned (.bool true) ∧ Below w.heap.size w w' := by
  have HF := hide (fun w2 (k : Below w.heap.size w w2) => few13_any es v w2 (hR.below k) hf hn)
  have HN := hide (newTw_any w)
  have HA := hide (fun w1 => awake13_any w1)
  obtain ⟨va, vc, rfl⟩ := hR.form
  clear hR hf hn
  go_enter Try.func3, Try.ntmps3
  go_upto_region 5 with (first
    | (go_at_call 5; refine HN.out.mono ?_; rintro r w1 ⟨b, rfl, h2⟩; have I1 := hide h2; clear h2 HN)
    | (go_at_call 6; refine (HA.out _).mono ?_; rintro r w2 ⟨rfl, h3⟩; have I2 := hide h3; have HF2 := hide (HF.out w2 (I1.out.k.trans (h3.mono I1.out.k.size))); clear h3 HA HF)
    | (go_at_call 7; refine HF2.out.mono ?_; rintro r w3 ⟨ka, kc, ks, rfl, hown, hrt⟩; have I3 := hide (And.intro hown hrt); clear hown hrt HF2))
  obtain ⟨hown, hrt⟩ := I3.out
  have hrows : RowsAt Le.cs 10 w3 (.slice ka ks.length kc) ks := hown.rows Le.cs_length
  have HB : Hid (Mb w b (.slice ka ks.length kc) (.slice (some ⟨w3.heap.size, 0, none⟩) 0 0) ks [] 0 (w3.alloc (.cells #[] 36))) := by
    have k4 := (Below.refl _ w3).alloc (Nat.le_refl _) (.cells #[] 36)
    refine ⟨hrows.below k4, .inl ⟨⟨_, _, rfl⟩, rfl⟩, .inr ⟨w3.heap.size, 0, 0, 0, rfl, Nat.le_refl _⟩, ?_⟩
    have h5 : Tw w b (fun x => (Value.slice ka ks.length kc).ownBlock = some x) [] 0 w3 :=
      (I1.out.below I2.out).turn hown.below fun x hx => .inr (hown.own.lt x hx)
    refine h5.turn k4 fun x hx => ?_
    rcases hx with hx | hx
    · exact .inl hx
    · cases hx; exact .inr ⟨Nat.le_refl _, by simp⟩
  have HKW : Hid (Right ks) := hrt
  have hk60 := hrt.2
  clear hrows hown hrt I1 I2 I3
  go_wp2_with fail
  go_loopw [5, 6] (fun v5 v6 wr => ∃ (i : Nat) (a : Option Addr) (c : Nat), v6 = .int .i64 i ∧ v5 = .slice a (sofar ks i).1.length c ∧ i ≤ ks.length ∧ Hid (Mb w b (.slice ka ks.length kc) (.slice a (sofar ks i).1.length c) ks (sofar ks i).1 (sofar ks i).2 wr)) (fun v5 v6 _ => ks.length - (intOf v6).toNat)
  case atStart => exact ⟨0, _, _, rfl, rfl, Nat.zero_le _, HB.out⟩
  case round =>
    obtain ⟨i, ma, mc, rfl, rfl, hi, HI⟩ := hrel
    clear HB
    have hbd := sofar_bound hk60 i
    by_cases hil : i < ks.length
    · obtain ⟨x, hx⟩ : ∃ x, ks[i]? = some x := ⟨_, List.getElem?_eq_getElem hil⟩
      obtain ⟨g, off, hka, hq1, hkc, hgl, hrg⟩ := HI.out.ks.at (fun e => by rw [e] at hx; cases hx)
      subst hka
      have HN := hide (sofar_next hx)
      have HOK := hide (sofar_okay HKW.out (i + 1))
      rw [sofar_next hx] at HOK
      have hbd2 := sofar_bound hk60 (i + 1)
      rw [sofar_next hx] at hbd2
      generalize sofar ks i = S at *
      obtain ⟨l, u⟩ := S
      dsimp only at *
      have hxf := (HKW.out.1 x (List.mem_of_getElem? hx)).1
      have HX := hide (And.intro hx (And.intro hxf (Le.en_fits hxf)))
      have HE := hide (fun v => entry_any x v)
      have HRf := hide (fun v => refE_any x v)
      have hev : x.v = .agg x.cs.toArray := rfl
      have hee : x.en.v = .agg x.en.cs.toArray := rfl
      rw [hev, hee] at HE HRf
      have hiI : (i : Int) < ks.length := by omega
      have h0 : (0 : Int) ≤ i := by omega
      have hkcI : (ks.length : Int) ≤ kc := by omega
      have HRA := hide (fun v (k : Below wr.heap.size wr v) => radd_any l x.en (.slice ma l.length mc) v (HI.out.m.below k) HI.out.mn HI.out.t.ord (by omega))
      rw [hee] at HRA
      have HRG := hide (And.intro hgl (hrg i x hx))
      clear hx hxf hev hee hgl hrg hq1 hkc
      obtain ⟨kn, hkn⟩ : ∃ kn, kn = !known l x.en := ⟨_, rfl⟩
      rw [← hkn] at HRA
      have HKN := hide hkn
      clear hkn
      have hul : l.length ≤ 60 := hbd.1
      have hul2 : (addE l x.en).length ≤ 60 := hbd2.1
      go_upto_region 9 with (first
        | (refine wpList_load_mid rfl 42 _ rfl g (off + i * 10) rfl x.cs _ HRG.out.2 Try.underlying42 rfl infoLeB ?_)
        | (go_at_call 9; refine (HRf.out _).mono ?_; rintro r wa ⟨rfl, ka⟩; have KA := hide ka; clear ka)
        | (go_at_call 8; refine (HRA.out _ KA.out).mono ?_; rintro r wb ⟨ov, rfl, hra⟩; have HC0 := hide ((HI.out.step KA.out).put hra); have HZB := hide (KA.out.trans (hra.k.mono KA.out.size)); clear hra HRA))
      obtain ⟨oa, oc, hov⟩ := HC0.out.o.form
      subst hov
      have HRG2 := hide (rangeAt_below HRG.out.2 HRG.out.1 HZB.out)
      have HAd := hide (fun v (k : Below wb.heap.size wb v) => (HC0.out.step k).add HX.out.2.2 (by omega) ⟨hbd.2.1, by omega⟩)
      have hee : x.en.v = .agg x.en.cs.toArray := rfl
      rw [hee, ← HKN.out] at HAd
      clear hee HI
      have hu0 := hbd.2.1
      cases kn
      all_goals
        go_wp2_with (first
          | (refine wpList_load_mid rfl 42 _ rfl g (off + i * 10) rfl x.cs _ HRG2.out Try.underlying42 rfl infoLeB ?_)
          | (go_at_call 11; refine (HE.out _).mono ?_; rintro r wc ⟨rfl, kc2⟩; have KC := hide kc2; clear kc2)
          | (go_at_call 10; refine (HAd.out _ KC.out).mono ?_; rintro r wd ⟨rfl, hmb⟩; have HM := hide hmb; have HL := hide (lenTw_any hmb.t); have HTH := hide (rthings_any (addE l x.en) _ wd hmb.m HOK.out (by omega)); clear hmb HAd)
          | (go_at_call 12; refine HL.out.mono ?_; rintro r wl ⟨rfl, rfl⟩; clear HL)
          | (go_at_call 14; refine HTH.out.mono ?_; rintro r we ⟨vt, rfl, hrt⟩; have HSM := hide (same_any vt we (HM.out.t.below hrt.k) hul2 hrt.row); have KE := hide hrt.k; clear hrt HTH)
          | (go_at_call 13; refine HSM.out.mono ?_; rintro r wf ⟨rfl, kf⟩; have KF := hide (KE.out.trans (kf.mono KE.out.size)); clear HSM kf KE))
        go_roundw
        case rel => exact ⟨i + 1, oa, oc, by simp, by rw [HN.out], by omega, by rw [HN.out]; exact HM.out.step KF.out⟩
        case measure => simp [intOf]; omega
    · obtain rfl : i = ks.length := by omega
      have hOK := sofar_okay HKW.out ks.length
      generalize sofar ks ks.length = S at *
      obtain ⟨L, u⟩ := S
      dsimp only at *
      have HLG := hide (log_any _ HI.out.t (by omega))
      have hjI : ¬ (ks.length : Int) < ks.length := by omega
      have hLl : L.length ≤ 60 := hbd.1
      clear hOK
      go_wp2_with (go_at_call 15; refine HLG.out.mono ?_; rintro r w5 ⟨lv, rfl, ho⟩; obtain ⟨ga, gc, rfl⟩ := ho.form; have HO := hide ho; clear HLG ho)
      have HJ0 : Hid (Below w.heap.size w w5 ∧ RowsAt En.cs 10 w5 (.slice ga L.length gc) L ∧ RowsAt En.cs 10 w5 (.slice ma L.length mc) L) := ⟨HI.out.t.k.trans (HO.out.below.mono HI.out.t.k.size), HO.out.rows En.cs_length, HI.out.m.below HO.out.below⟩
      clear HO HI
      go_loopw [10] (fun v10 wr => ∃ j : Nat, v10 = .int .i64 j ∧ j ≤ L.length ∧ Hid (Below w.heap.size w wr ∧ RowsAt En.cs 10 wr (.slice ga L.length gc) L ∧ RowsAt En.cs 10 wr (.slice ma L.length mc) L)) (fun v10 _ => L.length - (intOf v10).toNat)
      case atStart => exact ⟨0, rfl, Nat.zero_le _, HJ0.out⟩
      case round =>
        obtain ⟨j, rfl, hj, HJ⟩ := hrel
        clear HJ0
        have h0 : (0 : Int) ≤ j := by omega
        by_cases hjL : j < L.length
        · obtain ⟨e, he⟩ : ∃ e, L[j]? = some e := ⟨_, List.getElem?_eq_getElem hjL⟩
          obtain ⟨gl, ol, hga, hq1, hgc, hgl, hrl⟩ := HJ.out.2.1.at (fun h => by rw [h] at he; cases he)
          subst hga
          obtain ⟨gm, om, hma, hq2, hmc, hgm, hrm⟩ := HJ.out.2.2.at (fun h => by rw [h] at he; cases he)
          subst hma
          have HG := hide (And.intro (And.intro hgl (hrl j e he)) (And.intro hgm (hrm j e he)))
          have r1 := cell_regrown (hrl j e he 9 _ rfl)
          have r2 := cell_regrown (hrm j e he 9 _ rfl)
          have hjI : (j : Int) < L.length := by omega
          have hgcI : (L.length : Int) ≤ gc := by omega
          have hmcI : (L.length : Int) ≤ mc := by omega
          have hself : e.op.eqb e.op = true := (Ob.eqb_iff _ _).2 rfl
          have HSF := hide hself
          clear he hrl hrm hq1 hq2 hgc hmc hgl hgm hself
          go_upto_region 16 with fail
          refine QuietCalls.region (by kernel_rfl) (by kernel_rfl) ?_
          iterate 23 (first | go_big_quiet_step (fail) | quiet_step (fail))
          refine QuietCalls.loadMid rfl 40 _ rfl gl (ol + j * 10) rfl (ocs e.op) _ (fun v k => range_ope (rangeAt_below HG.out.1.2 HG.out.1.1 k)) Try.underlying40 rfl infoOp9 ?_; simp only [Act.put, List.setIfInBounds_toArray, List.set_cons_succ, List.set_cons_zero]
          refine QuietCalls.call rfl 16 #[.agg (ocs e.op).toArray] (.agg (ocs e.op).toArray) (fun v _ => refOp_any e.op v) (fun v => by go_simp) ?_; simp only [Act.put, List.setIfInBounds_toArray, List.set_cons_succ, List.set_cons_zero]
          iterate 4 (first | go_big_quiet_step (fail) | quiet_step (fail))
          refine QuietCalls.loadMid rfl 34 _ rfl gm (om + j * 10) rfl (ocs e.op) _ (fun v k => range_ope (rangeAt_below HG.out.2.2 HG.out.2.1 k)) Try.underlying34 rfl infoROp9 ?_; simp only [Act.put, List.setIfInBounds_toArray, List.set_cons_succ, List.set_cons_zero]
          refine QuietCalls.hand rfl (.bool (!true)) (fun w => neq_rop rfl e.op e.op rfl rfl true HSF.out w) ?_; simp only [Act.put, List.setIfInBounds_toArray, List.set_cons_succ, List.set_cons_zero]
          iterate 1 (first | go_big_quiet_step (fail) | quiet_step (fail))
          refine wpQuiet_nil ?_
          intro w6 k6
          have HJ2 := hide (And.intro (HJ.out.1.trans (k6.mono HJ.out.1.size)) (And.intro (HJ.out.2.1.below k6) (HJ.out.2.2.below k6)))
          clear HJ k6 r1 r2 HG
          go_wp2_with fail
          go_roundw
          case rel => exact ⟨j + 1, by simp, by omega, HJ2.out⟩
          case measure => simp [intOf]; omega
        · obtain rfl : j = L.length := by omega
          go_wp2_with fail
          refine bodyPost_ret (results_tmp Try.results3 _ _ _) rfl ?_
          exact ⟨rfl, HJ.out.1⟩
end Go.Proofs.Ytknnamanbeckeaa
