/- The walk: what is taken back is all that stands behind. -/
import Derived.Test.YtohdadjknefjcaaMoveFew
import Derived.Test.YtohdadjknefjcaaMoveRAdd
import Derived.Test.YtohdadjknefjcaaMoveAwake
import Derived.Deep.MidRow
namespace Go.Mov
open Go.RowKit Go.Rws
theorem behind_zero {l : List En} (h : Ord l) (e : En) : (l.take (place l e)).countP (fun x => bfB e x) = 0 := by
  rw [List.countP_eq_zero]
  intro x hx hb
  have h1 := (place_spec (e := e) h).1 x hx
  unfold bfB at hb
  rw [decide_eq_true_iff, cmpE_lt] at hb
  exact h1.asymm hb
theorem behind_count {l : List En} (h : Ord l) {e : En} (hk : known l e = false) : l.countP (fun x => bfB e x) = backs l e := by
  have h2 : (l.drop (place l e)).countP (fun x => bfB e x) = (l.drop (place l e)).length := by
    rw [List.countP_eq_length]
    intro x hx
    have ho := ord_ins h hk
    unfold ins at ho
    have h3 := (List.pairwise_append.1 ho).2.1
    have h4 := (List.pairwise_cons.1 h3).1 x hx
    unfold bfB
    rw [decide_eq_true_iff, cmpE_lt]
    exact h4
  have h5 : l.countP (fun x => bfB e x) = (l.take (place l e)).countP (fun x => bfB e x) + (l.drop (place l e)).countP (fun x => bfB e x) := by
    rw [← List.countP_append, List.take_append_drop]
  rw [h5, behind_zero h, h2, List.length_drop]
  unfold backs
  rw [hk]
  simp
theorem count_take {l : List En} (e : En) {j : Nat} {x : En} (hx : l[j]? = some x) : (l.take (j + 1)).countP (fun x => bfB e x) = (l.take j).countP (fun x => bfB e x) + (if bfB e x then 1 else 0) := by
  rw [List.take_add_one, hx, List.countP_append]
  show _ + [x].countP _ = _
  rw [List.countP_singleton]
/-- The operations of the law's, up to one. -/
def sofar (ks : List Le) (i : Nat) : List En × Int := addsU ((ks.take i).map Le.en)
theorem sofar_next {ks : List Le} {i : Nat} {x : Le} (h : ks[i]? = some x) : sofar ks (i + 1) = (addE (sofar ks i).1 x.en, (sofar ks i).2 + backs (sofar ks i).1 x.en) := by
  unfold sofar
  rw [List.take_add_one, h, List.map_append]
  exact addsU_snoc _ _
theorem sofar_bound {ks : List Le} (h : ks.length ≤ 60) (i : Nat) : (sofar ks i).1.length ≤ 60 ∧ 0 ≤ (sofar ks i).2 ∧ (sofar ks i).2 ≤ 3600 := by
  have := addsU_bound ((ks.take i).map Le.en)
  have hl : ((ks.take i).map Le.en).length ≤ 60 := by rw [List.length_map, List.length_take]; omega
  generalize ((ks.take i).map Le.en).length = n at *
  refine ⟨by unfold sofar; omega, this.2.1, Int.le_trans this.2.2 ?_⟩
  have h1 : (n : Int) * n ≤ 60 * 60 := by
    have h2 : n * n ≤ 60 * 60 := Nat.mul_le_mul hl hl
    have h3 : ((n * n : Nat) : Int) ≤ ((60 * 60 : Nat) : Int) := by exact_mod_cast h2
    simpa using h3
  omega
theorem Le.en_fits {x : Le} (h : x.Fits) : x.en.Fits := ⟨h, by show (1 : Nat) ≤ _; decide⟩
end Go.Mov
namespace Go.Proofs.Ytohdadjknefjcaa
open Go.RowKit Go.Opn Go.Stamp Go.MapInt Go.Mov Go.Shelf Go.Rws
attribute [local go_sem] Oper.semAt_some
theorem infoLeB : (Try.prog.info? 42).map (·.size) = some 10 := by kernel_rfl
/-- A tree, the law's operations, and the document's list of them. -/
structure Mb (W : World) (b : Nat) (kv mv : Value) (ks : List Le) (l : List En) (u : Int) (v : World) : Prop where
  ks : RowsAt Le.cs 10 v kv ks
  m : RowsAt En.cs 10 v mv l
  mn : Nice mv
  t : Tw W b (fun x => kv.ownBlock = some x ∨ mv.ownBlock = some x) l u v
variable {W v v' : World} {b : Nat} {kv mv : Value} {ks : List Le} {l : List En} {u : Int}
theorem Mb.step (h : Mb W b kv mv ks l u v) (k : Below v.heap.size v v') : Mb W b kv mv ks l u v' := ⟨h.ks.below k, h.m.below k, h.mn, h.t.below k⟩
/-- The document's list is another one, the tree's is as it was. -/
structure Mc (W : World) (b : Nat) (kv mv ov : Value) (ks : List Le) (l l' : List En) (u : Int) (v : World) : Prop where
  ks : RowsAt Le.cs 10 v kv ks
  m : RowsAt En.cs 10 v mv l
  mn : Nice mv
  o : RowsAt En.cs 10 v ov l'
  on : Nice ov
  t : Tw W b (fun x => kv.ownBlock = some x ∨ ov.ownBlock = some x) l u v
theorem Mc.step {ov : Value} {l' : List En} (h : Mc W b kv mv ov ks l l' u v) (k : Below v.heap.size v v') : Mc W b kv mv ov ks l l' u v' := ⟨h.ks.below k, h.m.below k, h.mn, h.o.below k, h.on, h.t.below k⟩
theorem Mb.put (h : Mb W b kv mv ks l u v) {ov : Value} {l' : List En} (r : Ra v mv ov l' v') : Mc W b kv mv ov ks l l' u v' :=
  ⟨h.ks.below r.k, h.m.below r.k, h.mn, r.row, r.nice, h.t.turn r.k fun x hx => by
    rcases hx with hx | hx
    · exact .inl (.inl hx)
    · rcases r.spot x hx with e | e
      · exact .inl (.inr e)
      · exact .inr e⟩
theorem Mc.add {ov : Value} {e : En} (h : Mc W b kv mv ov ks l (addE l e) u v) (he : e.Fits) (hl : l.length ≤ 90000) (hu : 0 ≤ u ∧ u ≤ 1000000000000) :
    Calls Try.prog 14 #[.pointer (some ⟨b, 0, none⟩), e.v] v fun r w' => r = .returned (.bool (!known l e)) ∧ Mb W b kv ov ks (addE l e) (u + backs l e) w' := by
  refine (addTw_any e h.t he hl hu).mono ?_
  rintro r w' ⟨rfl, h1, h2, hsz⟩
  exact ⟨rfl, h.ks.kept hsz fun g hg => h2 g (.inl hg), h.o.kept hsz fun g hg => h2 g (.inr hg), h.on, h1⟩
set_option maxHeartbeats 4000000 in
set_option maxRecDepth 100000 in
theorem moveBack_any (v : Value) (es : List Le) (w : World) (hR : RowsAt Le.cs 10 w v es) (hf : ∀ e ∈ es, e.Fits) (hn : es.length ≤ maxLen) : Calls Try.prog 7 #[v] w fun r w' => r = .returned (.bool true) ∧ Below w.heap.size w w' := by
  have HFw := hide (few13_any es v w hR hf hn)
  obtain ⟨va, vc, rfl⟩ := hR.form
  clear hR hf hn
  go_enter Try.func7, Try.ntmps7
  go_upto_region 5 with (first
    | (go_at_call 11; refine HFw.out.mono ?_; rintro r w1 ⟨ka, kc, ks, rfl, hown, hrt⟩; have I1 := hide (And.intro hown hrt); clear hown hrt HFw)
    | (go_at_call 9; refine (newTw_any _).mono ?_; rintro r w2 ⟨b, rfl, h2⟩; have I2 := hide h2; clear h2)
    | (go_at_call 10; refine (awake13_any _).mono ?_; rintro r w3 ⟨rfl, h3⟩; have I3 := hide h3; clear h3))
  obtain ⟨hown, hrt⟩ := I1.out
  have k12 := I2.out.k
  have k13 : Below w1.heap.size w1 w3 := k12.trans (I3.out.mono k12.size)
  have hrows : RowsAt Le.cs 10 w1 (.slice ka ks.length kc) ks := hown.rows Le.cs_length
  have hkl : ∀ g, (Value.slice ka ks.length kc).ownBlock = some g → g < w1.heap.size := fun g hg => (hown.own.lt g hg).2
  have HB : Hid (Mb w1 b (.slice ka ks.length kc) (.slice (some ⟨w3.heap.size, 0, none⟩) 0 0) ks [] 0 (w3.alloc (.cells #[] 36))) := by
    have k4 := (Below.refl _ w3).alloc (Nat.le_refl _) (.cells #[] 36)
    refine ⟨(hrows.below k13).below k4, .inl ⟨⟨_, _, rfl⟩, rfl⟩, .inr ⟨w3.heap.size, 0, 0, 0, rfl, Nat.le_refl _⟩, ?_⟩
    have h5 : Tw w1 b (fun x => (Value.slice ka ks.length kc).ownBlock = some x) [] 0 w2 := by
      obtain ⟨F, e1, e2, _⟩ := I2.out.t
      exact ⟨⟨F, e1, e2, fun x hx hf => by have := hkl x hx; have := e2.low x hf; omega⟩, fun x hx => Nat.lt_of_lt_of_le (hkl x hx) k12.size, k12⟩
    refine (h5.below I3.out).turn k4 fun x hx => ?_
    rcases hx with hx | hx
    · exact .inl hx
    · cases hx; exact .inr ⟨Nat.le_refl _, by simp⟩
  have HKW : Hid (Below w.heap.size w w1 ∧ Right ks) := ⟨hown.below, hrt⟩
  have hk60 := hrt.2
  clear k13 hrows hkl hown hrt k12 I1 I2 I3
  go_wp2_with fail
  go_loopw [5, 6] (fun v5 v6 wr => ∃ (i : Nat) (a : Option Addr) (c : Nat), v6 = .int .i64 i ∧ v5 = .slice a (sofar ks i).1.length c ∧ i ≤ ks.length ∧ Hid (Mb w1 b (.slice ka ks.length kc) (.slice a (sofar ks i).1.length c) ks (sofar ks i).1 (sofar ks i).2 wr)) (fun v5 v6 _ => ks.length - (intOf v6).toNat)
  case atStart => exact ⟨0, _, _, rfl, rfl, Nat.zero_le _, HB.out⟩
  case round =>
    obtain ⟨i, ma, mc, rfl, rfl, hi, HI⟩ := hrel
    clear HB
    have hbd := sofar_bound hk60 i
    by_cases hil : i < ks.length
    · obtain ⟨x, hx⟩ : ∃ x, ks[i]? = some x := ⟨_, List.getElem?_eq_getElem hil⟩
      obtain ⟨g, off, hka, _, hkc, hgl, hrg⟩ := HI.out.ks.at (fun e => by rw [e] at hx; cases hx)
      subst hka
      have HN := hide (sofar_next hx)
      generalize sofar ks i = S at *
      obtain ⟨l, u⟩ := S
      dsimp only at *
      have hxf := (HKW.out.2.1 x (List.mem_of_getElem? hx)).1
      have HX := hide (And.intro hx (And.intro hxf (Le.en_fits hxf)))
      have HE := hide (fun v => entry_any x v)
      have HRf := hide (fun v => refE_any x v)
      have hev : x.v = .agg x.cs.toArray := rfl
      have hee : x.en.v = .agg x.en.cs.toArray := rfl
      rw [hev, hee] at HE HRf
      have hiI : (i : Int) < ks.length := by omega
      have h0 : (0 : Int) ≤ i := by omega
      have hkcI : (ks.length : Int) ≤ kc := by omega
      have HU := hide (undoneTw_any HI.out.t)
      have HRA := hide (fun v (k : Below wr.heap.size wr v) => radd_any l x.en (.slice ma l.length mc) v (HI.out.m.below k) HI.out.mn HI.out.t.ord (by omega))
      rw [hee] at HRA
      have HRG := hide (And.intro hgl hrg)
      clear hx hxf hev hee hgl hrg
      obtain ⟨kn, hkn⟩ : ∃ kn, kn = known l x.en := ⟨_, rfl⟩
      rw [← hkn] at HRA
      have HKN := hide hkn
      clear hkn
      have hul : l.length ≤ 60 := hbd.1
      go_upto_region 11 with (first
        | (go_at_call 28; refine HU.out.mono ?_; rintro r wu ⟨rfl, rfl⟩; clear HU)
        | (refine wpList_load_mid rfl 42 _ rfl g (off + i * 10) rfl x.cs _ (HRG.out.2 i x HX.out.1) Try.underlying42 rfl infoLeB ?_)
        | (go_at_call 13; refine (HRf.out _).mono ?_; rintro r wa ⟨rfl, ka⟩; have KA := hide ka; clear ka)
        | (go_at_call 12; refine (HRA.out _ KA.out).mono ?_; rintro r wb ⟨ov, rfl, hra⟩; have HC0 := hide ((HI.out.step KA.out).put hra); clear hra HRA))
      obtain ⟨oa, oc, hov⟩ := HC0.out.o.form
      subst hov
      clear HI
      have hle : (l.length : Int) ≤ 60 := by omega
      go_wp2_with fail
      go_loopw [11, 12] (fun v11 v12 wq => ∃ j : Nat, v12 = .int .i64 j ∧ v11 = .int .i64 ((l.take j).countP (fun x' => bfB x.en x') : Nat) ∧ j ≤ l.length ∧ Hid (Mc w1 b (.slice (some ⟨g, off, none⟩) ks.length kc) (.slice ma l.length mc) (.slice oa (addE l x.en).length oc) ks l (addE l x.en) u wq)) (fun v11 v12 _ => l.length - (intOf v12).toNat)
      case atStart => exact ⟨0, rfl, rfl, Nat.zero_le _, HC0.out⟩
      case round =>
        obtain ⟨j, rfl, rfl, hj, HJ⟩ := hrel
        clear HC0
        by_cases hjl : j < l.length
        · obtain ⟨y, hy⟩ : ∃ y, l[j]? = some y := ⟨_, List.getElem?_eq_getElem hjl⟩
          obtain ⟨g2, off2, hma, _, hmc, hgl2, hrg2⟩ := HJ.out.m.at (fun e => by rw [e] at hy; cases hy)
          subst hma
          have hct := count_take x.en hy
          have hcl : (l.take j).countP (fun x' => bfB x.en x') ≤ j := Nat.le_trans List.countP_le_length (by rw [List.length_take]; omega)
          generalize (l.take j).countP (fun x' => bfB x.en x') = cn at *
          have HCT := hide hct
          clear hct
          have HB1 := hide (fun v => rbefore13_any x.en y v)
          have hyv : y.v = .agg y.cs.toArray := rfl
          have hee : x.en.v = .agg x.en.cs.toArray := rfl
          rw [hyv, hee] at HB1
          obtain ⟨bq, hbq⟩ : ∃ bq, bq = bfB x.en y := ⟨_, rfl⟩
          rw [← hbq] at HB1 HCT
          obtain ⟨g', off', hka', _, _, hglJ, hrgJ⟩ := HJ.out.ks.at (fun e => by rw [e] at hil; cases hil)
          simp only [Option.some.injEq, Addr.mk.injEq, and_true] at hka'
          obtain ⟨rfl, rfl⟩ := hka'
          have HG1 := hide (And.intro hglJ (hrgJ i x HX.out.1))
          have HG2 := hide (And.intro hgl2 (hrg2 j y hy))
          have hjI : (j : Int) < l.length := by omega
          have hj0 : (0 : Int) ≤ j := by omega
          have hmcI : (l.length : Int) ≤ mc := by omega
          clear hyv hee hbq hglJ hrgJ hgl2 hrg2 hy
          go_upto_region 15 with fail
          refine QuietCalls.region (by kernel_rfl) (by kernel_rfl) ?_
          iterate 3 (first | go_big_quiet_step (fail) | quiet_step (fail))
          refine QuietCalls.loadMid rfl 42 _ rfl g (off + i * 10) rfl x.cs _ (fun v k => rangeAt_below HG1.out.2 HG1.out.1 k) Try.underlying42 rfl infoLeB ?_; simp only [Act.put, List.setIfInBounds_toArray, List.set_cons_succ, List.set_cons_zero]
          refine QuietCalls.call rfl 13 #[.agg x.cs.toArray] (.agg x.en.cs.toArray) (fun v _ => HRf.out v) (fun v => by go_simp) ?_; simp only [Act.put, List.setIfInBounds_toArray, List.set_cons_succ, List.set_cons_zero]
          iterate 3 (first | go_big_quiet_step (fail) | quiet_step (fail))
          refine QuietCalls.loadMid rfl 36 _ rfl g2 (off2 + j * 10) rfl y.cs _ (fun v k => rangeAt_below HG2.out.2 HG2.out.1 k) Try.underlying36 rfl infoREn ?_; simp only [Act.put, List.setIfInBounds_toArray, List.set_cons_succ, List.set_cons_zero]
          refine QuietCalls.call rfl 24 #[.agg x.en.cs.toArray, .agg y.cs.toArray] (.bool bq) (fun v _ => HB1.out v) (fun v => by go_simp) ?_; simp only [Act.put, List.setIfInBounds_toArray, List.set_cons_succ, List.set_cons_zero]
          refine wpQuiet_nil ?_
          intro wz kz
          have HJ2 := hide (HJ.out.step kz)
          clear HJ kz HG1 HG2 HB1
          cases bq with
          | true =>
            go_wp2_with fail
            go_roundw
            case rel => exact ⟨j + 1, by simp, by rw [HCT.out]; simp, by omega, HJ2.out⟩
            case measure => simp [intOf]; omega
          | false =>
            go_wp2_with fail
            go_roundw
            case rel => exact ⟨j + 1, by simp, by rw [HCT.out]; simp, by omega, HJ2.out⟩
            case measure => simp [intOf]; omega
        · obtain rfl : j = l.length := by omega
          rw [List.take_length]
          have hct : kn = false → l.countP (fun x' => bfB x.en x') = backs l x.en := fun h => behind_count HJ.out.t.ord (by rw [← HKN.out]; exact h)
          have hbk : kn = true → backs l x.en = 0 := fun h => by unfold backs; rw [← HKN.out, h]; rfl
          obtain ⟨g', off', hka', _, _, hglJ, hrgJ⟩ := HJ.out.ks.at (fun e => by rw [e] at hil; cases hil)
          simp only [Option.some.injEq, Addr.mk.injEq, and_true] at hka'
          obtain ⟨rfl, rfl⟩ := hka'
          have HG1 := hide (And.intro hglJ (hrgJ i x HX.out.1))
          have HAd := hide (fun v (k : Below wr.heap.size wr v) => (HJ.out.step k).add HX.out.2.2 (by omega) ⟨hbd.2.1, by omega⟩)
          have hee : x.en.v = .agg x.en.cs.toArray := rfl
          rw [hee] at HAd
          have hble := backs_le l x.en
          generalize hcn : l.countP (fun x' => bfB x.en x') = cn at *
          generalize hbn : backs l x.en = bn at *
          have HHH := hide (And.intro hct hbk)
          clear hct hbk hglJ hrgJ hee hcn hbn
          have hjI : ¬ (l.length : Int) < l.length := by omega
          go_upto_region 18 with (first
            | (refine wpList_load_mid rfl 42 _ rfl g (off + i * 10) rfl x.cs _ HG1.out.2 Try.underlying42 rfl infoLeB ?_)
            | (go_at_call 15; refine (HE.out _).mono ?_; rintro r wa ⟨rfl, ka⟩; have KA := hide ka; clear ka)
            | (go_at_call 14; refine (HAd.out _ KA.out).mono ?_; rintro r wb ⟨rfl, hmb⟩; have HM := hide hmb; clear hmb HAd))
          have HU2 := hide (undoneTw_any HM.out.t)
          have hu0 := hbd.2.1
          have hu1 := hbd.2.2
          have hbn : bn ≤ 60 := by omega
          clear HJ HG1 HE HRf HRG
          cases kn with
          | false =>
            obtain rfl := HHH.out.1 rfl
            have hw : IntKind.i64.wrap (u + (cn : Int) - u) = cn := by rw [show u + (cn : Int) - u = cn by omega]; exact Sha.wrap_i64 _ (by omega) (by omega)
            have hww : u + (cn : Int) - u = cn := by omega
            go_wp2_with (go_at_call 28; refine HU2.out.mono ?_; rintro r wu ⟨rfl, rfl⟩; clear HU2)
            go_roundw
            case rel => exact ⟨i + 1, oa, oc, by simp, by rw [HN.out], by omega, by rw [HN.out]; exact HM.out⟩
            case measure => simp [intOf]; omega
          | true =>
            obtain rfl := HHH.out.2 rfl
            simp only [Int.natCast_zero, Int.add_zero] at HU2 HM HN
            go_wp2_with (go_at_call 28; refine HU2.out.mono ?_; rintro r wu ⟨rfl, rfl⟩; clear HU2)
            go_roundw
            case rel => exact ⟨i + 1, oa, oc, by simp, by rw [HN.out], by omega, by rw [HN.out]; exact HM.out⟩
            case measure => simp [intOf]; omega
    · obtain rfl : i = ks.length := by omega
      have HL := hide (lenTw_any HI.out.t)
      have HKK := hide (HKW.out.1.trans (HI.out.t.k.mono HKW.out.1.size))
      generalize (sofar ks ks.length).1.length = L at *
      have hjI : ¬ (ks.length : Int) < ks.length := by omega
      clear HI
      go_wp2_with (go_at_call 16; refine HL.out.mono ?_; rintro r wu ⟨rfl, rfl⟩; clear HL)
      go_ret
      exact ⟨rfl, HKK.out⟩
end Go.Proofs.Ytohdadjknefjcaa
