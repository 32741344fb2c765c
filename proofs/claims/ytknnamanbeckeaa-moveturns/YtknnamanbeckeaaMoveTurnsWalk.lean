/- The walk: two orders of the same operations come to the same things. -/
import Derived.Test.YtknnamanbeckeaaMoveTwoAll
import Derived.Deep.CutRange
import Derived.Deep.CutBlock
namespace Go.Proofs.Ytknnamanbeckeaa
open Go.RowKit Go.Opn Go.Stamp Go.MapInt Go.Mov Go.Shelf Go.Rws
attribute [local go_sem] Oper.semAt_some
theorem below4 {n : Nat} {w w0 w1 w2 w3 : World} (h0 : Below n w w0) (hn : n ≤ w0.heap.size) (h1 : Below w0.heap.size w0 w1) (h2 : Below w1.heap.size w1 w2) (h3 : Below w2.heap.size w2 w3) : Below n w w3 := by
  have z1 := h1.size
  have z2 := h2.size
  exact ((h0.trans (h1.mono hn)).trans (h2.mono (by omega))).trans (h3.mono (by omega))
def _root_.Go.Mov.Th.eqb (a b : Th) : Bool := a.id == b.id && (a.par == b.par && (a.name.toList == b.name.toList && (a.dir == b.dir && (a.dg.toList == b.dg.toList && (a.size == b.size && true)))))
theorem thEqb_iff (a b : Th) : a.eqb b = true ↔ a = b := by
  obtain ⟨_, _, _, _, _, _⟩ := a
  obtain ⟨_, _, _, _, _, _⟩ := b
  simp only [Th.eqb, Bool.and_eq_true, beq_iff_eq, Th.mk.injEq, toList_iff, and_true]
theorem eq_thing (a b : Th) (w : World) : (Op.equalIn 10000 61 (.agg a.cs.toArray) (.agg b.cs.toArray)).run Try.prog w = .ok (a.eqb b) w := by
  obtain ⟨ai, ap, an, ad, ag, az⟩ := a
  obtain ⟨bi, bp, bn, bd, bg, bz⟩ := b
  simp only [Th.cs]
  rw [run_equalIn_agg w 9999 61 _ _ (by unfold Program.fieldsOf; rw [Try.underlying61]) (by kernel_rfl)]
  unfold Program.fieldsOf
  rw [Try.underlying61]
  refine eq_step (x := .int .u64 ai) (y := .int .u64 bi) (by decide) (by go_simp) (by go_simp) (run_equalIn_int w _ _ _ _ _ _ Try.underlying30) ?_
  refine eq_step (x := .int .u64 ap) (y := .int .u64 bp) (by decide) (by go_simp) (by go_simp) (run_equalIn_int w _ _ _ _ _ _ Try.underlying30) ?_
  refine eq_step (x := .string an) (y := .string bn) (by decide) (by go_simp) (by go_simp) (run_equalIn_string w _ _ _ _ Try.underlying9) ?_
  refine eq_step (x := .bool ad) (y := .bool bd) (by decide) (by go_simp) (by go_simp) (run_equalIn_bool' w _ _ _ _ Try.underlying4) ?_
  refine eq_step (x := .string ag) (y := .string bg) (by decide) (by go_simp) (by go_simp) (run_equalIn_string w _ _ _ _ Try.underlying9) ?_
  refine eq_step (x := .int .i64 az) (y := .int .i64 bz) (by decide) (by go_simp) (by go_simp) (run_equalIn_int w _ _ _ _ _ _ Try.underlying3) ?_
  rfl
theorem guardTh : Try.prog.eqGuardType Try.prog.depth 61 = false := by kernel_rfl
theorem neq_thing {o : Oper} {a : Act} {x y : Operand} {t : TypeId} (ho : o.op = .binOp .neq 61 x y t) (p q : Th) (hx : a.eval x = .agg p.cs.toArray) (hy : a.eval y = .agg q.cs.toArray) (e : Bool) (he : p.eqb q = e) (w : World) :
    (execOp a.eval o).run Try.prog w = .ok (.value (.bool (!e))) w := by
  subst he
  unfold execOp
  rw [ho]
  simp only [hx, hy, Sem.run_bind, run_eqGuard_agg w .neq 61 x y p.cs.toArray q.cs.toArray guardTh, Result.andThen_ok, run_neq_struct, eq_thing]
  rfl
/-- While all things are gathered: a row of one's own in the box bX, apart from some blocks. -/
def Ga (bX n1 : Nat) (S : Nat → Prop) (w0 : World) (pre : List Th) (W : World) : Prop :=
  ((∃ v, Boxed W bX 56 v ∧ W.ownsRow w0.heap.size 61 6 v pre.length (pre.flatMap Th.cs) ∧ ∀ q, v.ownBlock = some q → ¬ S q) ∧ Below w0.heap.size w0 W) ∧ n1 ≤ W.heap.size
theorem Ga.own {p : Th → Prop} (bX n1 : Nat) (S : Nat → Prop) (w0 : World) (B : Nat) (hB : w0.heap.size ≤ B) : OwnFrom B (fun (pre : List (Tp p)) W => Ga bX n1 S w0 (pre.map (·.1)) W) := by
  refine OwnFrom.and (OwnFrom.and (Own.from (fun s A C row hs hg hr => ?_) B) (ownFrom_below (Nat.le_refl _) hB)) (fun s A C row hs hg hr => Nat.le_trans hs hg.size)
  exact holdsRow_own w0.heap.size bX 56 61 6 (fun pre : List (Tp p) => (pre.map (·.1)).length) (fun pre => (pre.map (·.1)).flatMap Th.cs) (fun _ v => ∀ q, v.ownBlock = some q → ¬ S q) s A C row hs hg hr
/-- While all things are held against a row of them: how many were met. -/
def Gb (bX bN D1 n2 : Nat) (T : List Th) (w0 : World) (pre : List Th) (W : World) : Prop :=
  (((∃ v, Boxed W bX 56 v ∧ W.ownsRow w0.heap.size 61 6 v T.length (T.flatMap Th.cs) ∧ True) ∧ Boxed W bN 3 (.int .i64 (pre.length : Nat))) ∧ Below w0.heap.size w0 W) ∧ (pre <+: T ∧ W.heap[D1]? = some (.deferred (some [])) ∧ n2 ≤ W.heap.size)
theorem Gb.own {p : Th → Prop} (bX bN D1 n2 : Nat) (T : List Th) (w0 : World) (B : Nat) (hB : w0.heap.size ≤ B) (hD : D1 < B) : OwnFrom B (fun (pre : List (Tp p)) W => Gb bX bN D1 n2 T w0 (pre.map (·.1)) W) := by
  refine OwnFrom.and (OwnFrom.and (OwnFrom.and (Own.from (fun s A C row hs hg hr => ?_) B) (Own.from (fun s A C row hs hg hr => ?_) B)) (ownFrom_below (Nat.le_refl _) hB)) (fun s A C row hs hg hr => ⟨hs.1, (hg.block D1 (Array.getElem?_eq_some_iff.1 hs.2.1).1 (fun e => by have := (hr D1 e.symm).1; omega)).trans hs.2.1, Nat.le_trans hs.2.2 hg.size⟩)
  · exact holdsRow_own w0.heap.size bX 56 61 6 (fun _ : List (Tp p) => T.length) (fun _ => T.flatMap Th.cs) (fun _ _ => True) s A C row hs hg hr
  · exact boxed_own bN 3 (fun pre : List (Tp p) => .int .i64 ((pre.map (·.1)).length : Nat)) s A C row hs hg hr
theorem Gb.step {bX bN D1 n2 : Nat} {T : List Th} {w0 : World} {pre : List Th} {W W' : World} (h : Gb bX bN D1 n2 T w0 pre W) (k : Below W.heap.size W W') : Gb bX bN D1 n2 T w0 pre W' := by
  obtain ⟨⟨⟨⟨v, g1, g2, g3⟩, g4⟩, g5⟩, g6, g7, g8⟩ := h
  exact ⟨⟨⟨⟨v, (k.block _ g1.lt).trans g1, own_kept g2 (fun q hq => k.block q (g2.lt q hq).2), g3⟩, (k.block _ g4.lt).trans g4⟩, g5.trans (k.mono g5.size)⟩, g6, (k.block _ (Array.getElem?_eq_some_iff.1 g7).1).trans g7, Nat.le_trans g8 k.size⟩
theorem th_one (x : Th) : ∀ u ∈ x.cs, u.oneCell' = true := by
  intro u hu
  simp [Th.cs] at hu
  rcases hu with rfl | rfl | rfl | rfl | rfl | rfl <;> rfl
set_option maxHeartbeats 8000000 in
set_option maxRecDepth 100000 in
theorem moveTurns_any (v : Value) (es : List Le) (ov : Value) (on : Nat) (oz : Nat → Int) (w : World) (hR : RowsAt Le.cs 10 w v es) (hf : ∀ e ∈ es, e.Fits) (hn : es.length ≤ maxLen) (ho : Go.Wire.SRow w 1 ov on (fun j _ => .int .i64 (oz j))) (hoz : ∀ j, j < on → -9223372036854775808 ≤ oz j ∧ oz j ≤ 9223372036854775807) (hon : on ≤ maxLen) :
    Calls Try.prog 4 #[v, ov] w fun r w' => r = .returned (.bool true) ∧ Below w.heap.size w w' := by
  refine (callsIn_wide (n := 9)).1 ?_
  obtain ⟨oa, oc, rfl⟩ := ho.form
  have HO := hide (And.intro ho hoz)
  unfold maxLen at hon
  have k0 := (Below.refl _ w).alloc (Nat.le_refl _) (.cells #[.bool false] 4)
  have hb0 : Boxed (w.alloc (.cells #[.bool false] 4)) w.heap.size 4 (.bool false) := Boxed.new w 4 _
  obtain ⟨w0, hw0⟩ : ∃ w0, w.alloc (.cells #[.bool false] 4) = w0 := ⟨_, rfl⟩
  have hz0 : w0.heap.size = w.heap.size + 1 := by rw [← hw0]; simp
  rw [hw0] at k0 hb0
  have HW0 := hide hw0
  have HB0 := hide (And.intro k0 (And.intro hb0 hz0))
  have HN1 := hide (newTw_any w0)
  have HN2 := hide (fun w1 => newTw_any w1)
  have HA := hide (fun w2 => awake13_any w2)
  have HF := hide (fun w3 (k : Below w.heap.size w w3) => few13_any es v w3 (hR.below k) hf hn)
  have HTw := hide (fun ks v w4 h1 h2 => twins_any ks v w4 h1 h2)
  clear hR hf hn ho hoz hb0 hw0 hz0
  refine callsIn_of_wp_marks Try.func4 rfl trivial ?_ rfl
  simp only [Try.ntmps4, List.size_toArray, List.length_cons, List.length_nil, Nat.reduceAdd, Nat.reduceSub, Array.replicate_succ, Array.replicate_zero, List.push_toArray, List.append_toArray, List.nil_append, List.cons_append]
  refine wpIn_wide.2 ?_
  go_upto_region 1 with fail
  rw [HW0.out]
  go_upto_region 5 with (first
    | (go_at_call 5; refine HN1.out.mono ?_; rintro r w1 ⟨ba, rfl, ha⟩; have IA := hide ha; clear ha HN1)
    | (go_at_call 5; refine (HN2.out _).mono ?_; rintro r w2 ⟨bb, rfl, hb⟩; have IB := hide hb; clear hb HN2)
    | (go_at_call 6; refine (HA.out _).mono ?_; rintro r w3 ⟨rfl, h3⟩; have I3 := hide h3; clear h3 HA)
    | (go_at_call 7; refine (HF.out _ (below4 HB0.out.1 HB0.out.1.size IA.out.k IB.out.k I3.out)).mono ?_; rintro r w4 ⟨ka, kc, ks, rfl, hown, hrt⟩; have I4 := hide (And.intro hown hrt); clear hown hrt HF))
  have hk60 := I4.out.2.2
  have HTT := hide (HTw.out ks _ w4 (I4.out.1.rows Le.cs_length) hk60)
  clear HTw
  go_upto_if 30 with (go_at_call 17; refine HTT.out.mono ?_; rintro r w5 ⟨⟨tw, rfl, htw⟩, h5⟩; have I5 := hide h5; have HNT := hide htw; clear h5 htw HTT)
  have k5 : Below w.heap.size w w5 := ((below4 HB0.out.1 HB0.out.1.size IA.out.k IB.out.k I3.out).trans (I4.out.1.below.mono (below4 HB0.out.1 HB0.out.1.size IA.out.k IB.out.k I3.out).size)).trans (I5.out.mono (by
    have := (below4 HB0.out.1 HB0.out.1.size IA.out.k IB.out.k I3.out).size
    have := I4.out.1.below.size
    omega))
  have b5 : Boxed w5 w.heap.size 4 (.bool false) := by
    have z := HB0.out.2.2
    have z1 := IA.out.k.size
    have z2 := IB.out.k.size
    have z3 := I3.out.size
    have z4 := I4.out.1.below.size
    have e1 := IA.out.k.block w.heap.size (by omega)
    have e2 := IB.out.k.block w.heap.size (by omega)
    have e3 := I3.out.block w.heap.size (by omega)
    have e4 := I4.out.1.below.block w.heap.size (by omega)
    have e5 := I5.out.block w.heap.size (by omega)
    exact e5.trans (e4.trans (e3.trans (e2.trans (e1.trans HB0.out.2.1))))
  have HK5 := hide (And.intro k5 b5)
  cases tw with
  | true =>
    have c5 := b5.cell
    have f5 := b5.frozen
    clear k5 b5
    go_wp2_with fail
    have c6 := World.cell?_setCell_same' w5 ⟨w.heap.size, 0, none⟩ (.bool true) (by rw [c5]; rfl)
    refine ⟨.bool true, by simp [results, Try.f4, go_sem, c6], rfl, HK5.out.1.setCell (p := ⟨w.heap.size, 0, none⟩) (Nat.le_refl _) _⟩
  | false =>
    have hnt := HNT.out rfl
    obtain ⟨Fb, hFb, hkb, hM⟩ := Mt.start IA.out IB.out I3.out I4.out.1 I5.out
    subst hFb
    have HM := hide hM
    have HKB := hide hkb
    have HU := hide hnt.uniq
    have HRt := hide I4.out.2
    clear hM hkb hnt k5 b5 IA IB I3 I4 I5 HNT
    obtain ⟨N, hN⟩ : ∃ N, N = ks.length := ⟨_, rfl⟩
    have HN := hide hN
    rw [← hN] at hk60 HM HKB
    try simp only [← hN]
    clear hN
    have hNI : (N : Int) ≤ 60 := by omega
    go_upto_block 0 with fail
    go_cut [8] from 31 to 43 (fun v wx => Hid (Mt w0 ba (.slice ka N kc) ks Fb [] 0 (sofar ks N).1 (sofar ks N).2 wx))
    case first =>
      go_wp2_with fail
      go_loopw [8] (fun v8 wr => ∃ i : Nat, v8 = .int .i64 i ∧ i ≤ N ∧ Hid (Mt w0 ba (.slice ka N kc) ks Fb [] 0 (sofar ks i).1 (sofar ks i).2 wr)) (fun v8 _ => N - (intOf v8).toNat)
      case atStart => exact ⟨0, rfl, Nat.zero_le _, HM.out⟩
      case round =>
        obtain ⟨i, rfl, hi, HI⟩ := hrel
        clear HM
        by_cases hil : i < N
        · obtain ⟨x, hx⟩ : ∃ x, ks[i]? = some x := ⟨_, List.getElem?_eq_getElem (by rw [← HN.out]; exact hil)⟩
          obtain ⟨g, off, hka, hnn, hkc, hgl, hrg⟩ := HI.out.ks.at (fun e => by rw [e] at hx; cases hx)
          subst hka
          have hbd := sofar_bound (ks := ks) (by rw [← HN.out]; exact hk60) i
          have HNX := hide (sofar_next hx)
          generalize sofar ks i = S at *
          obtain ⟨l, u⟩ := S
          dsimp only at HI hbd HNX
          have hxf := (HRt.out.1 x (List.mem_of_getElem? hx)).1
          have HE := hide (fun v => entry_any x v)
          have hev : x.v = .agg x.cs.toArray := rfl
          have hee : x.en.v = .agg x.en.cs.toArray := rfl
          have HAd := hide (fun v (k : Below wr.heap.size wr v) => (HI.out.step k).add (Le.en_fits hxf) (by omega) ⟨hbd.2.1, by omega⟩)
          rw [hev, hee] at HE
          rw [hee] at HAd
          have hiI : (i : Int) < N := by omega
          have h0 : (0 : Int) ≤ i := by omega
          have hkcI : (N : Int) ≤ kc := by have := HN.out; omega
          have HRG := hide (And.intro hgl (hrg i x hx))
          clear hx hxf hev hee hgl hrg hnn hkc hbd HI
          go_wp2_with (first
            | (refine wpList_load_mid rfl 42 _ rfl g (off + i * 10) rfl x.cs _ HRG.out.2 Try.underlying42 rfl infoLeB ?_)
            | (go_at_call 11; refine (HE.out _).mono ?_; rintro r wa ⟨rfl, ka⟩; have KA := hide ka; clear ka HE)
            | (go_at_call 10; refine (HAd.out _ KA.out).mono ?_; rintro r wb ⟨rfl, hmb⟩; have HM := hide hmb; clear hmb HAd))
          go_roundw
          case rel => exact ⟨i + 1, by simp, by omega, by rw [HNX.out]; exact HM.out⟩
          case measure => simp [intOf]; omega
        · obtain rfl : i = N := by omega
          have hii : ¬ (i : Int) < i := by omega
          go_wp2_with fail
          go_meet
          exact HI.out
    case rest =>
      clear HM
      obtain ⟨Fa, hFa, hM2⟩ := hcut.out.swap HKB.out
      subst hFa
      have hLA : Hid ((sofar ks N).1 = (addsU (ks.map Le.en)).1) := by
        unfold sofar; rw [HN.out, List.take_length]; exact rfl
      generalize sofar ks N = SA at hM2 hLA
      obtain ⟨la, ua⟩ := SA
      dsimp only at hM2 hLA
      have HM := hide hM2
      clear hM2 hcut HKB
      go_upto_block 2 with fail
      go_cut [9] from 44 to 77 (fun v wx => ∃ B : List En, (∀ x ∈ B, x ∈ ks.map Le.en) ∧ B.length ≤ 100 ∧ Hid (Mt w0 Fb.b (.slice ka N kc) ks Fa la ua (addsU B).1 (addsU B).2 wx))
      case first =>
        go_wp2_with fail
        go_loopw [9] (fun v9 wr => ∃ (i : Nat) (B : List En), v9 = .int .i64 i ∧ i ≤ 100 ∧ (∀ x ∈ B, x ∈ ks.map Le.en) ∧ B.length ≤ i ∧ Hid (Mt w0 Fb.b (.slice ka N kc) ks Fa la ua (addsU B).1 (addsU B).2 wr)) (fun v9 _ => 100 - (intOf v9).toNat)
        case atStart => exact ⟨0, [], rfl, by omega, (fun x h => by cases h), by simp, HM.out⟩
        case round =>
          obtain ⟨i, B, rfl, hi, hBm, hBl, HI⟩ := hrel
          clear HM
          by_cases hgo : i < on ∧ i < 100 ∧ 0 < N
          · obtain ⟨hio, hi1, hN0⟩ := hgo
            have hioI : (i : Int) < on := by omega
            have hi1I : (i : Int) < 100 := by omega
            have hN0I : (0 : Int) < N := by omega
            have hi0 : (0 : Int) ≤ i := by omega
            have hwo : Below w.heap.size w wr := HB0.out.1.trans (HI.out.t.k.mono HB0.out.1.size)
            obtain ⟨gb, go', hoa, hgbl, hoc, hoc2⟩ := HO.out.1.at (by omega)
            subst hoa
            have hocI : (on : Int) ≤ oc := by omega
            have c1 : wr.cell? ⟨gb, go' + i, none⟩ = some (.int .i64 (oz i)) := by
              have := hoc2 i 0 hio (by omega)
              rw [Nat.mul_one, Nat.add_zero] at this
              exact (hwo.cell (p := ⟨gb, go' + i, none⟩) hgbl).trans this
            obtain ⟨z, hz⟩ : ∃ z, z = oz i := ⟨_, rfl⟩
            have hzb := HO.out.2 i hio
            rw [← hz] at c1 hzb
            obtain ⟨t, ht⟩ : ∃ t : Int, t = z.tmod N := ⟨_, rfl⟩
            have ht1 : -(N : Int) < t := by rw [ht]; have := Int.lt_tmod_of_pos z hN0I; omega
            have ht2 : t < (N : Int) := by rw [ht]; exact Int.tmod_lt_of_pos z hN0I
            obtain ⟨sn, hsn⟩ : ∃ sn : Nat, (sn : Int) = t + N := ⟨(t + N).toNat, by omega⟩
            obtain ⟨q, hq⟩ : ∃ q, q = sn % N := ⟨_, rfl⟩
            have hqN : q < N := by rw [hq]; exact Nat.mod_lt _ hN0
            have r1 : z.tmod (N : Int) = t := ht.symm
            have r2 : t + (N : Int) = (sn : Int) := hsn.symm
            have r3 : (sn : Int).tmod (N : Int) = (q : Int) := by rw [hq, Int.tmod_eq_emod_of_nonneg (by omega)]; simp
            have r3' : (sn : Int) % (N : Int) = (q : Int) := by rw [hq]; simp
            have hq0 : (0 : Int) ≤ q := by omega
            have hqI : (q : Int) < N := by omega
            have hsn0 : (0 : Int) ≤ sn := by omega
            have hsnI : (sn : Int) ≤ 200 := by omega
            obtain ⟨x, hx⟩ : ∃ x, ks[q]? = some x := ⟨_, List.getElem?_eq_getElem (by rw [← HN.out]; exact hqN)⟩
            obtain ⟨g, off, hka, hnn, hkc, hgl, hrg⟩ := HI.out.ks.at (fun e => by rw [e] at hx; cases hx)
            subst hka
            have hbd := addsU_bound B
            have hBB : (B.length : Int) * B.length ≤ 10000 := by
              have h2 : B.length * B.length ≤ 100 * 100 := Nat.mul_le_mul (by omega) (by omega)
              have h3 : ((B.length * B.length : Nat) : Int) ≤ ((100 * 100 : Nat) : Int) := by exact_mod_cast h2
              simpa using h3
            have hxf := (HRt.out.1 x (List.mem_of_getElem? hx)).1
            have HE := hide (fun v => entry_any x v)
            have hev : x.v = .agg x.cs.toArray := rfl
            have hee : x.en.v = .agg x.en.cs.toArray := rfl
            have HAd := hide (fun v (k : Below wr.heap.size wr v) => (HI.out.step k).add (Le.en_fits hxf) (by omega) ⟨hbd.2.1, by omega⟩)
            rw [hev] at HE
            rw [hee] at HAd HE
            have hkcI : (N : Int) ≤ kc := by have := HN.out; omega
            have HRG := hide (And.intro hgl (hrg q x hx))
            have HX := hide hx
            clear hx hxf hev hee hgl hrg hnn hkc hbd HI hz ht hsn hq hoc2 hgbl hwo hoc hBB
            go_wp2_with (first
              | (refine wpList_load_mid rfl 42 _ rfl g (off + q * 10) rfl x.cs _ HRG.out.2 Try.underlying42 rfl infoLeB ?_)
              | (go_at_call 11; refine (HE.out _).mono ?_; rintro r wa ⟨rfl, ka⟩; have KA := hide ka; clear ka HE)
              | (go_at_call 10; refine (HAd.out _ KA.out).mono ?_; rintro r wb ⟨rfl, hmb⟩; have HM := hide hmb; clear hmb HAd))
            go_roundw
            case rel =>
              refine ⟨i + 1, B ++ [x.en], by simp, by omega, fun y hy => ?_, by rw [List.length_append]; simp; omega, by rw [addsU_snoc]; exact HM.out⟩
              rcases List.mem_append.1 hy with hy | hy
              · exact hBm y hy
              · rw [List.mem_singleton.1 hy]; exact List.mem_map.2 ⟨x, List.mem_of_getElem? HX.out, rfl⟩
            case measure => simp [intOf]; omega
          · by_cases hio : i < on
            · have hioI : (i : Int) < on := by omega
              by_cases hi1 : i < 100
              · have hi1I : (i : Int) < 100 := by omega
                have hN0I : ¬ (0 : Int) < N := by omega
                clear hgo
                go_wp2_with fail
                go_meet
                exact ⟨B, hBm, by omega, HI.out⟩
              · have hi1I : ¬ (i : Int) < 100 := by omega
                clear hgo
                go_wp2_with fail
                go_meet
                exact ⟨B, hBm, by omega, HI.out⟩
            · have hioI : ¬ (i : Int) < on := by omega
              clear hgo
              go_wp2_with fail
              go_meet
              exact ⟨B, hBm, by omega, HI.out⟩
      case rest =>
        obtain ⟨B, hBm, hBl, HI⟩ := hcut
        clear HM
        go_upto_block 4 with fail
        go_cut [10] from 81 to 91 (fun v wx => ∃ u : Int, Hid (Mt w0 Fb.b (.slice ka N kc) ks Fa la ua la u wx))
        case first =>
          go_wp2_with fail
          go_loopw [10] (fun v10 wr => ∃ (j : Int) (m : Nat) (B : List En), v10 = .int .i64 j ∧ j + 1 = m ∧ m ≤ N ∧ (∀ x ∈ B, x ∈ ks.map Le.en) ∧ (∀ i x, m ≤ i → ks[i]? = some x → x.en ∈ B) ∧ B.length + m ≤ 160 ∧ Hid (Mt w0 Fb.b (.slice ka N kc) ks Fa la ua (addsU B).1 (addsU B).2 wr)) (fun v10 _ => (intOf v10 + 1).toNat)
          case atStart => exact ⟨_, N, B, rfl, by omega, Nat.le_refl _, hBm, fun i x h1 h2 => absurd (List.getElem?_eq_some_iff.1 h2).1 (by rw [← HN.out]; omega), by omega, HI.out⟩
          case round =>
            clear HI hBm hBl
            obtain ⟨j, m, B, rfl, hjm, hm, hBm, hBs, hBl, HI⟩ := hrel
            by_cases hj : 0 ≤ j
            · obtain ⟨q, rfl⟩ : ∃ q : Nat, j = q := ⟨j.toNat, by omega⟩
              obtain rfl : m = q + 1 := by omega
              have hqI : (q : Int) < N := by omega
              obtain ⟨x, hx⟩ : ∃ x, ks[q]? = some x := ⟨_, List.getElem?_eq_getElem (by rw [← HN.out]; omega)⟩
              obtain ⟨g, off, hka, hnn, hkc, hgl, hrg⟩ := HI.out.ks.at (fun e => by rw [e] at hx; cases hx)
              subst hka
              have hbd := addsU_bound B
              have hBB : (B.length : Int) * B.length ≤ 25600 := by
                have h2 : B.length * B.length ≤ 160 * 160 := Nat.mul_le_mul (by omega) (by omega)
                have h3 : ((B.length * B.length : Nat) : Int) ≤ ((160 * 160 : Nat) : Int) := by exact_mod_cast h2
                simpa using h3
              have hxf := (HRt.out.1 x (List.mem_of_getElem? hx)).1
              have HE := hide (fun v => entry_any x v)
              have hev : x.v = .agg x.cs.toArray := rfl
              have hee : x.en.v = .agg x.en.cs.toArray := rfl
              have HAd := hide (fun v (k : Below wr.heap.size wr v) => (HI.out.step k).add (Le.en_fits hxf) (by omega) ⟨hbd.2.1, by omega⟩)
              rw [hev] at HE
              rw [hee] at HAd HE
              have hkcI : (N : Int) ≤ kc := by have := HN.out; omega
              have HRG := hide (And.intro hgl (hrg q x hx))
              have HX := hide hx
              clear hx hxf hev hee hgl hrg hnn hkc hbd HI hBB
              go_wp2_with (first
                | (refine wpList_load_mid rfl 42 _ rfl g (off + q * 10) rfl x.cs _ HRG.out.2 Try.underlying42 rfl infoLeB ?_)
                | (go_at_call 11; refine (HE.out _).mono ?_; rintro r wa ⟨rfl, ka⟩; have KA := hide ka; clear ka HE)
                | (go_at_call 10; refine (HAd.out _ KA.out).mono ?_; rintro r wb ⟨rfl, hmb⟩; have HM := hide hmb; clear hmb HAd))
              go_roundw
              case rel =>
                refine ⟨_, q, B ++ [x.en], rfl, by omega, by omega, fun y hy => ?_, fun i y h1 h2 => ?_, by rw [List.length_append]; simp; omega, by rw [addsU_snoc]; exact HM.out⟩
                · rcases List.mem_append.1 hy with hy | hy
                  · exact hBm y hy
                  · rw [List.mem_singleton.1 hy]; exact List.mem_map.2 ⟨x, List.mem_of_getElem? HX.out, rfl⟩
                · rw [List.mem_append, List.mem_singleton]
                  by_cases e : i = q
                  · subst e
                    rw [HX.out] at h2
                    cases h2
                    exact .inr rfl
                  · exact .inl (hBs i y (by omega) h2)
              case measure => simp [intOf]
            · obtain rfl : m = 0 := by omega
              have hsame : (addsU B).1 = la := by
                rw [hLA.out]
                refine (addsU_same HU.out fun x => ⟨fun hx => ?_, hBm x⟩).symm
                obtain ⟨y, hy, rfl⟩ := List.mem_map.1 hx
                obtain ⟨i, hi, rfl⟩ := List.getElem_of_mem hy
                exact hBs i _ (Nat.zero_le _) (List.getElem?_eq_getElem hi)
              rw [hsame] at HI
              clear hsame hBs hBm
              go_wp2_with fail
              go_meet
              exact ⟨_, HI.out⟩
        case rest =>
          clear HI hBm hBl B
          obtain ⟨ub, HI⟩ := hcut
          have hlen : la.length ≤ 60 := by
            have := (addsU_bound (ks.map Le.en)).1
            rw [← hLA.out, List.length_map, ← HN.out] at this
            omega
          have hfa := HI.out.x.fine
          have hTl : (ths [] la).length < 256 := by
            have := ths_length (t := []) Fine.nil HI.out.x.fits
            simp at this
            omega
          obtain ⟨mbb, hTb⟩ := HI.out.t.ths
          have HAa := hide (fun v (k : Below wc.heap.size wc v) => all_any v (HI.out.x.g.ths.below k) hfa.rises hfa.fits hTl)
          have HAb := hide (fun v (k : Below wc.heap.size wc v) => all_any v (hTb.below k) hfa.rises hfa.fits hTl)
          have HLa := hide (fun v (k : Below wc.heap.size wc v) => lenTree_any v (HI.out.x.below k))
          have HLb := hide (fun v (k : Below wc.heap.size wc v) => lenTw_any (HI.out.t.below k))
          have hwc : Below w.heap.size w wc := HB0.out.1.trans (HI.out.t.k.mono HB0.out.1.size)
          have hbc : Boxed wc w.heap.size 4 (.bool false) := (HI.out.t.k.block w.heap.size (by have := HB0.out.2.2; omega)).trans HB0.out.2.1
          have HWC := hide (And.intro hwc hbc)
          obtain ⟨T, hT⟩ : ∃ T, T = ths [] la := ⟨_, rfl⟩
          rw [← hT] at HAa HAb hTl
          clear hfa hTb hwc hbc hT HI k0 HU HRt HO
          obtain ⟨n0, hn0⟩ : ∃ n0, n0 = wc.heap.size := ⟨_, rfl⟩
          have HN0 := hide hn0
          have kC := ((Below.refl wc.heap.size wc).alloc (Nat.le_refl _) (.cells #[] 61)).alloc (by simp) (.cells #[.slice (some ⟨wc.heap.size, 0, none⟩) 0 0] 56)
          have HKC := hide kC
          have HA1 := hide (HAa.out _ kC)
          clear hn0 kC HAa
          go_wp2_with (go_at_call 18; refine HA1.out.mono ?_; rintro r w7 ⟨bx, rfl, hall⟩; have HALL := hide hall; clear hall HA1)
          obtain ⟨aA, cA, gA, hbx1, hbx2, hgA, hgA1, hgA2, hTs, hkA⟩ := HALL.out
          obtain ⟨W6, hW6⟩ : ∃ W6, (wc.alloc (.cells #[] 61)).alloc (.cells #[.slice (some ⟨wc.heap.size, 0, none⟩) 0 0] 56) = W6 := ⟨_, rfl⟩
          have hb6 : Boxed W6 (wc.heap.size + 1) 56 (.slice (some ⟨wc.heap.size, 0, none⟩) 0 0) := by
            rw [← hW6]
            have := Boxed.new (wc.alloc (.cells #[] 61)) 56 (.slice (some ⟨wc.heap.size, 0, none⟩) 0 0)
            rwa [World.size_alloc] at this
          have ho6 : W6.ownsRow wc.heap.size 61 6 (.slice (some ⟨wc.heap.size, 0, none⟩) 0 0) 0 [] := by
            rw [← hW6]
            exact (World.ownsRow_made wc #[] 0 (Nat.le_refl _) (Nat.zero_le _) (by simp)).alloc _
          have hz6 : W6.heap.size = wc.heap.size + 2 := by rw [← hW6]; simp
          rw [hW6] at hbx1 hgA1 hkA HKC
          have hbxl : bx < w7.heap.size := cell_lt hbx2
          have hb7 : Boxed w7 (wc.heap.size + 1) 56 (.slice (some ⟨wc.heap.size, 0, none⟩) 0 0) := (hkA.block _ (by omega)).trans hb6
          have ho7 : w7.ownsRow wc.heap.size 61 6 (.slice (some ⟨wc.heap.size, 0, none⟩) 0 0) 0 [] := own_kept ho6 (fun q hq => by cases hq; exact hkA.block _ (by show wc.heap.size < _; omega))
          have hk7 : Below wc.heap.size wc w7 := HKC.out.trans (hkA.mono (by omega))
          have HG0 : Hid (Ga (wc.heap.size + 1) w7.heap.size (fun q => q = bx ∨ q = gA) wc [] w7) := ⟨⟨⟨_, hb7, ho7, fun q hq hS => by have h : wc.heap.size = q := (by injection hq); omega⟩, hk7⟩, Nat.le_refl _⟩
          have HV := hide (vals_of (fun _ => True) T (fun _ _ => trivial) bx gA 8 w7 hbx2 hgA hTs (by omega))
          have HX := hide (And.intro hbx1 (And.intro hbxl (And.intro hgA1 (And.intro hgA2 hz6))))
          have hwz := HWC.out.1.size
          obtain ⟨ti, hti, htz, hts, htb⟩ := info_of infoThs
          have HTI := hide (And.intro hti (And.intro htz (And.intro hts htb)))
          clear hW6 hb6 ho6 hz6 hbx1 hbxl hb7 ho7 hk7 hbx2 hgA hTs hgA1 hgA2 hkA HALL HKC hti htz hts htb
          refine (wpIn_wide (n := 9)).1 ?_
          generalize hA : Act.mk _ [] = A
          refine wpIn_rangeFunc_ownH rfl (by decide) (gf := 50) (lb := #[.pointer (some ⟨bx, 0, none⟩)]) (by subst hA; rfl) trivial (enters_of Try.func50 (by kernel_rfl) rfl)
            HV.out (fun h k => KpB_t _ _ h k) (KpB_b _ _ _ HX.out.2.1 HX.out.2.2.2.1) (Below.refl _ _) (fun _ => rfl)
            (fun pre W => Ga (wc.heap.size + 1) w7.heap.size (fun q => q = bx ∨ q = gA) wc (pre.map (·.1)) W)
            (fun _ _ _ => False)
            (Ga.own _ _ _ _ _ HG0.out.1.2.size) (fun c s A B row h => h.elim) HG0.out
            (fun x a' W => ∃ Bt, wc.heap.size ≤ Bt ∧ W.heap[Bt]? = some (.cells x.1.cs.toArray 61 (0, 0)) ∧ a' = { tmps := (A.tmps.setIfInBounds 95 x.1.v).setIfInBounds 12 (.pointer (some ⟨Bt, 0, none⟩)), defers := [] }) ?hAx ?assign ?body ?done ?stop
          case hAx =>
            rintro x a' _ X Y row ⟨Bt, h1, h2, h3⟩ hg hr
            exact ⟨Bt, h1, (hg.block Bt (Array.getElem?_eq_some_iff.1 h2).1 (fun e => by obtain ⟨_, o, ho, hc⟩ := hr Bt e.symm; rw [h2] at ho; cases ho; cases hc)).trans h2, h3⟩
          case assign =>
            rintro lq pre ⟨x, hx⟩ W K hI hK
            subst hA
            dsimp only
            unfold Th.v
            gi_wp2
            have kz := (Below.refl _ W).alloc (Nat.le_refl _) (.cells x.cs.toArray 61)
            obtain ⟨⟨⟨v, g1, g2, g3⟩, g4⟩, g5⟩ := hI
            have hzW := g4.size
            exact hK _ _ ((KeepsOthers.alloc _ _).from _) ⟨kz.size, kz.block _ (by have := HX.out.2.1; omega), kz.block _ (by have := HX.out.2.2.2.1; omega)⟩ ⟨⟨⟨v, g1.alloc _, g2.alloc _, g3⟩, g4.trans (kz.mono hzW)⟩, Nat.le_trans g5 kz.size⟩ ⟨W.heap.size, hzW, heap_alloc_new W _, rfl⟩
          case body =>
            rintro lq pre ⟨x, hx⟩ a' W hlq hrec ⟨⟨⟨v, g1, g2, g3⟩, g4⟩, g5⟩ ⟨Bt, h1, h2, rfl⟩ hlen2
            subst hA
            obtain ⟨pl, hpl⟩ : ∃ pl, pl = pre.map (·.1) := ⟨_, rfl⟩
            have hpll : pl.length < 256 := by rw [hpl, List.length_map]; omega
            rw [← hpl] at g2
            have HPL := hide hpl
            obtain ⟨va, vc, rfl⟩ := own_form g2
            have hc := g1.cell
            have hfz := g1.frozen
            have d0 : W.cell? ⟨Bt, 0, none⟩ = some (.int .u64 x.id) := (cell_of_row _ _ _ _ _ _ h2).trans rfl
            have d1 : W.cell? ⟨Bt, 1, none⟩ = some (.int .u64 x.par) := (cell_of_row _ _ _ _ _ _ h2).trans rfl
            have d2 : W.cell? ⟨Bt, 2, none⟩ = some (.string x.name) := (cell_of_row _ _ _ _ _ _ h2).trans rfl
            have d3 : W.cell? ⟨Bt, 3, none⟩ = some (.bool x.dir) := (cell_of_row _ _ _ _ _ _ h2).trans rfl
            have d4 : W.cell? ⟨Bt, 4, none⟩ = some (.string x.dg) := (cell_of_row _ _ _ _ _ _ h2).trans rfl
            have d5 : W.cell? ⟨Bt, 5, none⟩ = some (.int .i64 x.size) := (cell_of_row _ _ _ _ _ _ h2).trans rfl
            have HV := hide (And.intro g1 (And.intro g2 (And.intro g3 (And.intro g4 g5))))
            clear g1 g2 g3 g4 g5 h2 hpl hlen2 hrec
            simp only [List.setIfInBounds_toArray, List.set_cons_succ, List.set_cons_zero]
            gi_wp2_with (first
              | (gi_at_builtin
                 refine AppendSz.wpListIn_append_sz rfl _ _ 56 rfl wc.heap.size 61 ti Th.zero.v 6 64 undTs HTI.out.1 HTI.out.2.1 HTI.out.2.2.1 HTI.out.2.2.2 rfl (by decide) _ _ _ rfl (HV.out.2.1.alloc _) ⟨W.heap.size, 0, none⟩ 1 1 x.cs rfl rfl (row_news W x.cs 61) (th_one x) (by unfold maxLen; omega) (by omega) (by have := HV.out.2.2.2.1.size; simp; omega) ?_
                 intro v' w3 hown' hg3 hat
                 obtain ⟨g', cap', rfl⟩ := ownsRow_succ hown'
                 have hY := HV.out.1.appended (by decide) HV.out.2.1 HV.out.2.2.2.1.size (by omega) hown' hg3
                 have hc3 := hY.1.cell
                 have hf3 := hY.1.frozen
                 have HY := hide (And.intro hY (And.intro hat hg3))
                 clear hY hown' hg3 hat))
            obtain ⟨⟨_, y2, y3, y4, y5⟩, yat, yg⟩ := HY.out
            obtain ⟨v1, v2, v3, v4, v5⟩ := HV.out
            have hbx := HX.out
            have hkeep : ∀ q, q = bx ∨ q = gA → (w3.setCell ⟨wc.heap.size + 1, 0, none⟩ (.slice (some ⟨g', 0, none⟩) (pl.length + 1) cap')).heap[q]? = W.heap[q]? := by
              intro q hq
              have hql : q < W.heap.size ∧ q ≠ wc.heap.size + 1 := by rcases hq with rfl | rfl <;> omega
              exact (heap_setCell_other _ _ _ _ hql.2).trans ((yg.block q (by simp; omega) (fun e => v3 q e.symm hq)).trans (heap_alloc_old _ _ hql.1))
            refine ⟨y4.from _, ⟨y5.size, hkeep bx (.inl rfl), hkeep gA (.inr rfl)⟩, ⟨⟨⟨_, y2, ?_, fun q hq hS => ?_⟩, v4.trans y5⟩, Nat.le_trans v5 y5.size⟩⟩
            · have e1 : (pre ++ [(⟨x, hx⟩ : Tp (fun _ => True))]).unattach = pl ++ [x] := by simp [HPL.out]
              rw [e1, List.length_append, List.flatMap_append]
              simpa using y3
            · rcases yat with e | e
              · rw [e] at hq; exact v3 q hq hS
              · rw [e] at hq
                have : (W.alloc (.cells x.cs.toArray 61)).heap.size = q := by injection hq
                rw [World.size_alloc] at this
                rcases hS with rfl | rfl <;> omega
          case done =>
            rintro D xs W hD hxs ⟨⟨⟨v, g1, g2, g3⟩, g4⟩, g5⟩ hK
            subst hA
            rw [hxs] at g2
            have k8 := g4.alloc g4.size (.cells #[.int .i64 0] 3)
            have HA2 := hide (HAb.out _ k8)
            obtain ⟨vx, cx, rfl⟩ := own_form g2
            have HQ := hide (And.intro g1 (And.intro g2 (And.intro g4 (And.intro hK (And.intro hD g5)))))
            clear g1 g2 g3 g4 g5 hK hD hxs HAb k8
            dsimp only
            go_wp2_with (go_at_call 18; refine HA2.out.mono ?_; rintro r w9 ⟨bx2, rfl, hall⟩; have HALL := hide hall; clear hall HA2)
            obtain ⟨aB, cB, gB, hbx1, hbx2, hgB, hgB1, hgB2, hTs, hkB⟩ := HALL.out
            obtain ⟨q1, q2, q4, qK, qD, q5⟩ := HQ.out
            have hb8 : Boxed (W.alloc (.cells #[.int .i64 0] 3)) W.heap.size 3 (.int .i64 0) := Boxed.new W 3 _
            have k8 := (Below.refl W.heap.size W).alloc (Nat.le_refl _) (.cells #[.int .i64 0] 3)
            have hz8 : (W.alloc (.cells #[.int .i64 0] 3)).heap.size = W.heap.size + 1 := by simp
            rw [hz8] at hbx1 hgB1
            have k9 : Below W.heap.size W w9 := k8.trans (hkB.mono (by omega))
            have z9 := k9.size
            have z9' := hkB.size
            have hDl : D < W.heap.size := (Array.getElem?_eq_some_iff.1 qK).1
            have hG0 : Gb (wc.heap.size + 1) W.heap.size D w9.heap.size T wc [] w9 :=
              ⟨⟨⟨⟨_, (k9.block _ q1.lt).trans q1, own_kept q2 (fun q hq => k9.block q (q2.lt q hq).2), trivial⟩, (hkB.block _ (by omega)).trans hb8⟩, q4.trans (k9.mono q4.size)⟩, List.nil_prefix, (k9.block _ hDl).trans qK, Nat.le_refl _⟩
            have HG1 := hide hG0
            have hbl2 : bx2 < w9.heap.size := cell_lt hbx2
            have HV2 := hide (vals_of (fun _ => True) T (fun _ _ => trivial) bx2 gB 8 w9 hbx2 hgB hTs (by omega))
            have HX2 := hide (And.intro hbx1 (And.intro hbl2 (And.intro hgB1 (And.intro hgB2 (And.intro hDl (And.intro z9 q4.size))))))
            clear hb8 k8 hz8 k9 z9 z9' hDl hG0 hbl2 hbx1 hbx2 hgB hgB1 hgB2 hTs hkB HALL HV HG0 q1 q2 q4 qK qD q5
            refine (wpIn_wide (n := 9)).1 ?_
            generalize hA : Act.mk _ _ = A
            refine wpIn_rangeFunc_ownH rfl (by decide) (gf := 50) (lb := #[.pointer (some ⟨bx2, 0, none⟩)]) (by subst hA; rfl) trivial (enters_of Try.func50 (by kernel_rfl) rfl)
              HV2.out (fun h k => KpB_t _ _ h k) (KpB_b _ _ _ HX2.out.2.1 HX2.out.2.2.2.1) (Below.refl _ _) (fun _ => rfl)
              (fun pre W' => Gb (wc.heap.size + 1) W.heap.size D w9.heap.size T wc (pre.map (·.1)) W')
              (fun c pre _ => c = .ret ∧ ¬ pre.map (·.1) <+: T)
              (Gb.own _ _ _ _ _ _ _ HG1.out.1.2.size (by have := HX2.out.2.2.2.2; omega)) ?hIx HG1.out
              (fun x a' W' => ∃ Bt, wc.heap.size ≤ Bt ∧ W'.heap[Bt]? = some (.cells x.1.cs.toArray 61 (0, 0)) ∧ a' = { tmps := (A.tmps.setIfInBounds 102 x.1.v).setIfInBounds 14 (.pointer (some ⟨Bt, 0, none⟩)), defers := [] }) ?hAx2 ?assign2 ?body2 ?done2 ?stop2
            case hIx =>
              intro c s A B row h _ _
              exact h
            case hAx2 =>
              rintro x a' _ X Y row ⟨Bt, h1, h2, h3⟩ hg hr
              exact ⟨Bt, h1, (hg.block Bt (Array.getElem?_eq_some_iff.1 h2).1 (fun e => by obtain ⟨_, o, ho, hc⟩ := hr Bt e.symm; rw [h2] at ho; cases ho; cases hc)).trans h2, h3⟩
            case assign2 =>
              rintro lq pre ⟨x, hx⟩ V K hI hK
              subst hA
              dsimp only
              unfold Th.v
              gi_wp2
              have kz := (Below.refl _ V).alloc (Nat.le_refl _) (.cells x.cs.toArray 61)
              have hI2 := hI.step kz
              have hzV := hI.1.2.size
              have hzV2 := hI.2.2.2
              exact hK _ _ ((KeepsOthers.alloc _ _).from _) ⟨kz.size, kz.block _ (by have := HX2.out.2.1; omega), kz.block _ (by have := HX2.out.2.2.2.1; omega)⟩ hI2 ⟨V.heap.size, hzV, heap_alloc_new V _, rfl⟩
            case body2 =>
              rintro lq pre ⟨x, hx⟩ a' V hlq hrec hI ⟨Bt, h1, h2, rfl⟩ hlen2
              subst hA
              obtain ⟨pl, hpl⟩ : ∃ pl, pl = pre.map (·.1) := ⟨_, rfl⟩
              have hpll : pl.length < T.length := by rw [hpl, List.length_map]; exact hlen2
              rw [← hpl] at hI
              have HPL := hide hpl
              have HI := hide hI
              obtain ⟨⟨⟨⟨v, g1, g2, _⟩, g4⟩, g5⟩, g6, g7, g8⟩ := hI
              obtain ⟨va, vc, rfl⟩ := own_form g2
              obtain ⟨y, hy⟩ : ∃ y, T[pl.length]? = some y := ⟨_, List.getElem?_eq_getElem hpll⟩
              obtain ⟨gr, off, hva, _, hvc, hgl, hrg⟩ := (RowsAt.of_own Th.cs_length g2).at (fun e => by rw [e] at hy; cases hy)
              subst hva
              have hry := hrg pl.length y hy
              have hrx : V.rangeAt Bt 0 x.cs := fun j u hu => by rw [cell_of_row _ _ _ _ _ _ h2, List.getElem?_toArray, Nat.zero_add]; exact hu
              have hbt : Bt < V.heap.size := (Array.getElem?_eq_some_iff.1 h2).1
              have HR := hide (And.intro hgl (And.intro hry (And.intro hbt hrx)))
              have HY := hide hy
              have r1 := cell_regrown g1.cell
              have r4 := cell_regrown g4.cell
              obtain ⟨eb, heb⟩ : ∃ eb, eb = y.eqb x := ⟨_, rfl⟩
              have HEB := hide heb.symm
              have hdN : decide (T.length ≤ pl.length) = false := by simpa using hpll
              have hnI2 : (pl.length : Int) < T.length := by omega
              have hvI : (T.length : Int) ≤ vc := by omega
              clear g1 g2 g4 g5 g6 g7 g8 hy hgl hrg hry hrx hbt heb hpl h2 hrec hlen2
              simp only [List.setIfInBounds_toArray, List.set_cons_succ, List.set_cons_zero]
              gi_wp2_with fail
              refine QuietCalls.tailIn 11 (by kernel_rfl) (by kernel_rfl) (by kernel_rfl) ?_
              simp only [List.take_succ_cons, List.take_zero, List.drop_succ_cons, List.drop_zero]
              iterate 8 (first | go_big_quiet_step (fail) | quiet_step (fail))
              refine QuietCalls.loadMid rfl 61 _ rfl gr (off + pl.length * 6) rfl y.cs _ (fun v k => rangeAt_below HR.out.2.1 HR.out.1 k) Try.underlying61 rfl infoTh ?_; simp only [Act.put, List.setIfInBounds_toArray, List.set_cons_succ, List.set_cons_zero]
              refine QuietCalls.loadMid rfl 61 _ rfl Bt 0 rfl x.cs _ (fun v k => rangeAt_below HR.out.2.2.2 HR.out.2.2.1 k) Try.underlying61 rfl infoTh ?_; simp only [Act.put, List.setIfInBounds_toArray, List.set_cons_succ, List.set_cons_zero]
              refine QuietCalls.hand rfl (.bool (!eb)) (fun w => neq_thing rfl y x rfl rfl eb HEB.out w) ?_; simp only [Act.put, List.setIfInBounds_toArray, List.set_cons_succ, List.set_cons_zero]
              refine wpQuiet_nil ?_
              intro V2 k2
              have HI2 := hide (HI.out.step k2)
              have HK2 := hide k2
              obtain ⟨⟨⟨_, j4⟩, j5⟩, _⟩ := HI2.out
              have cn := j4.cell
              have fn := j4.frozen
              have hcr : V2.cell? ⟨w.heap.size, 0, none⟩ = some (.bool false) := ((HWC.out.2.kept (grown_of j5) (by simp)).cell)
              have hfr : V2.frozen? ⟨w.heap.size, 0, none⟩ = false := ((HWC.out.2.kept (grown_of j5) (by simp)).frozen)
              clear j4 j5 k2 r1 r4
              cases eb with
              | true =>
                have hx2 := HX2.out
                gi_wp2_with fail
                obtain rfl : y = x := (thEqb_iff _ _).1 HEB.out
                obtain ⟨⟨⟨⟨v', j1, j2, _⟩, j4⟩, j5⟩, j6, j7, j8⟩ := HI2.out
                have e1 : (pre ++ [(⟨y, hx⟩ : Tp (fun _ => True))]).map (·.1) = pl ++ [y] := by rw [List.map_append, ← HPL.out]; rfl
                refine ⟨⟨Nat.le_trans HK2.out.size (by simp), fun q o hq hqo hno => ?_⟩, ⟨Nat.le_trans HK2.out.size (by simp), ?_, ?_⟩, ?_⟩
                · exact (KeepsOthers.setCell V2 _ _).same q o ((HK2.out.block q (Array.getElem?_eq_some_iff.1 hqo).1).trans hqo) hno
                · exact (heap_setCell_other _ _ _ _ (by show bx2 ≠ W.heap.size; omega)).trans (HK2.out.block _ (by have := HI.out.2.2.2; omega))
                · exact (heap_setCell_other _ _ _ _ (by show gB ≠ W.heap.size; omega)).trans (HK2.out.block _ (by have := HI.out.2.2.2; omega))
                · show Gb _ _ _ _ _ _ (List.map (fun x : Tp (fun _ => True) => x.1) (pre ++ [(⟨y, hx⟩ : Tp (fun _ => True))])) _
                  rw [e1]
                  refine ⟨⟨⟨⟨v', j1.other (by have := HX.out; have := HQ.out.2.2.2.2.2; omega) _, own_kept j2 (fun q hq => heap_setCell_other _ _ _ _ (fun e => (j4.not_row (by decide) j2) (by have e' : q = W.heap.size := e; rw [← e']; exact hq.symm))), trivial⟩, ?_⟩, j5.setCell (p := ⟨W.heap.size, 0, none⟩) hx2.2.2.2.2.2.2 _⟩, ?_, ?_, by simpa using j8⟩
                  · have := j4.set (.int .i64 ((pl.length : Int) + 1))
                    rw [List.length_append]
                    simpa using this
                  · have e5 : pl ++ [y] = T.take (pl.length + 1) := by
                      rw [List.take_add_one, HY.out]
                      obtain ⟨r, hr⟩ := j6
                      rw [← hr, List.take_left]
                      rfl
                    rw [e5]
                    exact List.take_prefix _ _
                  · exact (heap_setCell_other _ _ _ _ (by show D ≠ W.heap.size; omega)).trans j7
              | false =>
                gi_wp2_with fail
                refine ⟨⟨Nat.le_trans HK2.out.size (by simp), fun q o hq hqo hno => ?_⟩, rfl, ?_⟩
                · exact (KeepsOthers.setCell V2 _ _).same q o ((HK2.out.block q (Array.getElem?_eq_some_iff.1 hqo).1).trans hqo) hno
                · show ¬ (List.map (fun x : Tp (fun _ => True) => x.1) (pre ++ [(⟨x, hx⟩ : Tp (fun _ => True))])) <+: T
                  intro hpf
                  have e1 : (pre ++ [(⟨x, hx⟩ : Tp (fun _ => True))]).map (·.1) = pl ++ [x] := by rw [List.map_append, ← HPL.out]; rfl
                  rw [e1] at hpf
                  obtain ⟨r, hr⟩ := hpf
                  have h3 := HY.out
                  rw [← hr, List.append_assoc, List.getElem?_append_right (Nat.le_refl _)] at h3
                  simp at h3
                  subst h3
                  have := HEB.out
                  rw [(thEqb_iff _ _).2 rfl] at this
                  cases this
            case done2 =>
              rintro D2 ys V hD2 hys hI hK2
              subst hA
              rw [hys] at hI
              have HI := hide hI
              obtain ⟨⟨⟨⟨v, g1, g2, _⟩, g4⟩, g5⟩, g6, g7, g8⟩ := hI
              obtain ⟨va, vc, rfl⟩ := own_form g2
              have cn := g4.cell
              have cx := g1.cell
              have HL1 := hide (HLa.out V g5)
              have HL2 := hide (HLb.out V g5)
              have hrb := HWC.out.2.kept (grown_of g5) (by simp)
              have hcr := hrb.cell
              have hfr := hrb.frozen
              have HQ2 := hide (And.intro hK2 (And.intro g7 (And.intro hrb g5)))
              clear g1 g2 g4 g5 g6 g7 g8 hrb hys hK2
              dsimp only
              go_wp2_with (first
                | (go_at_call 12; refine HL1.out.mono ?_; rintro r wl ⟨rfl, rfl⟩; clear HL1)
                | (go_at_call 12; refine HL2.out.mono ?_; rintro r wl ⟨rfl, rfl⟩; clear HL2))
              obtain ⟨p1, p2, p3, p4⟩ := HQ2.out
              have hx2 := HX2.out
              have hD1 : w.heap.size < D2 := by omega
              have hD3 : w.heap.size ≠ D := by have := HQ.out.2.2.2.2.1; have := HX.out; omega
              have hDD : D ≠ D2 := by omega
              have e1 : (wl.setCell ⟨w.heap.size, 0, none⟩ (.bool true)).heap[D2]? = some (.deferred (some [])) := (heap_setCell_other _ _ _ _ (by show D2 ≠ w.heap.size; omega)).trans p1
              have e2 : ((wl.setCell ⟨w.heap.size, 0, none⟩ (.bool true)).putObj D2 (.deferred none)).heap[D]? = some (.deferred (some [])) := (putObj_other hDD).trans ((heap_setCell_other _ _ _ _ (by show D ≠ w.heap.size; omega)).trans p2)
              have e3 := ((p3.set (.bool true)).kept (grownBy_putObj' _ D2 (.deferred none)) (by simp; omega)).kept (grownBy_putObj' _ D (.deferred none)) (by simp; omega)
              have e4 := e3.cell
              refine ⟨by simp, .inl ⟨_, _, rfl, run_takeDeferred e1, by simp, .inl ⟨_, _, rfl, run_takeDeferred e2, ?_⟩⟩⟩
              refine ⟨.bool true, by simp [results, Try.f4, go_sem, e4], rfl, ?_⟩
              have b1 : Below w.heap.size w wl := HWC.out.1.trans (p4.mono HWC.out.1.size)
              exact ((b1.setCell (p := ⟨w.heap.size, 0, none⟩) (Nat.le_refl _) _).grown (grownBy_putObj' _ D2 (.deferred none)) (by have := b1.size; simpa using this) (fun j e => by cases e; omega)).grown (grownBy_putObj' _ D (.deferred none)) (by have := b1.size; simpa using this) (fun j e => by cases e; have := HQ.out.2.2.2.2.1; have := HX.out; omega)
            case stop2 =>
              rintro D2 c pre V hD2 hpre ⟨_, hne⟩ hK2
              exact absurd hpre hne
          case stop => exact fun D c pre W hD _ h _ => h.elim
end Go.Proofs.Ytknnamanbeckeaa
