/- Several texts in one: PlanOrdersWalk, NameFrame. -/
import Derived.Test.YtngikahadkoliaaGreatDoorPlanC
import Derived.Test.YtngikahadkoliaaGreatDoorPlanA
import Derived.Lib.MinMax
import Derived.Test.YtngikahadkoliaaGreatDoorRunAO
import Derived.ProofKit
import Derived.LaidMore
import Derived.OpenShut
import Derived.ShutString
import Derived.Lib.LaidTab
import Derived.Stop.LaidErr
/- The walk: the steps come in the order that the document tells. -/
namespace Go.QuietCalls
open Go.RowKit Go.Sort
/-- An operation that yields the same in every world that keeps what lay there. -/
theorem handB {P : Program} {ops : Array Oper} {W : World} {Q : Act → Prop} {rest : List Oper} {o : Oper} {a : Act} (hgd : Region.wanted o (yielded ops a.tmps) = true) (v : Value)
    (ho : ∀ w', Below W.heap.size W w' → (execOp a.eval o).run P w' = .ok (.value v) w')
    (h : wpQuiet P ops (fun w' => ∃ p : Regrown, w' = grow (redrawn W p.d) p.os) Q rest (a.put o.dst v)) : wpQuiet P ops (fun w' => ∃ p : Regrown, w' = grow (redrawn W p.d) p.os) Q (o :: rest) a := by
  refine wpQuiet_step fun K hK => ?_
  rw [if_pos hgd]
  refine ⟨v, fun w hw => ?_, hK _ h⟩
  obtain ⟨p, rfl⟩ := hw
  unfold Oper.quietAt
  rw [ho _ (below_regrown _ _ _)]
  exact ⟨rfl, rfl⟩
end Go.QuietCalls
namespace Go.Proofs.YtngikahadkoliaaGreatDoor
open Go.RowKit Go.Img Go.Pln Go.Shelf Go.Rws Go.MapInt Go.Opn
open Go.Mov hiding fold
attribute [local go_sem] Oper.semAt_some
theorem Tg.below {W v v' : World} {b : Nat} {tv : Value} {l : List En} {u : Int} (h : Tg W b tv l u v) (k : Below v.heap.size v v') : Tg W b tv l u v' := ⟨h.t.below k, h.row.below k, h.nice, h.each, h.few⟩
set_option maxHeartbeats 8000000 in
set_option maxRecDepth 100000 in
theorem planOrders_any (u : Value) (es : List Le) (v : Value) (fs : List Le) (w : World) (hR : RowsAt Le.cs 10 w u es) (hf : ∀ e ∈ es, e.Fits) (_hn : es.length ≤ maxLen) (hR2 : RowsAt Le.cs 10 w v fs) (hf2 : ∀ e ∈ fs, e.Fits) (_hn2 : fs.length ≤ maxLen) (hv : Vt w) :
    Calls Tryz.prog 6 #[u, v] w fun r w' => r = .returned (.bool true) ∧ Below w.heap.size w w' := by
  have HT := hide (tree15_any es u w hR hf)
  have HU := hide (fun w1 (k : Below w.heap.size w w1) => tree15_any fs v w1 (hR2.below k) hf2)
  have HV := hide hv
  clear hR hf hv hR2 hf2
  go_enter Tryz.func6, Tryz.ntmps6
  go_upto_region 2 with (go_at_call 7; refine HT.out.mono ?_; rintro r w1 ⟨b, tv, l, n1, rfl, htg⟩; have I1 := hide htg; have HU2 := hide (HU.out w1 htg.t.k); clear htg HT HU)
  go_upto_region 3 with (go_at_call 7; refine HU2.out.mono ?_; rintro r w2 ⟨b2, tv2, l2, n2, rfl, htg⟩; have I2 := hide htg; clear htg HU2)
  have HW2 := hide (I1.out.t.k.trans (I2.out.t.k.mono I1.out.t.k.size))
  have HO1 := hide ((I1.out.below I2.out.t.k).of (HV.out.below HV.out.size HW2.out))
  have HG1 := hide (And.intro I1.out.gi I1.out.img1)
  have HG2 := hide (And.intro I2.out.gi I2.out.img1)
  have HO2 : Hid (∀ w3, Below w2.heap.size w2 w3 → Calls Tryz.prog 8 #[.pointer (some ⟨b2, 0, none⟩)] w3 fun e w' => ∃ v', e = .returned v' ∧ OwnR Fi.cs 5 51 w3 v' (img (ths [] l2)) w') := fun w3 k => (I2.out.below k).of (HV.out.below HV.out.size (HW2.out.trans (k.mono HW2.out.size)))
  obtain ⟨L1, hL1⟩ : ∃ L, L = img (ths [] l) := ⟨_, rfl⟩
  obtain ⟨L2, hL2⟩ : ∃ L, L = img (ths [] l2) := ⟨_, rfl⟩
  rw [← hL1] at HO1 HG1
  rw [← hL2] at HO2 HG2
  clear hL1 hL2 I1 I2
  go_upto_region 4 with (first
    | (go_at_call 8; refine HO1.out.mono ?_; rintro r w3 ⟨v1, rfl, ho⟩; have J1 := hide ho; have HO3 := hide (HO2.out w3 ho.below); clear ho HO1 HO2)
    | (go_at_call 8; refine HO3.out.mono ?_; rintro r w4 ⟨v2, rfl, ho⟩; have J2 := hide ho; clear ho HO3))
  have HW4 := hide (HW2.out.trans ((J1.out.below.trans (J2.out.below.mono J1.out.below.size)).mono HW2.out.size))
  have HR1 := hide ((J1.out.rows Fi.cs_length).below J2.out.below)
  have HR2 := hide (J2.out.rows Fi.cs_length)
  have HB := hide (between_any L1 L2 v1 v2 w4 HR1.out J1.out.nice HG1.out.1.srt (fun f hf => by have := HG1.out.1.short f hf; omega) (by have := HG1.out.1.len; omega) HR2.out J2.out.nice HG2.out.1.srt (fun f hf => by have := HG2.out.1.short f hf; omega) (by have := HG2.out.1.len; omega))
  go_upto_region 5 with (go_at_call 9; refine HB.out.mono ?_; rintro r w5 ⟨o, rfl, ho⟩; obtain ⟨oa, oc, rfl⟩ := ho.form; have I5 := hide ho; clear ho HB)
  have HW5 := hide (HW4.out.trans (I5.out.below.mono HW4.out.size))
  have HFo := hide (betw_foll (now := L1) (want := L2) HG1.out.2.strict HG2.out.2.strict)
  have HKd := hide (fun s (h : s ∈ betw L1 L2) => betw_kind h)
  have HPa : Hid (∀ s ∈ betw L1 L2, s.path.length ≤ 1000) := fun s hs => by
    unfold betw betA betB betC at hs
    rcases List.mem_append.1 hs with hs | hs
    · rcases List.mem_append.1 hs with hs | hs
      · obtain ⟨f, hf, rfl⟩ := List.mem_map.1 hs
        have := HG1.out.1.short f (List.mem_reverse.1 (List.mem_filter.1 hf).1)
        show f.path.length ≤ 1000
        omega
      · obtain ⟨f, hf, rfl⟩ := List.mem_map.1 hs
        have := HG2.out.1.short f (List.mem_filter.1 hf).1
        show f.path.length ≤ 1000
        omega
    · obtain ⟨f, hf, rfl⟩ := List.mem_map.1 hs
      have := HG2.out.1.short f (List.mem_filter.1 hf).1
      show f.path.length ≤ 1000
      omega
  have HLn : Hid ((betw L1 L2).length ≤ 1000) := by
    have h1 := betB_len L1 L2
    have h2 := betC_len L1 L2
    have h3 : (betA L1 L2).length ≤ L1.length := by
      unfold betA
      rw [List.length_map]
      exact Nat.le_trans (List.length_filter_le _ _) (Nat.le_of_eq List.length_reverse)
    have := HG1.out.1.len
    have := HG2.out.1.len
    show _ ≤ _
    unfold betw
    rw [List.length_append, List.length_append]
    omega
  have HSm := hide (nil_same HG1.out.2 HG2.out.2)
  obtain ⟨M, hM⟩ : ∃ M, M = betw L1 L2 := ⟨_, rfl⟩
  rw [← hM] at I5 HFo HKd HPa HLn HSm ⊢
  obtain ⟨N, hN⟩ : ∃ N, N = M.length := ⟨_, rfl⟩
  rw [← hN] at I5 HLn HSm ⊢
  have HN := hide hN
  have HRo := hide (I5.out.rows Pt.cs_length)
  have HSa := hide (fun v (k : Below w5.heap.size w5 v) => same15_any L1 L2 v1 v2 v ((HR1.out.below I5.out.below).below k) ((HR2.out.below I5.out.below).below k) (by have := HG1.out.1.len; omega))
  clear hM hN I5 J1 J2 HR1 HR2 HW4 HW2
  go_wp2_with fail
  go_loopw [12, 13] (fun v12 v13 wx => ∃ (i : Nat) (R : Int), v12 = .int .i64 R ∧ v13 = .int .i64 i ∧ i ≤ N ∧ Hid (Below w5.heap.size w5 wx ∧ (i = 0 → R = 0) ∧ (∀ s, 0 < i → M[i - 1]? = some s → R = max s.kind 2))) (fun _ v13 _ => N - (intOf v13).toNat)
  case atStart => exact ⟨0, 0, rfl, rfl, Nat.zero_le _, Below.refl _ _, fun _ => rfl, fun s h => absurd h (by omega)⟩
  case round =>
    obtain ⟨i, R, rfl, rfl, hi, HI⟩ := hrel
    have h0 : (0 : Int) ≤ i := by omega
    have hN1 : N ≤ 1000 := HLn.out
    by_cases hil : i < N
    · obtain ⟨s, hs⟩ : ∃ s, M[i]? = some s := ⟨_, List.getElem?_eq_getElem (by rw [← HN.out]; exact hil)⟩
      obtain ⟨g, off, hga, hq, hcap, hgl, hrg⟩ := (HRo.out.below HI.out.1).at (fun e => by rw [e] at hs; cases hs)
      subst hga
      have hiI : (i : Int) < N := by omega
      have hcI : (N : Int) ≤ oc := by omega
      obtain ⟨hk1, hk4⟩ := HKd.out s (List.mem_of_getElem? hs)
      have c0 : wr.cell? ⟨g, off + i * 3, none⟩ = some (.int .i64 s.kind) := hrg i s hs 0 _ rfl
      obtain ⟨r, hr⟩ : ∃ r, r = max s.kind 2 := ⟨_, rfl⟩
      have hmax : ∀ w, (Builtin.max_ #[3, 3] 3 #[.int .i64 s.kind, .int .i64 2]).run Tryz.prog w = .ok (.int .i64 r) w := fun w => by
        rw [Lib.run_max_ints, hr]
      have hr2 : 2 ≤ r := by omega
      have hr4 : r ≤ 4 := by omega
      have HX1 : Hid (∀ t, 0 < i + 1 → M[i + 1 - 1]? = some t → r = max t.kind 2) := fun t _ ht => by
        rw [Nat.add_sub_cancel, hs] at ht
        cases ht
        exact hr
      have hkk1 : ¬ s.kind < 1 := by omega
      have hkk4 : ¬ 4 < s.kind := by omega
      by_cases hi0 : i = 0
      · have hR0 := HI.out.2.1 hi0
        subst hR0
        subst hi0
        have c0' : wr.cell? ⟨g, off, none⟩ = some (.int .i64 s.kind) := by simpa using c0
        have hrr : ¬ r < 0 := by omega
        clear hr hs hq hcap hgl hrg
        go_wp2_with fail
        go_roundw
        case rel => exact ⟨1, r, rfl, by simp, by omega, HI.out.1, fun e => absurd e (by omega), HX1.out⟩
        case measure => simp [intOf]; omega
      · obtain ⟨t, ht⟩ : ∃ t, M[i - 1]? = some t := ⟨_, List.getElem?_eq_getElem (by rw [← HN.out]; omega)⟩
        have hRt := HI.out.2.2 t (by omega) ht
        have hfo : Foll t s := by
          obtain ⟨q1, e1⟩ := List.getElem?_eq_some_iff.1 ht
          obtain ⟨q2, e2⟩ := List.getElem?_eq_some_iff.1 hs
          have := List.pairwise_iff_getElem.1 HFo.out (i - 1) i q1 q2 (by omega)
          rw [e1, e2] at this
          exact this
        unfold Foll at hfo
        rw [← hRt, ← hr] at hfo
        have hi1 : (0 : Int) < i := by omega
        rcases hfo with hlt | ⟨heq, hf2, hf3⟩
        · have hrr : ¬ r < R := by omega
          have hre : ¬ r = R := by omega
          clear hr hs hq hcap hgl hrg hRt ht
          go_wp2_with fail
          go_roundw
          case rel => exact ⟨i + 1, r, rfl, by simp, by omega, HI.out.1, fun e => absurd e (by omega), HX1.out⟩
          case measure => simp [intOf]; omega
        · subst heq
          have hrr : ¬ R < R := by omega
          obtain ⟨c, hc⟩ : ∃ c, c = cmpP t.path s.path := ⟨_, rfl⟩
          rw [← hc] at hf2 hf3
          have HCm : Hid (∀ v, Calls Tryz.prog 17 #[.agg #[.string ⟨t.path.toArray⟩, .bool false, .int .u64 0, .string ⟨#[]⟩, .int .i64 0], .agg #[.string ⟨s.path.toArray⟩, .bool false, .int .u64 0, .string ⟨#[]⟩, .int .i64 0]] v fun e w' => e = .returned (.int .i64 c) ∧ Below v.heap.size v w') := fun v => by
            have := fcmp_below ⟨t.path, false, 0, ⟨#[]⟩, 0⟩ ⟨s.path, false, 0, ⟨#[]⟩, 0⟩ (HPa.out t (List.mem_of_getElem? ht)) (HPa.out s (List.mem_of_getElem? hs)) v
            rw [hc]
            exact this
          have hp0 : wr.cell? ⟨g, off + (i - 1) * 3 + 1, none⟩ = some (.string ⟨t.path.toArray⟩) := hrg (i - 1) t ht 1 _ rfl
          have hp1 : wr.cell? ⟨g, off + i * 3 + 1, none⟩ = some (.string ⟨s.path.toArray⟩) := hrg i s hs 1 _ rfl
          have HGL := hide hgl
          have hq0 : (0 : Int) ≤ (i : Int) - 1 := by omega
          have hqN : (i : Int) - 1 < N := by omega
          have hqt : ((i : Int) - 1).toNat = i - 1 := by omega
          clear hr hs hq hcap hgl hrg hRt ht hc
          go_upto_region 14 with fail
          refine QuietCalls.region (by kernel_rfl) (by kernel_rfl) ?_
          iterate 5 (first | go_big_quiet_step (fail) | quiet_step (fail))
          refine QuietCalls.handB rfl (.string ⟨t.path.toArray⟩) (fun v k => by have hc := (k.cell (p := ⟨g, off + (i - 1) * 3 + 1, none⟩) HGL.out).trans hp0; go_simp) ?_; simp only [Act.put, List.setIfInBounds_toArray, List.set_cons_succ, List.set_cons_zero]
          iterate 5 (first | go_big_quiet_step (fail) | quiet_step (fail))
          refine QuietCalls.handB rfl (.string ⟨s.path.toArray⟩) (fun v k => by have hc := (k.cell (p := ⟨g, off + i * 3 + 1, none⟩) HGL.out).trans hp1; go_simp) ?_; simp only [Act.put, List.setIfInBounds_toArray, List.set_cons_succ, List.set_cons_zero]
          iterate 1 (first | go_big_quiet_step (fail) | quiet_step (fail))
          refine QuietCalls.call rfl 17 #[.agg #[.string ⟨t.path.toArray⟩, .bool false, .int .u64 0, .string ⟨#[]⟩, .int .i64 0], .agg #[.string ⟨s.path.toArray⟩, .bool false, .int .u64 0, .string ⟨#[]⟩, .int .i64 0]] (.int .i64 c) (fun v _ => HCm.out v) (fun v => by go_simp) ?_; simp only [Act.put, List.setIfInBounds_toArray, List.set_cons_succ, List.set_cons_zero]
          iterate 1 (first | go_big_quiet_step (fail) | quiet_step (fail))
          refine wpQuiet_nil ?_
          intro w9 k9
          have HI2 := hide (HI.out.1.trans (k9.mono HI.out.1.size))
          clear k9 HCm
          by_cases hR2 : R = 2
          · have hc0 : ¬ c ≤ 0 := by have := hf2 hR2; omega
            have hR3 : ¬ 2 < R := by omega
            clear hf2 hf3
            subst hR2
            go_wp2_with fail
            go_roundw
            case rel => exact ⟨i + 1, _, rfl, by simp, by omega, HI2.out, fun e => absurd e (by omega), HX1.out⟩
            case measure => simp [intOf]; omega
          · have hR3 : 2 < R := by omega
            have hc0 : ¬ 0 ≤ c := by have := hf3 hR3; omega
            clear hf2 hf3
            go_wp2_with fail
            go_roundw
            case rel => exact ⟨i + 1, _, rfl, by simp, by omega, HI2.out, fun e => absurd e (by omega), HX1.out⟩
            case measure => simp [intOf]; omega
    · obtain rfl : i = N := by omega
      have hiI : ¬ (i : Int) < i := by omega
      clear HKd HPa HFo
      have HAw := hide (awake16_any wr)
      go_wp2_with (first
        | (go_at_call 12; refine HAw.out.mono ?_; rintro e w8 ⟨rfl, k8⟩; have HI8 := hide (HI.out.1.trans (k8.mono HI.out.1.size)); clear k8 HAw; have HSb := hide (HSa.out w8 HI8.out))
        | (go_at_call 16; refine HSb.out.mono ?_; rintro e w9 ⟨rfl, k9⟩; have HI9 := hide (HI8.out.trans (k9.mono HI8.out.size)); clear k9 HSb))
      have e : (((i : Int) == 0) == sameB L1 L2) = true := by
        rw [← HSm.out]
        by_cases h : i = 0 <;> simp [h]
      rw [e]
      go_ret
      exact ⟨rfl, HW5.out.trans (HI9.out.mono HW5.out.size)⟩
end Go.Proofs.YtngikahadkoliaaGreatDoor
/- What the listed tables give the walks of name, and the start that fits. -/
namespace Go.Proofs.YtngikahadkoliaaGreatDoor
open Go.ChangeShapes Go.WideShapes Go.ChangeAt Go.RowKit
theorem own : ownKnob Tryz.prog.godebug = none := by kernel_rfl
theorem laidOut : laidOutB Tryz.prog = true := by kernel_rfl
theorem tPow : (Tryz.prog.globals[3]?).map (·.type) = some 230 := by kernel_rfl
theorem uPow : Tryz.prog.underlying 230 = some (.array 20 49) := by kernel_rfl
theorem cPow : Tryz.prog.cellsOf 230 = 20 := by kernel_rfl
theorem cU64 : Tryz.prog.cellsOf 49 = 1 := by kernel_rfl
def laidName : List (String × DataW Unit) := [("math/bits.deBruijn32tab", Rows.laid_math_bits_deBruijn32tab), ("math/bits.deBruijn64tab", Rows.laid_math_bits_deBruijn64tab), ("internal/strconv.uint64pow10", Rows.laid_internal_strconv_uint64pow10)]
theorem pow_tab : (Rows.laid_internal_strconv_uint64pow10 : DataW Unit) = Lib.tabData .u64 Lib.pow10Tab := by rfl
theorem laid_lt {P : Program} {W : World} {name : String} {d : DataW Unit} {rest : List (String × DataW Unit)} {g : Nat} (hg : P.globalNamed name = some g) (h : laidMet P ((name, d) :: rest) W) : g < W.heap.size := by
  obtain ⟨ps, ⟨g', t', cs, fuel, p, q, hg', ht', hvar, hd, _, _⟩, _⟩ := h
  simp only [World.var?, hg, Option.bind_some] at hvar
  split at hvar
  · rename_i hh
    exact (Array.getElem?_eq_some_iff.1 hh).1
  · cases hvar
theorem gTab : Tryz.prog.globalNamed "math/bits.deBruijn64tab" = some 5 := by kernel_rfl
theorem of_laid {W : World} (h : laidMetH Tryz.prog laidName W) : Vt W := by
  rw [MakeChecks.laidMetH_plain _ _ _ (by kernel_rfl)] at h
  have hs : 6 ≤ W.heap.size := laid_lt gTab h.tail
  have h2 : laidMet Tryz.prog [("internal/strconv.uint64pow10", Lib.tabData .u64 Lib.pow10Tab)] W := by
    rw [← pow_tab]
    exact h.tail.tail
  exact ⟨Lib.tabIs_of_head gPow tPow uPow Tryz.underlying49 cU64 cPow h2, hs⟩
set_option maxRecDepth 100000 in
/-- The door's own heap meets the condition. -/
theorem door_met (os : Os) (args : Array Value) : laidMetH Tryz.prog laidName ((World.doorLaid Tryz.prog 34 os).forCall (fun _ _ => 0) ⟨#[], args, []⟩).memory :=
  laidMetH_of_parts3 (fuel := 8) (laidMet_of_run' 8 (by kernel_rfl) (by kernel_rfl)) (by kernel_rfl) (by kernel_rfl)
end Go.Proofs.YtngikahadkoliaaGreatDoor
