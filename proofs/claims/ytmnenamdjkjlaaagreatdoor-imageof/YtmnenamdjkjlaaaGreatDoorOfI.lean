/- Several texts in one: ImageOfWalk, NameFrame. -/
import Derived.Test.YtmnenamdjkjlaaaGreatDoorOfG
import Derived.Test.YtmnenamdjkjlaaaGreatDoorOfH
import Derived.Test.YtmnenamdjkjlaaaGreatDoorOfB
import Derived.Test.YtmnenamdjkjlaaaGreatDoorOfA
import Derived.Test.YtmnenamdjkjlaaaGreatDoorRunAM
import Derived.Test.YtmnenamdjkjlaaaGreatDoorRunAO
import Derived.ProofKit
import Derived.LaidMore
import Derived.OpenShut
import Derived.ShutString
import Derived.Lib.LaidTab
import Derived.Stop.LaidErr
/- The walk: the image of any operations is the document's. -/
namespace Go.Img
theorem path_ok {f : Fi} (h : okPath f.path = true) : Go.Names.pathB (bsOf f).data.toList = true := by
  have e : (bsOf f).data.toList = f.path := by unfold bsOf; simp
  rw [e]
  unfold okPath at h
  unfold Go.Names.pathB
  rw [← pts_parts]
  exact h
end Go.Img
namespace Go.Proofs.YtmnenamdjkjlaaaGreatDoor
open Go.RowKit Go.Img Go.Shelf Go.Rws Go.MapInt Go.Opn
open Go.Mov hiding fold
attribute [local go_sem] Oper.semAt_some
theorem Gi.unlike {L : List Fi} (h : Gi L) {i k : Nat} {x y : Fi} (hx : L[i]? = some x) (hy : L[k]? = some y) (hk : k < i) : Names.fold (bsOf y).data.toList ≠ Names.fold (bsOf x).data.toList := by
  have e : ∀ f : Fi, (bsOf f).data.toList = f.path := fun f => by unfold bsOf; simp
  rw [e, e]
  intro he
  have hxy := h.once y (List.mem_of_getElem? hy) x (List.mem_of_getElem? hx) he
  subst hxy
  have := (List.getElem?_inj (List.getElem?_eq_some_iff.1 hy).1 h.nodup).1 (hy.trans hx.symm)
  omega
set_option maxHeartbeats 8000000 in
set_option maxRecDepth 100000 in
theorem imageOf_any (v : Value) (es : List Le) (w : World) (hR : RowsAt Le.cs 10 w v es) (hf : ∀ e ∈ es, e.Fits) (_hn : es.length ≤ maxLen) (hv : Vt w) :
    Calls Tryz.prog 3 #[v] w fun r w' => r = .returned (.bool true) ∧ Below w.heap.size w w' := by
  have HT := hide (tree15_any es v w hR hf)
  have HV := hide hv
  have HAW := hide (fun v (h : Vt v) => awake15_any v h)
  clear hR hf hv
  go_enter Tryz.func3, Tryz.ntmps3
  go_upto_region 2 with (go_at_call 6; refine HT.out.mono ?_; rintro r w1 ⟨b, tv, l, u, rfl, htg⟩; have I1 := hide htg; clear htg HT)
  have HO := hide (I1.out.of (HV.out.below HV.out.size I1.out.t.k))
  have HG := hide I1.out.gi
  have HW1 := hide I1.out.t.k
  have HRf : Hid (∀ v', Below w1.heap.size w1 v' → Calls Tryz.prog 8 #[tv, .int .u64 0, .string ⟨#[]⟩] v' fun r w' => ∃ o, r = .returned o ∧ Rf v' o (img (ths [] l)) w') := fun v' k => by
    obtain ⟨h1, h2, h3, h4⟩ := I1.out.fine
    exact rof15_any (ths [] l) (by omega) h4 240 0 [] tv v' (by simp) (by simp) (I1.out.row.below k) (by show (img (ths [] l)).length ≤ _; have := HG.out.len; omega)
  obtain ⟨L, hL⟩ : ∃ L, L = img (ths [] l) := ⟨_, rfl⟩
  rw [← hL] at HO HG HRf
  clear hL I1
  go_upto_region 3 with (first
    | (go_at_call 7; refine HO.out.mono ?_; rintro r w2 ⟨gv, rfl, ho⟩; obtain ⟨ga, gc, rfl⟩ := ho.form; have I2 := hide ho; have HR2 := hide (HRf.out w2 ho.below); clear ho HO HRf)
    | (go_at_call 8; refine HR2.out.mono ?_; rintro r w3 ⟨ov, rfl, hr⟩; obtain ⟨oa, oc, rfl⟩ := hr.row.form; have I3 := hide hr; clear hr HR2))
  have HW3 := hide (HW1.out.trans ((I2.out.below.trans (I3.out.k.mono I2.out.below.size)).mono HW1.out.size))
  have HRg := hide ((I2.out.rows Fi.cs_length).below I3.out.k)
  have HRo := hide I3.out.row
  obtain ⟨N, hN⟩ : ∃ N, N = L.length := ⟨_, rfl⟩
  have HN := hide hN
  have hN60 : N ≤ 60 := by rw [hN]; exact HG.out.len
  rw [← hN] at HRg HRo
  try simp only [← hN]
  clear hN I2 I3 HW1
  have HAq := hide (HAW.out w3 (HV.out.below HV.out.size HW3.out))
  go_upto_region 5 with (go_at_call 9; refine HAq.out.mono ?_; rintro r w4 ⟨rfl, k4⟩; have K4 := hide k4; clear k4 HAq HAW)
  go_wp2_with fail
  go_loopw [7] (fun v7 wx => ∃ i : Nat, v7 = .int .i64 i ∧ i ≤ N ∧ Hid (Below w3.heap.size w3 wx)) (fun v7 _ => N - (intOf v7).toNat)
  case atStart => exact ⟨0, rfl, Nat.zero_le _, K4.out⟩
  case round =>
    obtain ⟨i, rfl, hi, HI⟩ := hrel
    clear K4
    have h0 : (0 : Int) ≤ i := by omega
    by_cases hil : i < N
    · obtain ⟨f, hf⟩ : ∃ f, L[i]? = some f := ⟨_, List.getElem?_eq_getElem (by rw [← HN.out]; exact hil)⟩
      obtain ⟨g, off, hga, hq, hcap, hgl, hrg⟩ := (HRg.out.below HI.out).at (fun e => by rw [e] at hf; cases hf)
      subst hga
      obtain ⟨g2, off2, hoa, hq2, hcap2, hgl2, hrg2⟩ := (HRo.out.below HI.out).at (fun e => by rw [e] at hf; cases hf)
      subst hoa
      have hiI : (i : Int) < N := by omega
      have hcI : (N : Int) ≤ gc := by omega
      have hcI2 : (N : Int) ≤ oc := by omega
      have HGG := hide (And.intro (And.intro (hrg i f hf) hgl) (And.intro (hrg2 i f hf) hgl2))
      have hsz : (bsOf f).size ≤ 500 := by rw [bsOf_size]; exact Nat.le_trans (HG.out.short f (List.mem_of_getElem? hf)) (by decide)
      have hpa := fun v => rpath_any (bsOf f) v hsz
      rw [path_ok (HG.out.path f (List.mem_of_getElem? hf))] at hpa
      have HPa := hide hpa
      have HRe := hide (fun v => ref15_any f v)
      have HFo := hide (fun v => rfold_any (bsOf f) v (by omega))
      have HF := hide hf
      have HU := hide (fun (k : Nat) (y : Fi) (hy : L[k]? = some y) (hk : k < i) => HG.out.unlike hf hy hk)
      have c1 : wr.cell? ⟨g, off + i * 5, none⟩ = some (.string (bsOf f)) := (cells5f (hrg i f hf)).1
      have r1 := cell_regrown c1
      clear hpa hsz hf hrg hrg2 hq hq2 hcap hcap2 hgl hgl2 c1
      obtain ⟨X, hX⟩ : ∃ X, X = bsOf f := ⟨_, rfl⟩
      rw [← hX] at HPa HFo HU r1
      have HX : Hid (bsOf f = X) := hX.symm
      clear hX
      go_upto_region 8 with fail
      refine QuietCalls.region (by kernel_rfl) (by kernel_rfl) ?_
      iterate 3 (first | go_big_quiet_step (fail) | quiet_step (fail))
      refine QuietCalls.loadMid rfl 36 _ rfl g (off + i * 5) rfl f.cs _ (fun v k => rangeAt_below HGG.out.1.1 HGG.out.1.2 k) Tryz.underlying36 rfl infoFi5 ?_; simp only [Act.put, List.setIfInBounds_toArray, List.set_cons_succ, List.set_cons_zero]
      refine QuietCalls.call rfl 10 #[.agg f.cs.toArray] (.agg f.cs.toArray) (fun v _ => HRe.out v) (fun v => by go_simp) ?_; simp only [Act.put, List.setIfInBounds_toArray, List.set_cons_succ, List.set_cons_zero]
      iterate 3 (first | go_big_quiet_step (fail) | quiet_step (fail))
      refine QuietCalls.loadMid rfl 34 _ rfl g2 (off2 + i * 5) rfl f.cs _ (fun v k => rangeAt_below HGG.out.2.1 HGG.out.2.2 k) Tryz.underlying34 rfl infoRF ?_; simp only [Act.put, List.setIfInBounds_toArray, List.set_cons_succ, List.set_cons_zero]
      refine QuietCalls.hand rfl (.bool (!true)) (fun w => neq_rfi rfl f rfl rfl w) ?_; simp only [Act.put, List.setIfInBounds_toArray, List.set_cons_succ, List.set_cons_zero]
      iterate 6 (first | go_big_quiet_step (fail) | quiet_step (fail))
      refine QuietCalls.call rfl 11 #[.string X] (.bool true) (fun v _ => HPa.out v) (fun v => by go_simp) ?_; simp only [Act.put, List.setIfInBounds_toArray, List.set_cons_succ, List.set_cons_zero]
      iterate 2 (first | go_big_quiet_step (fail) | quiet_step (fail))
      refine wpQuiet_nil ?_
      intro w5 k5
      have K5 := hide (HI.out.trans (k5.mono HI.out.size))
      clear k5 r1 HPa HRe HGG HI
      go_wp2_with fail
      go_loopw [8] (fun v8 wx => ∃ k : Nat, v8 = .int .i64 k ∧ k ≤ i ∧ Hid (Below w3.heap.size w3 wx)) (fun v8 _ => i - (intOf v8).toNat)
      case atStart => exact ⟨0, rfl, Nat.zero_le _, K5.out⟩
      case round =>
        obtain ⟨k, rfl, hk, HJ⟩ := hrel
        clear K5
        have hk0 : (0 : Int) ≤ k := by omega
        by_cases hki : k < i
        · obtain ⟨y, hy⟩ : ∃ y, L[k]? = some y := ⟨_, List.getElem?_eq_getElem (by rw [← HN.out]; omega)⟩
          obtain ⟨g', off', hga, hq, hcap, hgl, hrg⟩ := (HRg.out.below HJ.out).at (fun e => by rw [e] at hy; cases hy)
          simp only [Option.some.injEq, Addr.mk.injEq, and_true] at hga
          obtain ⟨rfl, rfl⟩ := hga
          have hkI : (k : Int) < i := by omega
          have hkN : (k : Int) < N := by omega
          have c2 : wr.cell? ⟨g, off + i * 5, none⟩ = some (.string X) := (cells5f (hrg i f HF.out)).1.trans (congrArg (fun z => some (Value.string z)) HX.out)
          have c1 : wr.cell? ⟨g, off + k * 5, none⟩ = some (.string (bsOf y)) := (cells5f (hrg k y hy)).1
          have HFy := hide (fun v => rfold_any (bsOf y) v (by rw [bsOf_size]; exact Nat.le_trans (HG.out.short y (List.mem_of_getElem? hy)) (by decide)))
          have hne := HU.out k y hy hki
          have r1 := cell_regrown c1
          have r2 := cell_regrown c2
          generalize bsOf y = Y at *
          obtain ⟨A, hA⟩ : ∃ A : ByteArray, A = ⟨(Names.fold Y.data.toList).toArray⟩ := ⟨_, rfl⟩
          obtain ⟨B, hB⟩ : ∃ B : ByteArray, B = ⟨(Names.fold X.data.toList).toArray⟩ := ⟨_, rfl⟩
          have hAB : (A.toList == B.toList) = false := by
            rw [beq_eq_false_iff_ne, hA, hB, ByteArray.toList_eq, ByteArray.toList_eq]
            simpa using hne
          have HFx : Hid (∀ v, Calls Tryz.prog 12 #[.string X] v fun e w' => e = .returned (.string B) ∧ Below v.heap.size v w') := by rw [hB]; exact HFo.out
          rw [← hA] at HFy
          clear hA hB hne hy hq hcap hgl hrg c1 c2
          go_upto_region 13 with fail
          refine QuietCalls.region (by kernel_rfl) (by kernel_rfl) ?_
          iterate 5 (first | go_big_quiet_step (fail) | quiet_step (fail))
          refine QuietCalls.call rfl 12 #[.string Y] (.string A) (fun v _ => HFy.out v) (fun v => by go_simp) ?_; simp only [Act.put, List.setIfInBounds_toArray, List.set_cons_succ, List.set_cons_zero]
          iterate 5 (first | go_big_quiet_step (fail) | quiet_step (fail))
          refine QuietCalls.call rfl 12 #[.string X] (.string B) (fun v _ => HFx.out v) (fun v => by go_simp) ?_; simp only [Act.put, List.setIfInBounds_toArray, List.set_cons_succ, List.set_cons_zero]
          iterate 1 (first | go_big_quiet_step (fail) | quiet_step (fail))
          refine wpQuiet_nil ?_
          intro w6 k6
          have K6 := hide (HJ.out.trans (k6.mono HJ.out.size))
          clear k6 r1 r2 HFx HFy HJ
          go_wp2_with fail
          go_roundw
          case rel => exact ⟨k + 1, by simp, by omega, K6.out⟩
          case measure => simp [intOf]; omega
        · obtain rfl : k = i := by omega
          have hkI : ¬ (k : Int) < k := by omega
          go_wp2_with fail
          go_roundw
          case rel => exact ⟨k + 1, by simp, by omega, HJ.out⟩
          case measure => simp [intOf]; omega
    · obtain rfl : i = N := by omega
      have hiI : ¬ (i : Int) < i := by omega
      have HK := hide (HW3.out.trans (HI.out.mono HW3.out.size))
      go_wp2_with fail
      go_ret
      exact ⟨rfl, HK.out⟩
end Go.Proofs.YtmnenamdjkjlaaaGreatDoor
/- What the listed tables give the walks of name, and the start that fits. -/
namespace Go.Proofs.YtmnenamdjkjlaaaGreatDoor
open Go.ChangeShapes Go.WideShapes Go.ChangeAt Go.RowKit
theorem own : ownKnob Tryz.prog.godebug = none := by kernel_rfl
theorem laidOut : laidOutB Tryz.prog = true := by kernel_rfl
theorem tPow : (Tryz.prog.globals[1]?).map (·.type) = some 204 := by kernel_rfl
theorem uPow : Tryz.prog.underlying 204 = some (.array 20 31) := by kernel_rfl
theorem cPow : Tryz.prog.cellsOf 204 = 20 := by kernel_rfl
theorem cU64 : Tryz.prog.cellsOf 31 = 1 := by kernel_rfl
def laidName : List (String × DataW Unit) := [("math/bits.deBruijn32tab", Rows.laid_math_bits_deBruijn32tab), ("math/bits.deBruijn64tab", Rows.laid_math_bits_deBruijn64tab), ("internal/strconv.uint64pow10", Rows.laid_internal_strconv_uint64pow10)]
theorem pow_tab : (Rows.laid_internal_strconv_uint64pow10 : DataW Unit) = Lib.tabData .u64 Lib.pow10Tab := by rfl
theorem laid_lt {P : Program} {W : World} {name : String} {d : DataW Unit} {rest : List (String × DataW Unit)} {g : Nat} (hg : P.globalNamed name = some g) (h : laidMet P ((name, d) :: rest) W) : g < W.heap.size := by
  obtain ⟨ps, ⟨g', t', cs, fuel, p, q, hg', ht', hvar, hd, _, _⟩, _⟩ := h
  simp only [World.var?, hg, Option.bind_some] at hvar
  split at hvar
  · rename_i hh
    exact (Array.getElem?_eq_some_iff.1 hh).1
  · cases hvar
theorem gTab : Tryz.prog.globalNamed "math/bits.deBruijn64tab" = some 3 := by kernel_rfl
theorem of_laid {W : World} (h : laidMetH Tryz.prog laidName W) : Vt W := by
  rw [MakeChecks.laidMetH_plain _ _ _ (by kernel_rfl)] at h
  have hs : 4 ≤ W.heap.size := laid_lt gTab h.tail
  have h2 : laidMet Tryz.prog [("internal/strconv.uint64pow10", Lib.tabData .u64 Lib.pow10Tab)] W := by
    rw [← pow_tab]
    exact h.tail.tail
  exact ⟨Lib.tabIs_of_head gPow tPow uPow Tryz.underlying31 cU64 cPow h2, hs⟩
set_option maxRecDepth 100000 in
/-- The door's own heap meets the condition. -/
theorem door_met (os : Os) (args : Array Value) : laidMetH Tryz.prog laidName ((World.doorLaid Tryz.prog 24 os).forCall (fun _ _ => 0) ⟨#[], args, []⟩).memory :=
  laidMetH_of_parts3 (fuel := 8) (laidMet_of_run' 8 (by kernel_rfl) (by kernel_rfl)) (by kernel_rfl) (by kernel_rfl)
end Go.Proofs.YtmnenamdjkjlaaaGreatDoor
