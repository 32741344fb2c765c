/- Several texts in one: StabIns, StabSym, StabAll. -/
import Derived.Test.YtngikahadkoliaaGreatDoorOfB
import Derived.Test.YtngikahadkoliaaGreatDoorRunAK
import Derived.Test.YtngikahadkoliaaGreatDoorRunAI
import Derived.Test.YtngikahadkoliaaGreatDoorQuietAll
/- Contracts: slices.SortStableFunc of files that stand in order already: nothing turns. Laid by tools/mkstab.py. -/
namespace Go.Img
theorem srt_at {l : List Fi} (h : Srt l) {i j : Nat} {x y : Fi} (hx : l[i]? = some x) (hy : l[j]? = some y) (hij : i ≤ j) : ¬ cmpF y x < 0 := by
  rcases Nat.lt_or_ge i j with h1 | h1
  · obtain ⟨h2, e2⟩ := List.getElem?_eq_some_iff.1 hx
    obtain ⟨h3, e3⟩ := List.getElem?_eq_some_iff.1 hy
    have h4 := List.pairwise_iff_getElem.1 h i j h2 h3 h1
    rw [e2, e3] at h4
    unfold ltF at h4
    simpa using h4
  · obtain rfl : i = j := by omega
    rw [hx] at hy
    cases hy
    unfold cmpF
    rw [cmpP_self]
    decide
end Go.Img
namespace Go.Proofs.YtngikahadkoliaaGreatDoor
open Go.RowKit Go.Img Go.Shelf Go.Rws
attribute [local go_sem] Oper.semAt_some
theorem fcmp_below (x y : Fi) (hx : x.path.length ≤ 1000) (hy : y.path.length ≤ 1000) (v : World) : Calls Tryz.prog 17 #[.agg x.cs.toArray, .agg y.cs.toArray] v fun e w' => e = .returned (.int .i64 (cmpF x y)) ∧ Below v.heap.size v w' := by
  refine (fcompare_any x y v hx hy).mono ?_
  rintro e w' ⟨he, n, hw⟩
  refine ⟨he, ?_⟩
  rw [hw]
  exact (((Below.refl _ v).alloc (Nat.le_refl _) _).alloc (by simp) _).trans ⟨rfl, rfl, rfl, Nat.le_refl _, fun _ _ => rfl⟩
set_option maxHeartbeats 4000000 in
set_option maxRecDepth 100000 in
theorem ins_same (l : List Fi) (u : Value) (a b : Nat) (w : World) (hl : RowsAt Fi.cs 5 w u l) (hs : Srt l) (hp : ∀ f ∈ l, f.path.length ≤ 1000) (hn : l.length ≤ 100000) (ha : a ≤ l.length) (hb : b ≤ l.length) :
    Calls Tryz.prog 89 #[u, .int .i64 a, .int .i64 b, .func (.func 17) #[] #[]] w fun e w' => e = .returned (.tuple #[]) ∧ Below w.heap.size w w' := by
  obtain ⟨la, lc, rfl⟩ := hl.form
  obtain ⟨N, hN⟩ : ∃ N, N = l.length := ⟨_, rfl⟩
  have HS := hide hs
  have HP := hide hp
  have HC := hide (fun (x : Fi) (hx : x.path.length ≤ 1000) (y : Fi) (hy : y.path.length ≤ 1000) (v : World) => fcmp_below x y hx hy v)
  rw [← hN] at hl ha hb hn
  rw [← hN]
  have HL := hide hl
  have HN := hide hN
  clear hl hs hp hN
  go_enter Tryz.func89, Tryz.ntmps89
  go_wp2_with fail
  go_loopw [8] (fun v8 wx => ∃ i : Nat, v8 = .int .i64 i ∧ a + 1 ≤ i ∧ i ≤ N + 1 ∧ Hid (Below w.heap.size w wx)) (fun v8 _ => N + 1 - (intOf v8).toNat)
  case atStart => exact ⟨a + 1, by simp, Nat.le_refl _, by omega, Below.refl _ _⟩
  case round =>
    obtain ⟨i, rfl, hi1, hi2, HI⟩ := hrel
    by_cases hlt : i < b
    · have hltI : (i : Int) < b := by omega
      obtain ⟨g, off, hla, hq, hcap, hgl, hrg⟩ := (HL.out).at (fun e => by have h := HN.out; rw [e] at h; simp at h; omega)
      subst hla
      rw [← hq] at hcap
      have hcI : (N : Int) ≤ lc := by omega
      have HRW := hide (And.intro hgl hrg)
      clear hgl hrg hcap hq
      obtain ⟨x, hx⟩ : ∃ x, l[i]? = some x := ⟨_, List.getElem?_eq_getElem (by rw [← HN.out]; omega)⟩
      have HXx := hide (HP.out x (List.mem_of_getElem? hx))
      obtain ⟨y, hy⟩ : ∃ x, l[i - 1]? = some x := ⟨_, List.getElem?_eq_getElem (by rw [← HN.out]; omega)⟩
      have HXy := hide (HP.out y (List.mem_of_getElem? hy))
      have hnc : ¬ cmpF x y < 0 := srt_at HS.out hy hx (by omega)
      have hnd : decide (cmpF x y < 0) = false := decide_eq_false hnc
      have hia : (a : Int) < i := by omega
      have h0 : (0 : Int) ≤ i := by omega
      have hiN : (i : Int) < N := by omega
      have hq0 : (0 : Int) ≤ (i : Int) - 1 := by omega
      have hqN : (i : Int) - 1 < N := by omega
      have hqt : ((i : Int) - 1).toNat = i - 1 := by omega
      have HXY := hide (And.intro hx hy)
      have HNC := hide hnc
      clear hx hy hnc
      go_wp2_with fail
      go_loopw [9] (fun v9 wx => v9 = .int .i64 i ∧ Hid (Below w.heap.size w wx)) (fun v9 _ => 0)
      case atStart => exact ⟨rfl, HI.out⟩
      case round =>
        obtain ⟨rfl, HI⟩ := hrel
        go_upto_region 4 with fail
        refine QuietCalls.region (by kernel_rfl) (by kernel_rfl) ?_
        iterate 8 (first | go_big_quiet_step (fail) | quiet_step (fail))
        refine QuietCalls.loadMid rfl 51 _ rfl g (off + i * 5) rfl x.cs _ (fun v k => rangeAt_below (HRW.out.2 _ x HXY.out.1) HRW.out.1 (HI.out.trans (k.mono HI.out.size))) Tryz.underlying51 rfl infoFi5 ?_; simp only [Act.put, List.setIfInBounds_toArray, List.set_cons_succ, List.set_cons_zero]
        iterate 4 (first | go_big_quiet_step (fail) | quiet_step (fail))
        refine QuietCalls.loadMid rfl 51 _ rfl g (off + (i - 1) * 5) rfl y.cs _ (fun v k => rangeAt_below (HRW.out.2 _ y HXY.out.2) HRW.out.1 (HI.out.trans (k.mono HI.out.size))) Tryz.underlying51 rfl infoFi5 ?_; simp only [Act.put, List.setIfInBounds_toArray, List.set_cons_succ, List.set_cons_zero]
        refine QuietCalls.call rfl 17 #[.agg x.cs.toArray, .agg y.cs.toArray] (.int .i64 (cmpF x y)) (fun v _ => HC.out x HXx.out y HXy.out v) (fun v => by go_simp) ?_; simp only [Act.put, List.setIfInBounds_toArray, List.set_cons_succ, List.set_cons_zero]
        iterate 2 (first | go_big_quiet_step (fail) | quiet_step (fail))
        refine wpQuiet_nil ?_
        intro w2 k2
        have HI2 := hide (HI.out.trans (k2.mono HI.out.size))
        clear k2 HI
        go_wp2_with fail
        go_roundw
        case rel => exact ⟨i + 1, by simp, by omega, by omega, HI2.out⟩
        case measure => simp [intOf]; omega
    · have hltI : ¬ (i : Int) < b := by omega
      go_wp2_with fail
      go_end0
      exact ⟨rfl, HI.out⟩
end Go.Proofs.YtngikahadkoliaaGreatDoor
/- Contract: slices' symMerge of two runs that stand in order already: nothing turns. Laid by tools/mkstab.py. -/
namespace Go.Proofs.YtngikahadkoliaaGreatDoor
open Go.RowKit Go.Img Go.Shelf Go.Rws
attribute [local go_sem] Oper.semAt_some
set_option maxHeartbeats 16000000 in
set_option maxRecDepth 100000 in
theorem symm_same (l : List Fi) (u : Value) (W : World) (hl : RowsAt Fi.cs 5 W u l) (hs : Srt l) (hp : ∀ f ∈ l, f.path.length ≤ 1000) (hn : l.length ≤ 100000) : ∀ (k a m b : Nat) (w : World), Below W.heap.size W w → b - a ≤ k → a < m → m < b → b ≤ l.length →
    Calls Tryz.prog 105 #[u, .int .i64 a, .int .i64 m, .int .i64 b, .func (.func 17) #[] #[]] w fun e w' => e = .returned (.tuple #[]) ∧ Below w.heap.size w w' := by
  intro k
  induction k with
  | zero => intro a m b w _ h1 h2 h3; omega
  | succ k ih =>
    intro a m b w hk hbk ham hmb hb
    have hl2 := hl.below hk
    obtain ⟨la, lc, rfl⟩ := hl.form
    obtain ⟨N, hN⟩ : ∃ N, N = l.length := ⟨_, rfl⟩
    have HS := hide hs
    have HP := hide hp
    have HC := hide (fun (x : Fi) (hx : x.path.length ≤ 1000) (y : Fi) (hy : y.path.length ≤ 1000) (v : World) => fcmp_below x y hx hy v)
    have HIH : Hid (∀ (a m b : Nat) (v : World), Below w.heap.size w v → b - a ≤ k → a < m → m < b → b ≤ l.length → Calls Tryz.prog 105 #[.slice la l.length lc, .int .i64 a, .int .i64 m, .int .i64 b, .func (.func 17) #[] #[]] v fun e w' => e = .returned (.tuple #[]) ∧ Below v.heap.size v w') := fun a' m' b' v hv h1 h2 h3 h4 => ih a' m' b' v (hk.trans (hv.mono hk.size)) h1 h2 h3 h4
    rw [← hN] at hl2 hb hn HIH
    rw [← hN]
    have HL := hide hl2
    have HN := hide hN
    have HI := hide (Below.refl w.heap.size w)
    clear hl hl2 hs hp hN ih hk
    obtain ⟨g, off, hla, hq, hcap, hgl, hrg⟩ := (HL.out).at (fun e => by have h := HN.out; rw [e] at h; simp at h; omega)
    subst hla
    rw [← hq] at hcap
    have hcI : (N : Int) ≤ lc := by omega
    have HRW := hide (And.intro hgl hrg)
    clear hgl hrg hcap hq
    have ha0 : (0 : Int) ≤ a := by omega
    have haN : (a : Int) < N := by omega
    have hm0 : (0 : Int) ≤ m := by omega
    have hmN : (m : Int) < N := by omega
    have hbN : (b : Int) ≤ N := by omega
    have hnI : (N : Int) ≤ 100000 := by omega
    go_enter Tryz.func105, Tryz.ntmps105
    by_cases hma : m - a = 1
    · have hmaI : (m : Int) - a = 1 := by omega
      go_wp2_with fail
      go_loopw [10, 11] (fun v10 v11 wx => ∃ j : Nat, v10 = .int .i64 m ∧ v11 = .int .i64 j ∧ m ≤ j ∧ j ≤ b ∧ Hid (Below w.heap.size w wx)) (fun v10 v11 _ => (intOf v11).toNat)
      case atStart => exact ⟨b, rfl, rfl, by omega, Nat.le_refl _, HI.out⟩
      case round =>
        clear HI
        obtain ⟨j, rfl, rfl, hj1, hj2, HI⟩ := hrel
        by_cases hlt : m < j
        · have hltI : (m : Int) < j := by omega
          obtain ⟨x, hx⟩ : ∃ x, l[(m + j) / 2]? = some x := ⟨_, List.getElem?_eq_getElem (by rw [← HN.out]; omega)⟩
          have HXx := hide (HP.out x (List.mem_of_getElem? hx))
          obtain ⟨y, hy⟩ : ∃ x, l[a]? = some x := ⟨_, List.getElem?_eq_getElem (by rw [← HN.out]; omega)⟩
          have HXy := hide (HP.out y (List.mem_of_getElem? hy))
          have hnc : ¬ cmpF x y < 0 := srt_at HS.out hy hx (by omega)
          have hnd : decide (cmpF x y < 0) = false := decide_eq_false hnc
          have hc0 : (0 : Int) ≤ ((m : Int) + j) / 2 := by omega
          have hc1 : ((m : Int) + j) / 2 < N := by omega
          have hjI : (j : Int) ≤ 100000 := by omega
          have HXY := hide (And.intro hx hy)
          have HNC := hide hnc
          clear hx hy hnc
          go_upto_region 5 with fail
          refine QuietCalls.region (by kernel_rfl) (by kernel_rfl) ?_
          iterate 4 (first | go_big_quiet_step (fail) | quiet_step (fail))
          refine QuietCalls.loadMid rfl 51 _ rfl g (off + ((m + j) / 2) * 5) rfl x.cs _ (fun v k => rangeAt_below (HRW.out.2 _ x HXY.out.1) HRW.out.1 (HI.out.trans (k.mono HI.out.size))) Tryz.underlying51 rfl infoFi5 ?_; simp only [Act.put, List.setIfInBounds_toArray, List.set_cons_succ, List.set_cons_zero]
          iterate 3 (first | go_big_quiet_step (fail) | quiet_step (fail))
          refine QuietCalls.loadMid rfl 51 _ rfl g (off + a * 5) rfl y.cs _ (fun v k => rangeAt_below (HRW.out.2 _ y HXY.out.2) HRW.out.1 (HI.out.trans (k.mono HI.out.size))) Tryz.underlying51 rfl infoFi5 ?_; simp only [Act.put, List.setIfInBounds_toArray, List.set_cons_succ, List.set_cons_zero]
          refine QuietCalls.call rfl 17 #[.agg x.cs.toArray, .agg y.cs.toArray] (.int .i64 (cmpF x y)) (fun v _ => HC.out x HXx.out y HXy.out v) (fun v => by go_simp) ?_; simp only [Act.put, List.setIfInBounds_toArray, List.set_cons_succ, List.set_cons_zero]
          iterate 1 (first | go_big_quiet_step (fail) | quiet_step (fail))
          refine wpQuiet_nil ?_
          intro w2 k2
          have HI2 := hide (HI.out.trans (k2.mono HI.out.size))
          clear k2 HI
          go_wp2_with fail
          go_roundw
          case rel => exact ⟨(m + j) / 2, rfl, by congr 1 <;> omega, by omega, by omega, HI2.out⟩
          case measure => simp only [intOf]; omega
        · obtain rfl : m = j := by omega
          have hltI : ¬ (m : Int) < m := by omega
          go_wp2_with fail
          go_loopw [13] (fun v13 wx => v13 = .int .i64 a ∧ Hid (Below w.heap.size w wx)) (fun v13 _ => 0)
          case atStart => exact ⟨rfl, HI.out⟩
          case round =>
            clear HI
            obtain ⟨rfl, HI⟩ := hrel
            have hk1 : ¬ (a : Int) < (m : Int) - 1 := by omega
            go_wp2_with fail
            refine bodyPost_ret (results_none rfl _ _ _) rfl ?_
            exact ⟨rfl, HI.out⟩
    · have hmaI : ¬ (m : Int) - a = 1 := by omega
      have hmaB : ((m : Int) - a == 1) = false := by rw [beq_eq_false_iff_ne]; exact hmaI
      by_cases hbm : b - m = 1
      · have hbmI : (b : Int) - m = 1 := by omega
        go_wp2_with fail
        go_loopw [14, 15] (fun v14 v15 wx => ∃ i : Nat, v14 = .int .i64 i ∧ v15 = .int .i64 m ∧ a ≤ i ∧ i ≤ m ∧ Hid (Below w.heap.size w wx)) (fun v14 v15 _ => m - (intOf v14).toNat)
        case atStart => exact ⟨a, rfl, rfl, Nat.le_refl _, by omega, HI.out⟩
        case round =>
          clear HI
          obtain ⟨i, rfl, rfl, hi1, hi2, HI⟩ := hrel
          by_cases hlt : i < m
          · have hltI : (i : Int) < m := by omega
            obtain ⟨x, hx⟩ : ∃ x, l[m]? = some x := ⟨_, List.getElem?_eq_getElem (by rw [← HN.out]; omega)⟩
            have HXx := hide (HP.out x (List.mem_of_getElem? hx))
            obtain ⟨y, hy⟩ : ∃ x, l[(i + m) / 2]? = some x := ⟨_, List.getElem?_eq_getElem (by rw [← HN.out]; omega)⟩
            have HXy := hide (HP.out y (List.mem_of_getElem? hy))
            have hnc : ¬ cmpF x y < 0 := srt_at HS.out hy hx (by omega)
            have hnd : decide (cmpF x y < 0) = false := decide_eq_false hnc
            have hc0 : (0 : Int) ≤ ((i : Int) + m) / 2 := by omega
            have hc1 : ((i : Int) + m) / 2 < N := by omega
            have hi0 : (0 : Int) ≤ i := by omega
            have HXY := hide (And.intro hx hy)
            have HNC := hide hnc
            clear hx hy hnc
            go_upto_region 17 with fail
            refine QuietCalls.region (by kernel_rfl) (by kernel_rfl) ?_
            iterate 4 (first | go_big_quiet_step (fail) | quiet_step (fail))
            refine QuietCalls.loadMid rfl 51 _ rfl g (off + m * 5) rfl x.cs _ (fun v k => rangeAt_below (HRW.out.2 _ x HXY.out.1) HRW.out.1 (HI.out.trans (k.mono HI.out.size))) Tryz.underlying51 rfl infoFi5 ?_; simp only [Act.put, List.setIfInBounds_toArray, List.set_cons_succ, List.set_cons_zero]
            iterate 3 (first | go_big_quiet_step (fail) | quiet_step (fail))
            refine QuietCalls.loadMid rfl 51 _ rfl g (off + ((i + m) / 2) * 5) rfl y.cs _ (fun v k => rangeAt_below (HRW.out.2 _ y HXY.out.2) HRW.out.1 (HI.out.trans (k.mono HI.out.size))) Tryz.underlying51 rfl infoFi5 ?_; simp only [Act.put, List.setIfInBounds_toArray, List.set_cons_succ, List.set_cons_zero]
            refine QuietCalls.call rfl 17 #[.agg x.cs.toArray, .agg y.cs.toArray] (.int .i64 (cmpF x y)) (fun v _ => HC.out x HXx.out y HXy.out v) (fun v => by go_simp) ?_; simp only [Act.put, List.setIfInBounds_toArray, List.set_cons_succ, List.set_cons_zero]
            iterate 2 (first | go_big_quiet_step (fail) | quiet_step (fail))
            refine wpQuiet_nil ?_
            intro w2 k2
            have HI2 := hide (HI.out.trans (k2.mono HI.out.size))
            clear k2 HI
            go_wp2_with fail
            go_roundw
            case rel => exact ⟨(i + m) / 2 + 1, by congr 1 <;> omega, rfl, by omega, by omega, HI2.out⟩
            case measure => simp only [intOf]; omega
          · obtain rfl : i = m := by omega
            have hltI : ¬ (i : Int) < i := by omega
            go_wp2_with fail
            go_loopw [17] (fun v17 wx => v17 = .int .i64 i ∧ Hid (Below w.heap.size w wx)) (fun v17 _ => 0)
            case atStart => exact ⟨rfl, HI.out⟩
            case round =>
              clear HI
              obtain ⟨rfl, HI⟩ := hrel
              go_wp2_with fail
              refine bodyPost_ret (results_none rfl _ _ _) rfl ?_
              exact ⟨rfl, HI.out⟩
      · have hbmI : ¬ (b : Int) - m = 1 := by omega
        have hbmB : ((b : Int) - m == 1) = false := by rw [beq_eq_false_iff_ne]; exact hbmI
        have hab0 : (0 : Int) ≤ ((a : Int) + b) / 2 := by omega
        have hab1 : ((a : Int) + b) / 2 ≤ 100000 := by omega
        go_upto_region 25 with fail
        obtain ⟨d, hd⟩ : ∃ d : Nat, d = (a + b) / 2 := ⟨_, rfl⟩
        have hdI : ((a : Int) + b) / 2 = d := by omega
        simp only [hdI]
        have hd1 : a + 2 ≤ d := by omega
        have hd2 : d + 2 ≤ b := by omega
        have hd0 : (0 : Int) ≤ d := by omega
        have hdN : (d : Int) ≤ 100000 := by omega
        have HD := hide hd
        clear hdI hab0 hab1 hd
        by_cases hmd : d < m
        · have hmdI : (d : Int) < m := by omega
          obtain ⟨s0, hs0⟩ : ∃ s0 : Nat, s0 + b = d + m := ⟨d + m - b, by have := HD.out; omega⟩
          have hsI : (d : Int) + m - b = s0 := by omega
          have hs00 : (0 : Int) ≤ s0 := by omega
          have hs01 : (s0 : Int) ≤ 200000 := by omega
          obtain ⟨p, hpp⟩ : ∃ p : Nat, p + 1 = d + m := ⟨d + m - 1, by omega⟩
          have hpI : (d : Int) + m - 1 = p := by omega
          have hp00 : (0 : Int) ≤ p := by omega
          have hp01 : (p : Int) ≤ 200000 := by omega
          have HZ := hide (And.intro hs0 hpp)
          clear hs0 hpp
          go_upto_region 32 with fail
          try simp only [hsI]
          go_upto_region 33 with fail
          try simp only [hpI]
          clear hpI hsI
          go_loopw [20, 21] (fun v20 v21 wx => ∃ s : Nat, v20 = .int .i64 s ∧ v21 = .int .i64 d ∧ s0 ≤ s ∧ s ≤ d ∧ Hid (Below w.heap.size w wx)) (fun v20 v21 _ => d - (intOf v20).toNat)
          case atStart => exact ⟨s0, rfl, rfl, Nat.le_refl _, by have := HD.out; have := HZ.out.1; have := HZ.out.2; omega, HI.out⟩
          case round =>
            clear HI
            obtain ⟨s, rfl, rfl, hi1, hi2, HI⟩ := hrel
            have hs0I : (0 : Int) ≤ s := by omega
            by_cases hlt : s < d
            · have hltI : (s : Int) < d := by omega
              have hr0 : (0 : Int) ≤ ((s : Int) + d) / 2 := by omega
              have hr1 : ((s : Int) + d) / 2 ≤ 100000 := by omega
              have hdI9 : (d : Int) ≤ 100000 := by omega
              go_upto_region 35 with fail
              obtain ⟨c, hc⟩ : ∃ c : Nat, c = (s + d) / 2 := ⟨_, rfl⟩
              have hccI : ((s : Int) + d) / 2 = c := by omega
              simp only [hccI]
              have HCI := hide (And.intro hccI hc)
              clear hr0 hr1 hccI hc
              have hzq := HZ.out.1
              have hpc : c ≤ p - c := by have := HCI.out.2; have := HZ.out.2; have := HD.out; omega
              have hcle : s ≤ c ∧ c < d := by have := HCI.out.2; omega
              have hdd := HD.out
              have hcc := HCI.out.2
              have hzz := HZ.out
              obtain ⟨x, hx⟩ : ∃ x, l[p - c]? = some x := ⟨_, List.getElem?_eq_getElem (by rw [← HN.out]; omega)⟩
              have HXx := hide (HP.out x (List.mem_of_getElem? hx))
              obtain ⟨y, hy⟩ : ∃ x, l[c]? = some x := ⟨_, List.getElem?_eq_getElem (by rw [← HN.out]; omega)⟩
              have HXy := hide (HP.out y (List.mem_of_getElem? hy))
              have hnc : ¬ cmpF x y < 0 := srt_at HS.out hy hx (by omega)
              have hnd : decide (cmpF x y < 0) = false := decide_eq_false hnc
              have hc0 : (0 : Int) ≤ c := by omega
              have hc1 : (c : Int) < N := by omega
              have ht0 : (0 : Int) ≤ (p : Int) - c := by omega
              have ht1 : (p : Int) - c < N := by omega
              have htt : ((p : Int) - c).toNat = p - c := by omega
              have HXY := hide (And.intro hx hy)
              have HNC := hide hnc
              clear hx hy hnc hdd hcc hzz hzq hpc hcle
              refine QuietCalls.region (by kernel_rfl) (by kernel_rfl) ?_
              iterate 6 (first | go_big_quiet_step (fail) | quiet_step (fail))
              refine QuietCalls.loadMid rfl 51 _ rfl g (off + (p - c) * 5) rfl x.cs _ (fun v k => rangeAt_below (HRW.out.2 _ x HXY.out.1) HRW.out.1 (HI.out.trans (k.mono HI.out.size))) Tryz.underlying51 rfl infoFi5 ?_; simp only [Act.put, List.setIfInBounds_toArray, List.set_cons_succ, List.set_cons_zero]
              iterate 3 (first | go_big_quiet_step (fail) | quiet_step (fail))
              refine QuietCalls.loadMid rfl 51 _ rfl g (off + c * 5) rfl y.cs _ (fun v k => rangeAt_below (HRW.out.2 _ y HXY.out.2) HRW.out.1 (HI.out.trans (k.mono HI.out.size))) Tryz.underlying51 rfl infoFi5 ?_; simp only [Act.put, List.setIfInBounds_toArray, List.set_cons_succ, List.set_cons_zero]
              refine QuietCalls.call rfl 17 #[.agg x.cs.toArray, .agg y.cs.toArray] (.int .i64 (cmpF x y)) (fun v _ => HC.out x HXx.out y HXy.out v) (fun v => by go_simp) ?_; simp only [Act.put, List.setIfInBounds_toArray, List.set_cons_succ, List.set_cons_zero]
              iterate 2 (first | go_big_quiet_step (fail) | quiet_step (fail))
              refine wpQuiet_nil ?_
              intro w2 k2
              have HI2 := hide (HI.out.trans (k2.mono HI.out.size))
              clear k2 HI
              go_wp2_with fail
              go_roundw
              case rel => exact ⟨c + 1, by congr 1 <;> omega, rfl, by have := HCI.out.2; omega, by have := HCI.out.2; omega, HI2.out⟩
              case measure => simp only [intOf]; have := HCI.out.2; omega
            · obtain rfl : s = d := by omega
              have hltI : ¬ (s : Int) < s := by omega
              have heI : (s : Int) + m - s = m := by omega
              have hmbI : (m : Int) < b := by omega
              have HJ := hide (HIH.out s m b wr HI.out (by have := HD.out; omega) (by omega) hmb hb)
              go_upto_region 39 with fail
              try simp only [heI]
              clear heI HIH
              go_wp2_with (go_at_call 105; refine HJ.out.mono ?_; rintro r w5 ⟨rfl, k5⟩; have K5 := hide (HI.out.trans (k5.mono HI.out.size)); clear k5 HJ)
              go_end0
              exact ⟨rfl, K5.out⟩
        · have hmdI : ¬ (d : Int) < m := by omega
          obtain ⟨p, hpp⟩ : ∃ p : Nat, p + 1 = d + m := ⟨d + m - 1, by omega⟩
          have hpI : (d : Int) + m - 1 = p := by omega
          have hp00 : (0 : Int) ≤ p := by omega
          have hp01 : (p : Int) ≤ 200000 := by omega
          have HZ := hide (And.intro trivial hpp)
          clear hpp
          go_upto_region 33 with fail
          try simp only [hpI]
          clear hpI
          go_loopw [20, 21] (fun v20 v21 wx => ∃ s : Nat, v20 = .int .i64 s ∧ v21 = .int .i64 m ∧ a ≤ s ∧ s ≤ m ∧ Hid (Below w.heap.size w wx)) (fun v20 v21 _ => m - (intOf v20).toNat)
          case atStart => exact ⟨a, rfl, rfl, Nat.le_refl _, by have := HD.out; have := HZ.out.1; have := HZ.out.2; omega, HI.out⟩
          case round =>
            clear HI
            obtain ⟨s, rfl, rfl, hi1, hi2, HI⟩ := hrel
            have hs0I : (0 : Int) ≤ s := by omega
            by_cases hlt : s < m
            · have hltI : (s : Int) < m := by omega
              have hr0 : (0 : Int) ≤ ((s : Int) + m) / 2 := by omega
              have hr1 : ((s : Int) + m) / 2 ≤ 100000 := by omega
              have hdI9 : (m : Int) ≤ 100000 := by omega
              go_upto_region 35 with fail
              obtain ⟨c, hc⟩ : ∃ c : Nat, c = (s + m) / 2 := ⟨_, rfl⟩
              have hccI : ((s : Int) + m) / 2 = c := by omega
              simp only [hccI]
              have HCI := hide (And.intro hccI hc)
              clear hr0 hr1 hccI hc
              have hzq := HZ.out.1
              have hpc : c ≤ p - c := by have := HCI.out.2; have := HZ.out.2; have := HD.out; omega
              have hcle : s ≤ c ∧ c < m := by have := HCI.out.2; omega
              have hdd := HD.out
              have hcc := HCI.out.2
              have hzz := HZ.out
              obtain ⟨x, hx⟩ : ∃ x, l[p - c]? = some x := ⟨_, List.getElem?_eq_getElem (by rw [← HN.out]; omega)⟩
              have HXx := hide (HP.out x (List.mem_of_getElem? hx))
              obtain ⟨y, hy⟩ : ∃ x, l[c]? = some x := ⟨_, List.getElem?_eq_getElem (by rw [← HN.out]; omega)⟩
              have HXy := hide (HP.out y (List.mem_of_getElem? hy))
              have hnc : ¬ cmpF x y < 0 := srt_at HS.out hy hx (by omega)
              have hnd : decide (cmpF x y < 0) = false := decide_eq_false hnc
              have hc0 : (0 : Int) ≤ c := by omega
              have hc1 : (c : Int) < N := by omega
              have ht0 : (0 : Int) ≤ (p : Int) - c := by omega
              have ht1 : (p : Int) - c < N := by omega
              have htt : ((p : Int) - c).toNat = p - c := by omega
              have HXY := hide (And.intro hx hy)
              have HNC := hide hnc
              clear hx hy hnc hdd hcc hzz hzq hpc hcle
              refine QuietCalls.region (by kernel_rfl) (by kernel_rfl) ?_
              iterate 6 (first | go_big_quiet_step (fail) | quiet_step (fail))
              refine QuietCalls.loadMid rfl 51 _ rfl g (off + (p - c) * 5) rfl x.cs _ (fun v k => rangeAt_below (HRW.out.2 _ x HXY.out.1) HRW.out.1 (HI.out.trans (k.mono HI.out.size))) Tryz.underlying51 rfl infoFi5 ?_; simp only [Act.put, List.setIfInBounds_toArray, List.set_cons_succ, List.set_cons_zero]
              iterate 3 (first | go_big_quiet_step (fail) | quiet_step (fail))
              refine QuietCalls.loadMid rfl 51 _ rfl g (off + c * 5) rfl y.cs _ (fun v k => rangeAt_below (HRW.out.2 _ y HXY.out.2) HRW.out.1 (HI.out.trans (k.mono HI.out.size))) Tryz.underlying51 rfl infoFi5 ?_; simp only [Act.put, List.setIfInBounds_toArray, List.set_cons_succ, List.set_cons_zero]
              refine QuietCalls.call rfl 17 #[.agg x.cs.toArray, .agg y.cs.toArray] (.int .i64 (cmpF x y)) (fun v _ => HC.out x HXx.out y HXy.out v) (fun v => by go_simp) ?_; simp only [Act.put, List.setIfInBounds_toArray, List.set_cons_succ, List.set_cons_zero]
              iterate 2 (first | go_big_quiet_step (fail) | quiet_step (fail))
              refine wpQuiet_nil ?_
              intro w2 k2
              have HI2 := hide (HI.out.trans (k2.mono HI.out.size))
              clear k2 HI
              go_wp2_with fail
              go_roundw
              case rel => exact ⟨c + 1, by congr 1 <;> omega, rfl, by have := HCI.out.2; omega, by have := HCI.out.2; omega, HI2.out⟩
              case measure => simp only [intOf]; have := HCI.out.2; omega
            · obtain rfl : s = m := by omega
              have hltI : ¬ (s : Int) < s := by omega
              have heI : (d : Int) + s - s = d := by omega
              have hamI : (a : Int) < s := by omega
              by_cases hsd : s < d
              · have hsdI : (s : Int) < d := by omega
                have HJ := hide (HIH.out a s d wr HI.out (by have := HD.out; omega) ham hsd (by have := HD.out; omega))
                go_upto_region 39 with fail
                try simp only [heI]
                clear heI HIH
                go_wp2_with (go_at_call 105; refine HJ.out.mono ?_; rintro r w5 ⟨rfl, k5⟩; have K5 := hide (HI.out.trans (k5.mono HI.out.size)); clear k5 HJ)
                go_end0
                exact ⟨rfl, K5.out⟩
              · have hsdI : ¬ (s : Int) < d := by omega
                go_upto_region 39 with fail
                try simp only [heI]
                clear heI HIH
                go_wp2_with fail
                go_end0
                exact ⟨rfl, HI.out⟩
end Go.Proofs.YtngikahadkoliaaGreatDoor
/- Contract: slices.SortStableFunc of files that stand in order already: nothing turns. -/
namespace Go.Proofs.YtngikahadkoliaaGreatDoor
open Go.RowKit Go.Img Go.Shelf Go.Rws
attribute [local go_sem] Oper.semAt_some
set_option maxHeartbeats 8000000 in
set_option maxRecDepth 100000 in
theorem stable_same (l : List Fi) (u : Value) (w : World) (hl : RowsAt Fi.cs 5 w u l) (hs : Srt l) (hp : ∀ f ∈ l, f.path.length ≤ 1000) (hn : l.length ≤ 100000) :
    Calls Tryz.prog 72 #[u, .int .i64 l.length, .func (.func 17) #[] #[]] w fun e w' => e = .returned (.tuple #[]) ∧ Below w.heap.size w w' := by
  have HIn := hide (fun (a b : Nat) (v : World) (hv : Below w.heap.size w v) (ha : a ≤ l.length) (hb : b ≤ l.length) => ins_same l u a b v (hl.below hv) hs hp hn ha hb)
  have HSy := hide (fun (a m b : Nat) (v : World) (hv : Below w.heap.size w v) (h1 : a < m) (h2 : m < b) (hb : b ≤ l.length) => symm_same l u w hl hs hp hn (b - a) a m b v hv (Nat.le_refl _) h1 h2 hb)
  obtain ⟨N, hN⟩ : ∃ N, N = l.length := ⟨_, rfl⟩
  rw [← hN] at hn HIn HSy
  rw [← hN]
  clear hl hs hp hN
  have hnI : (N : Int) ≤ 100000 := by omega
  go_enter Tryz.func72, Tryz.ntmps72
  go_wp2_with fail
  go_loopw [7, 8] (fun v7 v8 wx => ∃ a : Nat, v7 = .int .i64 a ∧ v8 = .int .i64 (a + 20 : Nat) ∧ a ≤ N ∧ Hid (Below w.heap.size w wx)) (fun v7 _ _ => N - (intOf v7).toNat)
  case atStart => exact ⟨0, rfl, rfl, Nat.zero_le _, Below.refl _ _⟩
  case round =>
    obtain ⟨a, rfl, rfl, ha, HI⟩ := hrel
    have ha0 : (0 : Int) ≤ a := by omega
    have haI : (a : Int) ≤ 100000 := by omega
    by_cases hlt : a + 20 ≤ N
    · have hltI : (a : Int) + 20 ≤ N := by omega
      have HJ := hide (HIn.out a (a + 20) wr HI.out ha hlt)
      go_wp2_with (go_at_call 89; refine HJ.out.mono ?_; rintro r w5 ⟨rfl, k5⟩; have K5 := hide (HI.out.trans (k5.mono HI.out.size)); clear k5 HJ)
      go_roundw
      case rel => exact ⟨a + 20, by simp, by simp, hlt, K5.out⟩
      case measure => simp [intOf]; omega
    · have hltI : ¬ (a : Int) + 20 ≤ N := by omega
      have HJ := hide (HIn.out a N wr HI.out ha (Nat.le_refl _))
      go_wp2_with (go_at_call 89; refine HJ.out.mono ?_; rintro r w5 ⟨rfl, k5⟩; have K5 := hide (HI.out.trans (k5.mono HI.out.size)); clear k5 HJ)
      clear HI HIn
      go_loopw [6, 7, 8, 9] (fun v6 v7 v8 v9 wx => ∃ s : Nat, v6 = .int .i64 s ∧ 1 ≤ s ∧ s ≤ 300000 ∧ Hid (Below w.heap.size w wx)) (fun v6 _ _ _ _ => 300000 - (intOf v6).toNat)
      case atStart => exact ⟨20, rfl, by decide, by decide, K5.out⟩
      case round =>
        clear K5
        obtain ⟨s, rfl, hs1, hs2, HI⟩ := hrel
        have hs0 : (0 : Int) ≤ s := by omega
        by_cases hsn : s < N
        · have hsnI : (s : Int) < N := by omega
          have hsI : (s : Int) ≤ 100000 := by omega
          go_wp2_with fail
          go_loopw [7, 8] (fun v7 v8 wx => ∃ a : Nat, v7 = .int .i64 a ∧ v8 = .int .i64 (a + 2 * s : Nat) ∧ a ≤ N ∧ Hid (Below w.heap.size w wx)) (fun v7 _ _ => N - (intOf v7).toNat)
          case atStart => exact ⟨0, rfl, by congr 1; omega, Nat.zero_le _, HI.out⟩
          case round =>
            clear HI
            obtain ⟨a, rfl, rfl, ha, HI⟩ := hrel
            have ha0 : (0 : Int) ≤ a := by omega
            have haI : (a : Int) ≤ 100000 := by omega
            by_cases hlt : a + 2 * s ≤ N
            · have hltI : (a : Int) + 2 * s ≤ N := by omega
              have HJ := hide (HSy.out a (a + s) (a + 2 * s) wr HI.out (by omega) (by omega) hlt)
              have e1 : ((a + s : Nat) : Int) = (a : Int) + s := by omega
              have e2 : ((a + 2 * s : Nat) : Int) = (a : Int) + 2 * s := by omega
              rw [e1, e2] at HJ
              simp only [e2]
              clear e1 e2
              go_wp2_with (go_at_call 105; refine HJ.out.mono ?_; rintro r w5 ⟨rfl, k5⟩; have K5 := hide (HI.out.trans (k5.mono HI.out.size)); clear k5 HJ)
              go_roundw
              case rel => exact ⟨a + 2 * s, rfl, by congr 1 <;> omega, hlt, K5.out⟩
              case measure => simp [intOf]; omega
            · have hltI : ¬ (a : Int) + 2 * s ≤ N := by omega
              have e2 : ((a + 2 * s : Nat) : Int) = (a : Int) + 2 * s := by omega
              simp only [e2]
              clear e2
              by_cases hm : a + s < N
              · have hmI : (a : Int) + s < N := by omega
                have HJ := hide (HSy.out a (a + s) N wr HI.out (by omega) hm (Nat.le_refl _))
                have e1 : ((a + s : Nat) : Int) = (a : Int) + s := by omega
                rw [e1] at HJ
                clear e1
                go_wp2_with (go_at_call 105; refine HJ.out.mono ?_; rintro r w5 ⟨rfl, k5⟩; have K5 := hide (HI.out.trans (k5.mono HI.out.size)); clear k5 HJ)
                go_roundw
                case rel => exact ⟨s * 2, by congr 1 <;> omega, by omega, by omega, K5.out⟩
                case measure => simp [intOf]; omega
              · have hmI : ¬ (a : Int) + s < N := by omega
                go_wp2_with fail
                go_roundw
                case rel => exact ⟨s * 2, by congr 1 <;> omega, by omega, by omega, HI.out⟩
                case measure => simp [intOf]; omega
        · have hsnI : ¬ (s : Int) < N := by omega
          go_wp2_with fail
          go_end0
          exact ⟨rfl, HI.out⟩
set_option maxRecDepth 100000 in
theorem stab_same (l : List Fi) (u : Value) (w : World) (hl : RowsAt Fi.cs 5 w u l) (hs : Srt l) (hp : ∀ f ∈ l, f.path.length ≤ 1000) (hn : l.length ≤ 100000) :
    Calls Tryz.prog 40 #[u, .func (.func 17) #[] #[]] w fun e w' => e = .returned (.tuple #[]) ∧ Below w.heap.size w w' := by
  have HJ := hide (stable_same l u w hl hs hp hn)
  obtain ⟨a, c, rfl⟩ := hl.form
  obtain ⟨N, hN⟩ : ∃ N, N = l.length := ⟨_, rfl⟩
  rw [← hN] at HJ
  rw [← hN]
  clear hl hs hp hn hN
  go_enter Tryz.func40, Tryz.ntmps40
  go_wp2_with (go_at_call 72; refine HJ.out.mono ?_; rintro r w5 ⟨rfl, k5⟩; have K5 := hide k5; clear k5 HJ)
  go_end0
  exact ⟨rfl, K5.out⟩
end Go.Proofs.YtngikahadkoliaaGreatDoor
