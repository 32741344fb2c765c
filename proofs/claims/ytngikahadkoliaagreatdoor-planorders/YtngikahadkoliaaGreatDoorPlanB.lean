/- Several texts in one: PlanOrdered, PlanBack, PlanGone, PlanPlaces. -/
import Derived.Test.YtngikahadkoliaaGreatDoorStabG
import Derived.Test.YtngikahadkoliaaGreatDoorRunAJ
import Derived.Test.YtngikahadkoliaaGreatDoorBackAll
import Derived.Test.YtngikahadkoliaaGreatDoorPlanA
/- Contracts: a list of files of its own, in order: what stands in order already. -/
namespace Go.Pln
open Go.RowKit Go.Img
theorem files_one (es : List Fi) : ∀ u ∈ es.flatMap Fi.cs, u.oneCell' = true := fun u hu => by
  obtain ⟨s, _, h2⟩ := List.mem_flatMap.1 hu
  exact fi_one s u h2
end Go.Pln
namespace Go.Proofs.YtngikahadkoliaaGreatDoor
open Go.RowKit Go.Img Go.Pln Go.Shelf Go.Rws
attribute [local go_sem] Oper.semAt_some
set_option maxRecDepth 100000 in
theorem infoFi16 : (Tryz.prog.info? 51).map (fun i => (i.zero, i.size, i.bytes)) = some (some (.agg Fi.zero.cs.toArray), 5, 56) := by kernel_rfl
set_option maxRecDepth 100000 in
theorem nilFi1 (w : World) : (binOp .eql 27 (.slice none 0 0) (.slice none 0 0)).run Tryz.prog w = .ok (.bool true) w := by kernel_rfl
set_option maxRecDepth 100000 in
theorem nilFi2 (g off n cap : Nat) (w : World) : (binOp .eql 27 (.slice (some ⟨g, off, none⟩) n cap) (.slice none 0 0)).run Tryz.prog w = .ok (.bool false) w := by kernel_rfl
set_option maxHeartbeats 4000000 in
set_option maxRecDepth 100000 in
theorem cloneFi_any (l : List Fi) (u : Value) (w : World) (hl : RowsAt Fi.cs 5 w u l) (hN : Nice u) (hn : l.length ≤ 50000) :
    Calls Tryz.prog 36 #[u] w fun e w' => ∃ v, e = .returned v ∧ OwnR Fi.cs 5 51 w v l w' := by
  have hfm := hl.form
  rcases hN with rfl | ⟨g, off, n, c, rfl, hc⟩
  · obtain ⟨a, c, hf⟩ := hfm
    simp only [Value.slice.injEq] at hf
    have h0 : l = [] := List.length_eq_zero_iff.1 hf.2.1.symm
    subst h0
    clear hl hf hn
    have hb := nilFi1
    go_enter Tryz.func36, Tryz.ntmps36
    go_wp2_with fail
    refine bodyPost_ret (results_tmp Tryz.results36 _ _ _) rfl ?_
    exact ⟨_, rfl, ⟨rfl, .inl ⟨rfl, rfl⟩⟩, Below.refl _ _⟩
  · obtain ⟨a, c', hf⟩ := hfm
    simp only [Value.slice.injEq] at hf
    obtain ⟨rfl, rfl, rfl⟩ := hf
    have HM := hide (OwnR.made (cs := Fi.cs) (z := 5) (T := 51) (Below.refl w.heap.size w))
    have HR := hide (hl.below ((Below.refl _ w).alloc (Nat.le_refl _) (.cells #[] 51)))
    clear hl
    have hb := nilFi2
    go_enter Tryz.func36, Tryz.ntmps36
    go_wp2_with (at_builtin; refine OwnR.appendAll HM.out l Fi.cs_length (files_one l) (by decide) infoFi16 rfl (by simp; omega) (by decide) rfl _ _ 27 Tryz.underlying27 rfl rfl rfl HR.out ?_; intro a1 c1 w3 hO; have HO3 := hide hO; clear hO)
    refine bodyPost_ret (results_tmp Tryz.results36 _ _ _) rfl ?_
    have h9 := HO3.out
    simp only [List.nil_append] at h9
    exact ⟨_, rfl, h9⟩
set_option maxHeartbeats 4000000 in
set_option maxRecDepth 100000 in
theorem ordered_any (l : List Fi) (u : Value) (w : World) (hl : RowsAt Fi.cs 5 w u l) (hN : Nice u) (hs : Srt l) (hp : ∀ f ∈ l, f.path.length ≤ 1000) (hn : l.length ≤ 50000) :
    Calls Tryz.prog 29 #[u] w fun e w' => ∃ v, e = .returned v ∧ OwnR Fi.cs 5 51 w v l w' := by
  have HC := hide (cloneFi_any l u w hl hN hn)
  have HS := hide (And.intro hs hp)
  clear hl hN hs hp
  go_enter Tryz.func29, Tryz.ntmps29
  go_wp2_with (first
    | (go_at_call 36; refine HC.out.mono ?_; rintro r w1 ⟨v, rfl, ho⟩; have H1 := hide ho; have HJ := hide (stab_same l v w1 (ho.rows Fi.cs_length) HS.out.1 HS.out.2 (by omega)); clear ho HC)
    | (go_at_call 40; refine HJ.out.mono ?_; rintro r w5 ⟨rfl, k5⟩; have K5 := hide k5; clear k5 HJ))
  refine bodyPost_ret (results_tmp Tryz.results29 _ _ _) rfl ?_
  exact ⟨_, rfl, H1.out.step K5.out⟩
end Go.Proofs.YtngikahadkoliaaGreatDoor
/- Contract: files gone over from their end, each with a fact that all have. -/
namespace Go.Proofs.YtngikahadkoliaaGreatDoor
open Go.RowKit Go.Img Go.Pln Go.Shelf Go.Rws
attribute [local go_sem] Oper.semAt_some
abbrev Bf (p : Fi → Prop) := { x : Nat × Fi // p x.2 }
set_option maxHeartbeats 4000000 in
set_option maxRecDepth 100000 in
theorem backF_of {a : Option Addr} {c : Nat} (p : Fi → Prop) (ss : List Fi) (hp : ∀ s ∈ ss, p s) (bx g m : Nat) (w0 : World) (hb : w0.cell? ⟨bx, 0, none⟩ = some (.slice a ss.length c)) (hg : ∀ x, a = some x → x.block = g) (hR : RowsAt Fi.cs 5 w0 (.slice a ss.length c) ss) (hn : ss.length ≤ 1000000) :
    SeqStopsK Fence.wide m Tryz.prog 63 #[.pointer (some ⟨bx, 0, none⟩)] (fun x : Bf p => #[.int .i64 x.1.1, .agg x.1.2.cs.toArray]) (KpB bx g) (fun xs => xs.map (·.1.2) = ss.reverse) (fun _ => True) ss.length w0 := by
  intro l J Jx W hW hJ hJx hY h0
  refine callsIn_of_wp Tryz.func63 rfl trivial ?_ rfl
  simp only [Tryz.ntmps63, List.size_toArray, List.length_cons, List.length_nil, Nat.reduceAdd, Nat.reduceSub, Array.replicate_succ, Array.replicate_zero, List.push_toArray, List.append_toArray, List.nil_append, List.cons_append]
  have hbW : W.cell? ⟨bx, 0, none⟩ = some (.slice a ss.length c) := (hW.cell (p := ⟨bx, 0, none⟩) (cell_lt hb)).trans hb
  have HY := hide hY
  have H0 := hide (And.intro h0 (And.intro hbW (hR.below hW)))
  have HG := hide hg
  clear hY h0 hW hJ hJx hg hb hR
  gi_wp2_with fail
  gi_loopw [3] (fun vs wr => ∃ (k : Nat) (pre : List (Bf p)), vs = .int .i64 ((k : Int) - 1) ∧ k ≤ ss.length ∧ Hid (pre.map (·.1.2) = (ss.drop k).reverse ∧ J pre wr ∧ wr.cell? ⟨bx, 0, none⟩ = some (.slice a ss.length c) ∧ RowsAt Fi.cs 5 wr (.slice a ss.length c) ss)) (fun vs _ => (intOf vs + 1).toNat)
  case atStart => exact ⟨ss.length, [], rfl, Nat.le_refl _, by simp, H0.out⟩
  case round =>
    obtain ⟨k, pre, rfl, hk, HP⟩ := hrel
    clear H0
    cases k with
    | zero =>
      gi_wp2_with fail
      go_end0
      refine ⟨⟨_, rfl⟩, .inl ⟨pre, ?_, HP.out.2.1⟩⟩
      have := HP.out.1
      simpa using this
    | succ k =>
      have hlen : pre.length = ss.length - (k + 1) := by have := congrArg List.length HP.out.1; simpa using this
      obtain ⟨s, hs⟩ : ∃ s, ss[k]? = some s := ⟨_, List.getElem?_eq_getElem (by omega)⟩
      have hps : p s := hp s (List.mem_of_getElem? hs)
      obtain ⟨gg, off, ha, _, hcap, hgl, hrg⟩ := HP.out.2.2.2.at (fun e => by rw [e] at hk; simp at hk)
      obtain ⟨fn, tmps, assign, body, hy, hR⟩ := HY.out pre ⟨(k, s), hps⟩ wr HP.out.2.1 (by omega)
      have c0 := HP.out.2.2.1
      subst ha
      obtain ⟨d0, d1, d2, d3, d4⟩ := cells5f (hrg k s hs)
      dsimp only at hy
      unfold Fi.cs at hy
      have e1 : ((k + 1 : Nat) : Int) - 1 = k := by omega
      rw [e1]
      have hkl : (k : Int) < ss.length := by omega
      have hk0 : (0 : Int) ≤ k := by omega
      have HS := hide (And.intro hs (And.intro hgl hrg))
      clear hs hgl hrg hlen
      gi_wp2_with fail
      refine ⟨fun h => (by cases h), hR.mono ?_⟩
      rintro e W3 (⟨rfl, hJ3, hk3⟩ | ⟨rfl, hJx3⟩)
      · have hH : Hid (J (pre ++ [⟨(k, s), hps⟩]) W3 ∧ W3.cell? ⟨bx, 0, none⟩ = some (.slice (some ⟨gg, off, none⟩) ss.length c) ∧ RowsAt Fi.cs 5 W3 (.slice (some ⟨gg, off, none⟩) ss.length c) ss) := by
          refine ⟨hJ3, (cell_same hk3.2.1).trans HP.out.2.2.1, .inr ⟨gg, off, c, rfl, Nat.lt_of_lt_of_le HS.out.2.1 hk3.1, hcap, fun i s' hs' j u hu => ?_⟩⟩
          have hgg : gg = g := HG.out _ rfl
          have e4 : W3.heap[gg]? = wr.heap[gg]? := hgg ▸ hk3.2.2
          exact (cell_same e4).trans (HS.out.2.2 i s' hs' j u hu)
        clear hJ3 hk3 hR hy
        gi_wp2_with fail
        go_roundw
        case rel =>
          refine ⟨k, pre ++ [⟨(k, s), hps⟩], rfl, by omega, ?_, hH.out⟩
          rw [List.map_append, HP.out.1]
          have e2 : ss.drop k = s :: ss.drop (k + 1) := by
            rw [List.drop_eq_getElem_cons (by omega)]
            have := HS.out.1
            rw [List.getElem?_eq_getElem (by omega)] at this
            rw [Option.some.inj this]
          rw [e2, List.reverse_cons]
          rfl
        case measure => simp only [intOf]; omega
      · clear hR hy
        gi_wp2_with fail
        refine bodyPost_ret (results_none rfl _ _ _) rfl ?_
        exact ⟨⟨_, rfl⟩, .inr ⟨pre ++ [⟨(k, s), hps⟩], trivial, hJx3⟩⟩
end Go.Proofs.YtngikahadkoliaaGreatDoor
/- Contracts: the step that takes one away; going backward over files. -/
namespace Go.Proofs.YtngikahadkoliaaGreatDoor
open Go.RowKit Go.Img Go.Pln Go.Shelf Go.Rws
attribute [local go_sem] Oper.semAt_some
set_option maxRecDepth 100000 in
theorem infoPt : (Tryz.prog.info? 37).map (·.size) = some 3 := by kernel_rfl
set_option maxRecDepth 100000 in
theorem infoPt3 : (Tryz.prog.info? 37).map (fun i => (i.zero, i.size, i.bytes)) = some (some (.agg #[.int .i64 0, .string ⟨#[]⟩, .string ⟨#[]⟩]), 3, 40) := by kernel_rfl
set_option maxRecDepth 100000 in
theorem backwardF_any (a : Option Addr) (n c : Nat) (w : World) : Calls Tryz.prog 28 #[.slice a n c] w fun e w' => e = .returned (.func (.func 63) #[] #[.pointer (some ⟨w.heap.size, 0, none⟩)]) ∧ w' = w.alloc (.cells #[.slice a n c] 27) := by
  go_enter Tryz.func28, Tryz.ntmps28
  go_wp2
  go_ret
  exact ⟨rfl, rfl⟩
set_option maxHeartbeats 4000000 in
set_option maxRecDepth 100000 in
theorem gone_any (f : Fi) (w : World) : Calls Tryz.prog 31 #[.agg f.cs.toArray] w fun e w' => e = .returned (.agg (gon f).cs.toArray) ∧ Below w.heap.size w w' := by
  obtain ⟨p, d, i, g, z⟩ := f
  unfold gon Pt.cs Fi.cs
  dsimp only
  cases d with
  | true =>
    have HK := hide (((Below.refl _ w).alloc (Nat.le_refl _) (.cells #[.string ⟨p.toArray⟩, .bool true, .int .u64 i, .string g, .int .i64 z] 51)).alloc (by simp) (.cells #[.int .i64 2, .string ⟨p.toArray⟩, .string ⟨#[]⟩] 37))
    go_enter Tryz.func31, Tryz.ntmps31
    go_wp2_with fail
    refine bodyPost_ret (results_cell_row Tryz.results31 _ _ _ _ _ (0, 0) _ rfl (new_at (by simp) _) Tryz.underlying37 rfl infoPt) rfl ?_
    exact ⟨rfl, HK.out⟩
  | false =>
    have HK := hide (((Below.refl _ w).alloc (Nat.le_refl _) (.cells #[.string ⟨p.toArray⟩, .bool false, .int .u64 i, .string g, .int .i64 z] 51)).alloc (by simp) (.cells #[.int .i64 1, .string ⟨p.toArray⟩, .string ⟨#[]⟩] 37))
    go_enter Tryz.func31, Tryz.ntmps31
    go_wp2_with fail
    refine bodyPost_ret (results_cell_row Tryz.results31 _ _ _ _ _ (0, 0) _ rfl (new_at (by simp) _) Tryz.underlying37 rfl infoPt) rfl ?_
    exact ⟨rfl, HK.out⟩
end Go.Proofs.YtngikahadkoliaaGreatDoor
/- Contract: a list of files by where they stand. -/
namespace Go.Proofs.YtngikahadkoliaaGreatDoor
open Go.RowKit Go.Img Go.Pln Go.MapFun Go.Maps Go.Shelf Go.Rws
attribute [local go_sem] Oper.semAt_some
set_option maxHeartbeats 4000000 in
set_option maxRecDepth 100000 in
theorem places_any (l : List Fi) (u : Value) (w : World) (hl : RowsAt Fi.cs 5 w u l) (hp : ∀ f ∈ l, f.path.length ≤ 1000) (hn : l.length ≤ 100000) :
    Calls Tryz.prog 27 #[u] w fun e w' => ∃ b, e = .returned (.map (some b)) ∧ w.heap.size ≤ b ∧ MapPl l.length w' b (lkP l) ∧ Below w.heap.size w w' := by
  obtain ⟨la, lc, rfl⟩ := hl.form
  obtain ⟨N, hN⟩ : ∃ N, N = l.length := ⟨_, rfl⟩
  rw [← hN] at hl hn
  rw [← hN]
  have HL := hide hl
  have HN := hide hN
  have HP := hide hp
  have HPl := hide (fun (f : Fi) v => placeOf_any f v)
  have hmk := plHint
  have hnI : (N : Int) ≤ 100000 := by omega
  have HM0 : Hid (MapPl 0 (w.alloc (.map #[] 0)) w.heap.size (lkP (l.take 0)) ∧ Below w.heap.size w (w.alloc (.map #[] 0))) := ⟨MapG.made _ _ _ _ _, (Below.refl _ w).alloc (Nat.le_refl _) _⟩
  clear hl hp hN
  go_enter Tryz.func27, Tryz.ntmps27
  go_wp2_with fail
  clear hmk
  go_loopw [11] (fun v11 wx => ∃ i : Nat, v11 = .int .i64 i ∧ i ≤ N ∧ Hid (MapPl i wx w.heap.size (lkP (l.take i)) ∧ Below w.heap.size w wx)) (fun v11 _ => N - (intOf v11).toNat)
  case atStart => exact ⟨0, rfl, Nat.zero_le _, HM0.out⟩
  case round =>
    obtain ⟨i, rfl, hi, HI⟩ := hrel
    clear HM0
    have h0 : (0 : Int) ≤ i := by omega
    by_cases hil : i < N
    · obtain ⟨f, hf⟩ : ∃ f, l[i]? = some f := ⟨_, List.getElem?_eq_getElem (by rw [← HN.out]; exact hil)⟩
      obtain ⟨g1, o1, e1, q1, cx, l1, r1⟩ := (HL.out.below HI.out.2).at (fun e => by rw [e] at hf; cases hf)
      subst e1
      have hc1 : (N : Int) ≤ lc := by rw [q1]; omega
      have hiI : (i : Int) < N := by omega
      have HRG := hide (r1 i f hf)
      have HNX : Hid (lkP (l.take (i + 1)) = fun t => if t = pk f then some f else lkP (l.take i) t) := by
        show _ = _
        rw [List.take_add_one, hf, Option.toList_some, lkP_snoc]
      have hfp := HP.out f (List.mem_of_getElem? hf)
      obtain ⟨kl, hkl⟩ := plKey (pk f) hfp
      have HKL := hide hkl
      have HPf := hide (fun v => HPl.out f v)
      unfold Fi.cs at HPf
      have HB : Hid ((wr.alloc (.cells #[.string ⟨f.path.toArray⟩, .bool f.dir, .int .u64 f.id, .string f.dg, .int .i64 f.size] 51)).heap[wr.heap.size]? = some (.cells #[.string ⟨f.path.toArray⟩, .bool f.dir, .int .u64 f.id, .string f.dg, .int .i64 f.size] 51 (0, 0)) ∧ Below wr.heap.size wr (wr.alloc (.cells #[.string ⟨f.path.toArray⟩, .bool f.dir, .int .u64 f.id, .string f.dg, .int .i64 f.size] 51))) := ⟨heap_alloc_new _ _, (Below.refl _ _).alloc (Nat.le_refl _) _⟩
      clear hf r1 l1 q1 cx hkl hfp
      go_upto_region 5 with (refine wpList_load_mid rfl 51 _ rfl g1 (o1 + i * 5) rfl f.cs _ HRG.out Tryz.underlying51 rfl infoFi5 ?_; simp only [Fi.cs])
      generalize wr.alloc (.cells #[.string ⟨f.path.toArray⟩, .bool f.dir, .int .u64 f.id, .string f.dg, .int .i64 f.size] 51) = W1 at *
      refine QuietCalls.tail 4 (by kernel_rfl) (by kernel_rfl) ?_
      simp only [List.take_succ_cons, List.take_zero, List.drop_succ_cons, List.drop_zero]
      iterate 1 first | go_big_quiet_step (fail) | quiet_step (fail)
      refine QuietCalls.load rfl 51 _ rfl _ rfl _ _ _ _ HB.out.1 Tryz.underlying51 rfl infoFi5 ?_; simp only [Act.put, List.setIfInBounds_toArray, List.set_cons_succ, List.set_cons_zero]
      refine QuietCalls.call rfl 30 #[.agg #[.string ⟨f.path.toArray⟩, .bool f.dir, .int .u64 f.id, .string f.dg, .int .i64 f.size]] (.agg #[.string ⟨f.path.toArray⟩, .bool f.dir]) (fun v _ => HPf.out v) (fun v => by go_simp) ?_; simp only [Act.put, List.setIfInBounds_toArray, List.set_cons_succ, List.set_cons_zero]
      refine QuietCalls.load rfl 51 _ rfl _ rfl _ _ _ _ HB.out.1 Tryz.underlying51 rfl infoFi5 ?_; simp only [Act.put, List.setIfInBounds_toArray, List.set_cons_succ, List.set_cons_zero]
      refine wpQuiet_nil ?_
      intro w2 k2
      have KK : Below wr.heap.size wr w2 := HB.out.2.trans (k2.mono HB.out.2.size)
      have hbl : w.heap.size < wr.heap.size := HI.out.1.lt
      obtain ⟨w3, hrun, hm, hg⟩ := (HI.out.1.below hbl KK).update plKeyed plUnder plV_inj (by unfold maxLen; omega) (pk f) HKL.out f
      have hrun2 : (Instr.mapUpdate 83 (.map (some w.heap.size)) (.agg #[.string ⟨f.path.toArray⟩, .bool f.dir]) (.agg #[.string ⟨f.path.toArray⟩, .bool f.dir, .int .u64 f.id, .string f.dg, .int .i64 f.size])).run Tryz.prog w2 = .ok () w3 := hrun
      have HM3 := hide hm
      have HK3 := hide ((HI.out.2.trans (KK.mono HI.out.2.size)).grown hg (Nat.le_trans HI.out.2.size KK.size) (fun j e => by cases e; exact Nat.le_refl _))
      clear hrun hm hg k2 KK HB HPf HRG HKL
      go_wp2_with fail
      go_roundw
      case rel => exact ⟨i + 1, by simp, by omega, by rw [HNX.out]; exact HM3.out, HK3.out⟩
      case measure => simp [intOf]; omega
    · obtain rfl : i = N := by omega
      have hiI : ¬ (i : Int) < i := by omega
      have e1 : l.take i = l := by rw [HN.out]; exact List.take_length
      rw [e1] at HI
      go_wp2_with fail
      refine bodyPost_ret (results_tmp Tryz.results27 _ _ _) rfl ?_
      exact ⟨_, rfl, Nat.le_refl _, HI.out⟩
end Go.Proofs.YtngikahadkoliaaGreatDoor
