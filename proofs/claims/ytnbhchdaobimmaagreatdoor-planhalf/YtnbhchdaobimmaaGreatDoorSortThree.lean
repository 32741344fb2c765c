/- Several texts in one: SortOwn, SortKeys, SortGather, MoveAll. -/
import Derived.Test.YtnbhchdaobimmaaGreatDoorSortTwo
import Derived.Laws.IdiomRangeMap
import Derived.Test.YtnbhchdaobimmaaGreatDoorEntryAll
/- Contract: a row of 64-bit numbers of one's own is sorted. -/
namespace Go.Srt
open Go.RowKit Go.Sort Go.Rws
/-- A number's cell. -/
def csU (x : Int) : List Value := [.int .u64 x]
theorem csU_len (x : Int) : (csU x).length = 1 := rfl
theorem csU_map : ∀ xs : List Int, xs.flatMap csU = xs.map (Value.int .u64)
  | [] => rfl
  | x :: r => by rw [List.flatMap_cons, csU_map r]; rfl
theorem sorted_list {d : Array Int} {S : List Int} (hp : PermIn 0 d.size S.toArray d) (hs : SortedIn ltInt 0 d.size d) (hS : S.Pairwise (· ≤ ·)) : d.toList = S := by
  have h1 : S.length = d.size := by have := hp.1; simp at this; exact this.symm
  have h2 : d.toList.Perm S := by
    have := hp.2.2
    rw [Array.extract_eq_self_of_le (Nat.le_refl _), Array.extract_eq_self_of_le (by simp [h1])] at this
    simpa using this
  refine List.Perm.eq_of_pairwise (le := (· ≤ ·)) (fun a b _ _ h1 h2 => Int.le_antisymm h1 h2) ?_ hS h2
  rw [List.pairwise_iff_getElem]
  intro i j hi hj hij
  have := hs i j (Nat.zero_le _) hij (by simpa using hj)
  simp only [Array.length_toList] at hi hj
  unfold ltInt at this
  simp [hi, hj] at this
  simpa using this
end Go.Srt
namespace Go.Proofs.YtnbhchdaobimmaaGreatDoor
open Go.RowKit Go.Sort Go.Srt Go.Mov Go.Rws
attribute [local go_sem] Oper.semAt_some
set_option maxHeartbeats 4000000 in
set_option maxRecDepth 100000 in
theorem sort_any {g c N : Nat} (d : Array Int) (w : World) (hU : Us 49 w g d w) (hd : d.size = N) (hN1 : 1 ≤ N) (hN : N < 256) (hc : N ≤ c) :
    Calls Tryz.prog 84 #[.slice (some ⟨g, 0, none⟩) N c] w fun e w' => (∃ v, e = .returned v) ∧ SortTo 49 w g 0 N d w' := by
  have hL := len_any N w hN1 hN
  have hk : Nat.log2 N + 1 ≤ 1000 := by
    have : Nat.log2 N < 8 := by
      refine (Nat.log2_lt (by omega)).2 ?_
      show N < 2 ^ 8
      omega
    omega
  generalize Nat.log2 N + 1 = k at hL hk
  have HL := hide hL
  have HP := hide (pdq_any (W := w) (g := g) hN hc N 0 N k d w (by omega) (by omega) (Nat.le_refl _) hd hk (.inl rfl) hU)
  have hNI : (N : Int) < 256 := by omega
  have hN0 : (0 : Int) ≤ N := by omega
  clear hL hU
  go_enter Tryz.func84, Tryz.ntmps84
  go_wp2_with (first
    | (go_at_call 62; refine HL.out.mono ?_; rintro e w1 ⟨rfl, rfl⟩; clear HL)
    | (go_at_call 113; refine HP.out.mono ?_; rintro e w2 ⟨rfl, h2⟩; have H2 := hide h2; clear HP h2))
  go_end0
  exact ⟨⟨_, rfl⟩, H2.out⟩
set_option maxRecDepth 100000 in
/-- A row of one's own is sorted; all else stands. -/
theorem sort_own {W : World} {vo : Value} {xs S : List Int} (w : World) (h : OwnR csU 1 49 W vo xs w) (hp : S.Perm xs) (hS : S.Pairwise (· ≤ ·)) (hn : xs.length < 256) :
    Calls Tryz.prog 84 #[vo] w fun e w' => (∃ v, e = .returned v) ∧ OwnR csU 1 49 W vo S w' ∧ w.heap.size ≤ w'.heap.size ∧ ∀ k, k < w.heap.size → vo.ownBlock ≠ some k → w'.heap[k]? = w.heap[k]? := by
  by_cases hf : xs.length ≤ 1
  · obtain ⟨a, c, rfl⟩ := h.form
    have hSx : S = xs := by
      match xs, hf with
      | [], _ => exact List.Perm.eq_nil hp
      | [x], _ => exact List.perm_singleton.1 hp
    refine (sort_few a xs.length c w hf).mono ?_
    rintro e w' ⟨⟨v, rfl⟩, rfl⟩
    exact ⟨⟨v, rfl⟩, by rw [hSx]; exact h, Nat.le_refl _, fun _ _ _ => rfl⟩
  · obtain ⟨⟨h0, h1⟩, hb⟩ := h
    rcases h1 with ⟨_, h2⟩ | ⟨g, cap, cur, rfl, h2, h3, h4, h5, h6, h7⟩
    · omega
    · have hcell : ∀ i, i < xs.length → cur[i]? = some (.int .u64 xs.toArray[i]!) := by
        intro i hi
        have h8 : (cur.toList.take (xs.length * 1))[i]? = (xs.flatMap csU)[i]? := by rw [h7]
        rw [csU_map, List.getElem?_map, List.getElem?_take_of_lt (by omega), Array.getElem?_toList] at h8
        rw [h8]
        simp [hi]
      have hU : Us 49 w g xs.toArray w := Us.start ⟨cur, h3, fun i hi => hcell i (by simpa using hi)⟩
      refine (sort_any xs.toArray w hU (by simp) (by omega) hn h4).mono ?_
      rintro e w' ⟨hv, d', p1, p2, p3⟩
      have hds : d'.size = xs.length := by have := p1.1; simpa using this
      have hdS : d'.toList = S := by
        refine sorted_list ?_ (by rw [hds]; exact p2) hS
        refine ⟨by have := hp.length_eq; simp [hds, this], fun i hi => ?_, ?_⟩
        · rcases hi with hi | hi
          · omega
          · have h9 : ¬ i < S.length := by rw [hp.length_eq]; omega
            have h8 : ¬ i < d'.size := by omega
            simp [h9, h8]
        · have := p1.2.2
          rw [Array.extract_eq_self_of_le (by omega), Array.extract_eq_self_of_le (by simp)] at this
          rw [Array.extract_eq_self_of_le (Nat.le_refl _), Array.extract_eq_self_of_le (by rw [hds]; simp [hp.length_eq])]
          exact this.trans (by simpa using hp.symm)
      obtain ⟨c0, c1, e1, e2, e3, e4⟩ := p3.len
      rw [h3] at e1
      simp only [Option.some.injEq, Obj.cells.injEq, and_true] at e1
      obtain ⟨rfl, _⟩ := e1
      obtain ⟨cur', r1, r2⟩ := p3.row
      rw [e2] at r1
      simp only [Option.some.injEq, Obj.cells.injEq, and_true] at r1
      obtain ⟨rfl, _⟩ := r1
      refine ⟨hv, ⟨⟨?_, .inr ⟨g, cap, c1, by rw [hp.length_eq], h2, e2, by rw [hp.length_eq]; exact h4, h5, e3.trans h6, ?_⟩⟩, ?_⟩, p3.size, fun k hk hne => p3.other k hk fun e => hne (by rw [e]; rfl)⟩
      · rw [csU_map]; simp
      · rw [csU_map, Nat.mul_one, ← hdS]
        apply List.ext_getElem?
        intro i
        by_cases hi : i < d'.size
        · rw [List.getElem?_take_of_lt (by simpa using hi), Array.getElem?_toList, r2 i hi]
          simp [hi]
        · rw [List.getElem?_eq_none (by simp; omega), List.getElem?_eq_none (by simp; omega)]
      · exact ⟨p3.os.trans hb.os, p3.tape.trans hb.tape, p3.output.trans hb.output, Nat.le_trans hb.size p3.size, fun k hk => (p3.other k (Nat.lt_of_lt_of_le hk hb.size) (by omega)).trans (hb.block k hk)⟩
end Go.Proofs.YtnbhchdaobimmaaGreatDoor
/- Contracts: the keys of a map, gone over and gathered into a row of one's own; sorted. -/
namespace Go.Proofs.YtnbhchdaobimmaaGreatDoor
open Go.RowKit Go.Opn Go.Stamp Go.MapInt Go.Mov Go.Shelf Go.Rws Go.Srt
attribute [local go_sem] Oper.semAt_some
set_option maxRecDepth 100000 in
theorem keysU_any (mb : Option Nat) (w : World) : Calls Tryz.prog 57 #[.map mb] w fun e w' => e = .returned (.func (.func 85) #[] #[.pointer (some ⟨w.heap.size, 0, none⟩)]) ∧ w' = w.alloc (.cells #[.map mb] 107) := by
  go_enter Tryz.func57, Tryz.ntmps57
  go_wp2
  go_ret
  exact ⟨rfl, rfl⟩
set_option maxRecDepth 100000 in
/-- A map gone over stands where walks' objects stand. -/
theorem RngL_walks {P : Program} {kt : Nat} {w w' : World} {b r : Nat} {l todo : List (Int × Th)} (h : RngL P kt thE w b r l todo) (k : KeepsWalks w w') : RngL P kt thE w' b r l todo ∧ w'.rangeLeft b r = w.rangeLeft b r := by
  have e1 : w'.heap[b]? = w.heap[b]? ∧ w'.heap[r]? = w.heap[r]? := by
    obtain ⟨_, _, _, _, D, left, cnt, ⟨es, clock, since, seen, c0, k1, k2, k3, k4, k5, k6⟩, _⟩ := h
    exact ⟨(k.same b _ k1 rfl).trans k1.symm, (k.same r _ k5 rfl).trans k5.symm⟩
  exact ⟨h.kept e1.1 e1.2, rangeLeft_kept e1.1 e1.2⟩
set_option maxRecDepth 100000 in
theorem RngL_iter {P : Program} {kt : Nat} {w : World} {b r : Nat} {l todo : List (Int × Th)} (h : RngL P kt thE w b r l todo) : ∃ o : Obj, w.heap[r]? = some o ∧ o.isWalk = true := by
  obtain ⟨_, _, _, _, D, left, cnt, h, _⟩ := h
  exact h.iter_walk
set_option maxRecDepth 100000 in
theorem perm_cut {l : List (Int × Th)} (hn : (l.map (·.1)).Nodup) {s : Int} {x : Th} (h : (s, x) ∈ l) : (s :: (cut l s).map (·.1)).Perm (l.map (·.1)) := by
  induction l with
  | nil => cases h
  | cons y l ih =>
    simp only [List.map_cons, List.nodup_cons] at hn
    rcases List.mem_cons.1 h with e | h
    · subst e
      have e1 : cut ((s, x) :: l) s = l := by
        unfold cut
        rw [List.filter_cons_of_neg (by simp)]
        refine List.filter_eq_self.2 fun z hz => ?_
        have : z.1 ≠ s := fun e => hn.1 (List.mem_map.2 ⟨z, hz, e⟩)
        simpa using this
      rw [e1]
      exact List.Perm.refl _
    · have hne : y.1 ≠ s := fun e => hn.1 (e ▸ List.mem_map.2 ⟨_, h, rfl⟩)
      have e1 : cut (y :: l) s = y :: cut l s := by unfold cut; rw [List.filter_cons_of_pos (by simp [hne])]
      rw [e1, List.map_cons, List.map_cons]
      exact (List.Perm.swap _ _ _).trans ((ih hn.2 h).cons _)
set_option maxHeartbeats 4000000 in
set_option maxRecDepth 100000 in
theorem keysU_in {b : Nat} {l : List (Int × Th)} (bx m : Nat) (w0 : World) (h : MapL Tryz.prog 49 thE w0 b l) (hb : w0.cell? ⟨bx, 0, none⟩ = some (.map (some b))) :
    SeqStopsK Fence.wide m Tryz.prog 85 #[.pointer (some ⟨bx, 0, none⟩)] (fun x : U64 => #[.int .u64 x.1]) KeepsWalks (fun xs => (xs.map (·.1)).Perm (l.map (·.1))) (fun _ => True) l.length w0 := by
  intro ll J Jx W hW hJ hJx hY h0
  refine callsIn_of_wp Tryz.func85 rfl trivial ?_ rfl
  simp only [Tryz.ntmps85, List.size_toArray, List.length_cons, List.length_nil, Nat.reduceAdd, Nat.reduceSub, Array.replicate_succ, Array.replicate_zero, List.push_toArray, List.append_toArray, List.nil_append, List.cons_append]
  have hbW : W.cell? ⟨bx, 0, none⟩ = some (.map (some b)) := (hW.cell (p := ⟨bx, 0, none⟩) (cell_lt hb)).trans hb
  have hM := h.below hW
  obtain ⟨w1, hrange, hr1, hb1, hs1⟩ := hM.range u64Key thMap
  have HY := hide hY
  have HJ := hide hJ
  have H0 := hide (And.intro hr1 (hJ _ _ _ none h0 (grown_of hb1) (fun r e => by cases e)))
  clear hY hJ hJx hW h hb hM hr1 hb1 hs1 h0
  gi_wp2_with fail
  gi_loopw [3] (fun _ wr => ∃ (todo : List (Int × Th)) (pre : List U64), Hid (RngL Tryz.prog 49 thE wr b W.heap.size l todo ∧ (pre.map (·.1) ++ todo.map (·.1)).Perm (l.map (·.1)) ∧ J pre wr)) (fun _ wr => wr.rangeLeft b W.heap.size)
  case atStart => exact ⟨l, [], H0.out.1, by simp, H0.out.2⟩
  case round =>
    obtain ⟨todo, pre, HP⟩ := hrel
    clear H0
    rcases HP.out.1.next u64Key 0 with ⟨rfl, hn⟩ | ⟨s, x, w2, hmem, hsz, hn, hr2, hgr2, hz2, hen, hless⟩
    · gi_wp2_with fail
      go_end0
      exact ⟨⟨_, rfl⟩, .inl ⟨pre, by simpa using HP.out.2.1, HP.out.2.2⟩⟩
    · obtain ⟨xi, xp, xn, xd, xg, xz⟩ := x
      have hv : thE.v ⟨xi, xp, xn, xd, xg, xz⟩ = .agg #[.int .u64 xi, .int .u64 xp, .string xn, .bool xd, .string xg, .int .i64 xz] := rfl
      rw [hv] at hn hen
      have hJ2 : J pre w2 := HJ.out _ _ _ (some W.heap.size) HP.out.2.2 hgr2 (fun r e => by cases e; exact ⟨Nat.le_refl _, RngL_iter HP.out.1⟩)
      have hpc := perm_cut HP.out.1.1 hmem
      have hlen : pre.length < l.length := by
        have e1 := HP.out.2.1.length_eq
        have e2 := hpc.length_eq
        simp at e1 e2
        omega
      obtain ⟨fn, tmps, assign, body, hy, hR⟩ := HY.out pre ⟨s, hsz⟩ w2 hJ2 hlen
      have HP2 := hide (And.intro hr2 (And.intro hless (And.intro HP.out.2.1 hpc)))
      clear hr2 hgr2 hz2 hmem hv hless hJ2 hpc hlen HP
      gi_wp2_with fail
      refine ⟨fun h => (by cases h), hR.mono ?_⟩
      rintro e W3 (⟨rfl, hJ3, hk3⟩ | ⟨rfl, hJx3⟩)
      · have HW := hide (RngL_walks HP2.out.1 hk3)
        have HJ3 := hide hJ3
        clear hJ3 hk3 hR hy
        gi_wp2_with fail
        go_roundw
        case rel =>
          refine ⟨cut todo s, pre ++ [⟨s, hsz⟩], HW.out.1, ?_, HJ3.out⟩
          rw [List.map_append, List.append_assoc]
          exact ((HP2.out.2.2.2).append_left _).trans HP2.out.2.2.1
        case measure =>
          rw [HW.out.2]
          exact HP2.out.2.1
      · clear hR hy
        gi_wp2_with fail
        refine bodyPost_ret (results_none rfl _ _ _) rfl ?_
        exact ⟨⟨_, rfl⟩, .inr ⟨pre ++ [⟨s, hsz⟩], trivial, hJx3⟩⟩
set_option maxRecDepth 100000 in
set_option maxHeartbeats 1000000 in
theorem keysU_none (bx m : Nat) (w0 : World) (hb : w0.cell? ⟨bx, 0, none⟩ = some (.map none)) :
    SeqStopsK Fence.wide m Tryz.prog 85 #[.pointer (some ⟨bx, 0, none⟩)] (fun x : U64 => #[.int .u64 x.1]) KeepsWalks (fun xs => (xs.map (·.1)).Perm []) (fun _ => True) 0 w0 := by
  intro ll J Jx W hW hJ hJx hY h0
  refine callsIn_of_wp Tryz.func85 rfl trivial ?_ rfl
  simp only [Tryz.ntmps85, List.size_toArray, List.length_cons, List.length_nil, Nat.reduceAdd, Nat.reduceSub, Array.replicate_succ, Array.replicate_zero, List.push_toArray, List.append_toArray, List.nil_append, List.cons_append]
  have hbW : W.cell? ⟨bx, 0, none⟩ = some (.map none) := (hW.cell (p := ⟨bx, 0, none⟩) (cell_lt hb)).trans hb
  have hrg := run_range_nilMap (P := Tryz.prog) W 107 49 79 thMap
  have hnx : ∀ ty, (Instr.next (.pointer (some ⟨W.heap.size, 0, none⟩)) false ty).run Tryz.prog (W.alloc (.mapIter none 0 #[] 0)) = _ := fun ty => run_next_nilMap _ ty 0 0 #[]
  have H0 := hide (hJ [] W _ none h0 (World.grownBy_alloc W (.mapIter none 0 #[] 0) none) (fun r e => by cases e))
  clear hY hJ hJx hW hb h0
  gi_wp2_with fail
  refine wpIn_loop_rounds 1 ?_
  rw [roundsIn_succ]
  gi_wp2_with fail
  go_end0
  exact ⟨⟨_, rfl⟩, .inl ⟨[], by simp, H0.out⟩⟩
set_option maxRecDepth 100000 in
/-- The keys of a map, or of none. -/
theorem keysU_at {mb : Option Nat} {t : Ths} (bx m : Nat) (w0 : World) (h : MapAt Tryz.prog 49 w0 mb t) (hb : w0.cell? ⟨bx, 0, none⟩ = some (.map mb)) :
    SeqStopsK Fence.wide m Tryz.prog 85 #[.pointer (some ⟨bx, 0, none⟩)] (fun x : U64 => #[.int .u64 x.1]) KeepsWalks (fun xs => (xs.map (·.1)).Perm (t.map (·.id))) (fun _ => True) t.length w0 := by
  rcases h with ⟨rfl, rfl⟩ | ⟨b, rfl, h⟩
  · exact keysU_none bx m w0 hb
  · have := keysU_in bx m w0 h hb
    rw [List.length_map, List.map_map] at this
    exact this
end Go.Proofs.YtnbhchdaobimmaaGreatDoor
/- Contracts: what an iterator over a map's keys gives, gathered; sorted. -/
namespace Go.Proofs.YtnbhchdaobimmaaGreatDoor
open Go.RowKit Go.Opn Go.Stamp Go.MapInt Go.Mov Go.Shelf Go.Rws Go.Srt
attribute [local go_sem] Oper.semAt_some
set_option maxRecDepth 100000 in
theorem undU : Tryz.prog.underlying 125 = some (.slice 49) := Tryz.underlying125
set_option maxHeartbeats 4000000 in
set_option maxRecDepth 100000 in
theorem appendU_any {mb : Option Nat} {t : Ths} (bx : Nat) (w : World) (h : MapAt Tryz.prog 49 w mb t) (hb : w.cell? ⟨bx, 0, none⟩ = some (.map mb)) (hl : t.length ≤ 100000) :
    Calls Tryz.prog 112 #[.slice none 0 0, .func (.func 85) #[] #[.pointer (some ⟨bx, 0, none⟩)]] w fun e w' => ∃ (v : Value) (xs : List Int), e = .returned v ∧ xs.Perm (t.map (·.id)) ∧ OwnR csU 1 49 w v xs w' := by
  refine (callsIn_wide (n := 9)).1 ?_
  refine callsIn_of_wp_marks Tryz.func112 rfl trivial ?_ rfl
  simp only [Tryz.ntmps112, List.size_toArray, List.length_cons, List.length_nil, Nat.reduceAdd, Nat.reduceSub, Array.replicate_succ, Array.replicate_zero, List.push_toArray, List.append_toArray, List.nil_append, List.cons_append]
  obtain ⟨ti, hti, htz, hts, htb⟩ := info_of infoU64
  have HTI := hide (And.intro hti (And.intro htz (And.intro hts htb)))
  have HM := hide h
  have HB := hide hb
  clear h hb hti htz hts htb
  gi_wp2_with fail
  obtain ⟨W0, hW0⟩ : ∃ W0, w.alloc (.cells #[.slice none 0 0] 125) = W0 := ⟨_, rfl⟩
  have kB : Below w.heap.size w W0 := by rw [← hW0]; exact (Below.refl _ w).alloc (Nat.le_refl _) _
  have b0 : Boxed W0 w.heap.size 125 (.slice none 0 0) := by rw [← hW0]; exact Boxed.new w _ _
  have hs0 : W0.heap.size = w.heap.size + 1 := by rw [← hW0]; simp
  rw [hW0]
  clear hW0
  refine wpIn_rangeFunc_ownF rfl (by decide) (gf := 85) (lb := #[.pointer (some ⟨bx, 0, none⟩)]) rfl trivial (enters_of Tryz.func85 (by kernel_rfl) rfl)
    (keysU_at bx 8 W0 (HM.out.below kB) ((kB.cell (p := ⟨bx, 0, none⟩) (cell_lt HB.out)).trans HB.out)) (fun h k => h.trans k) walksK_b (Below.refl _ _) (fun _ => rfl)
    (fun pre W => (∃ v, Boxed W w.heap.size 125 v ∧ W.ownsRow w.heap.size 49 1 v (List.length pre) ((pre.map (·.1)).flatMap csU) ∧ True) ∧ Below w.heap.size w W)
    (fun _ _ _ => False)
    (OwnFrom.and (Own.from (holdsRow_own w.heap.size w.heap.size 125 49 1 (fun pre : List U64 => pre.length) (fun pre => (pre.map (·.1)).flatMap csU) (fun _ _ => True)) _) (ownFrom_below (Nat.le_refl _) (by omega)))
    (fun c => fun _ _ _ _ h => h.elim)
    ⟨⟨_, b0, ⟨rfl, .inl ⟨rfl, rfl⟩⟩, trivial⟩, kB⟩
    (fun x => { tmps := #[.slice none 0 0, .func (.func 85) #[] #[.pointer (some ⟨bx, 0, none⟩)], .pointer (some ⟨w.heap.size, 0, none⟩), undef, .slice none 0 0, .int .u64 x.1, .func (.func 85) #[] #[.pointer (some ⟨bx, 0, none⟩)], .int .u64 x.1, undef, undef, undef, undef, undef], defers := [] }) ?assign ?body ?done ?stop
  case assign =>
    intro l x W K hK
    gi_wp2
    exact hK
  case body =>
    rintro ll pre x W ⟨⟨v, hv, hrow, _⟩, hB⟩ hlen
    obtain ⟨a, c, rfl⟩ : ∃ a c, v = .slice a pre.length c := by
      rcases hrow.2 with ⟨rfl, h0⟩ | ⟨g, cap, cur, rfl, _⟩
      · exact ⟨none, 0, by rw [h0]⟩
      · exact ⟨_, _, rfl⟩
    have hc := hv.cell
    have hf := hv.frozen
    have HV := hide (And.intro hv (And.intro hrow hB))
    clear hv hrow hB
    gi_wp2_with (first
      | (gi_at_builtin
         refine wpListIn_append_own _ rfl _ _ 125 rfl w.heap.size 49 ti (.int .u64 0) 1 8 undU HTI.out.1 HTI.out.2.1 HTI.out.2.2.1 HTI.out.2.2.2 rfl (by decide) _ _ _ rfl (HV.out.2.1.alloc _) ⟨W.heap.size, 0, none⟩ 1 1 [.int .u64 x.1] rfl rfl (row_news W [.int .u64 x.1] 49) (by simp [Value.oneCell']) (by unfold maxLen; omega) (by omega) (by have := HV.out.2.2.size; simp; omega) ?_
         intro v' w3 hown' hg3 _
         obtain ⟨g', cap', rfl⟩ := ownsRow_succ hown'
         have hX := HV.out.1.appended (by decide) HV.out.2.1 HV.out.2.2.size (Nat.le_refl _) hown' hg3
         have hc3 := hX.1.cell
         have hf3 := hX.1.frozen
         have HX := hide hX
         clear hX hown' hg3))
    obtain ⟨_, x2, x3, x4, x5⟩ := HX.out
    exact ⟨x4, x4.walks, ⟨_, x2, by simpa [csU] using x3, trivial⟩, HV.out.2.2.trans x5⟩
  case done =>
    rintro D ys W hD hys ⟨⟨v, hv, hrow, _⟩, hB⟩ hK
    have hc := hv.cell
    have HV := hide (And.intro hrow (And.intro hB hys))
    clear hv hrow hB hys
    gi_wp2
    refine ⟨by simp, .inl ⟨_, _, rfl, run_takeDeferred hK, ?_⟩⟩
    refine ⟨_, results_tmp rfl _ _ _, v, rfl, ys.map (·.1), HV.out.2.2, ?_, ?_⟩
    · have := ownsRow_putObj HV.out.1 (.deferred none) hK rfl
      rw [List.length_map]
      exact this
    · exact HV.out.2.1.trans (belowK_b (w := w) (Nat.le_refl _) _ D _ _ (by omega) hK rfl rfl)
  case stop => exact fun D c pre W hD _ h _ => h.elim
set_option maxRecDepth 100000 in
theorem collectU_any {mb : Option Nat} {t : Ths} (bx : Nat) (w : World) (h : MapAt Tryz.prog 49 w mb t) (hb : w.cell? ⟨bx, 0, none⟩ = some (.map mb)) (hl : t.length ≤ 100000) :
    Calls Tryz.prog 83 #[.func (.func 85) #[] #[.pointer (some ⟨bx, 0, none⟩)]] w fun e w' => ∃ (v : Value) (xs : List Int), e = .returned v ∧ xs.Perm (t.map (·.id)) ∧ OwnR csU 1 49 w v xs w' := by
  have H := hide (appendU_any bx w h hb hl)
  clear h hb
  go_enter Tryz.func83, Tryz.ntmps83
  go_wp2_with (go_at_call 112; refine H.out.mono ?_; rintro e w1 ⟨v, xs, rfl, hp, ho⟩; have HO := hide (And.intro hp ho); clear H hp ho)
  go_ret
  exact ⟨v, xs, rfl, HO.out.1, HO.out.2⟩
set_option maxRecDepth 100000 in
/-- The keys of a map, sorted, in a row of one's own. -/
theorem sortedU_any {mb : Option Nat} {t : Ths} (bx : Nat) (w : World) (h : MapAt Tryz.prog 49 w mb t) (hb : w.cell? ⟨bx, 0, none⟩ = some (.map mb)) (hl : t.length < 256) (S : List Int) (hS : S.Perm (t.map (·.id))) (hP : S.Pairwise (· ≤ ·)) :
    Calls Tryz.prog 56 #[.func (.func 85) #[] #[.pointer (some ⟨bx, 0, none⟩)]] w fun e w' => ∃ v : Value, e = .returned v ∧ OwnR csU 1 49 w v S w' := by
  have H := hide (collectU_any bx w h hb (by omega))
  have HS := hide (fun (v : Value) (xs : List Int) (w1 : World) (h1 : OwnR csU 1 49 w v xs w1) (h2 : S.Perm xs) (h3 : xs.length < 256) => sort_own w1 h1 h2 hP h3)
  have HL := hide (And.intro hS hl)
  clear h hb hl hS hP
  go_enter Tryz.func56, Tryz.ntmps56
  go_wp2_with (first
    | (go_at_call 83; refine H.out.mono ?_; rintro e w1 ⟨v, xs, rfl, hp, ho⟩; have HO := hide (And.intro hp ho); clear H hp ho)
    | (go_at_call 84; refine (HS.out _ _ _ HO.out.2 (HL.out.1.trans HO.out.1.symm) (by rw [HO.out.1.length_eq, List.length_map]; exact HL.out.2)).mono ?_; rintro e w2 ⟨⟨v2, rfl⟩, ho, _, _⟩; have HQ := hide ho; clear HS ho))
  go_ret
  exact ⟨v, rfl, HQ.out⟩
end Go.Proofs.YtnbhchdaobimmaaGreatDoor
/- Contract: all things, in the order of their numbers. -/
namespace Go.Proofs.YtnbhchdaobimmaaGreatDoor
open Go.RowKit Go.Opn Go.Stamp Go.MapInt Go.Mov Go.Shelf Go.Rws Go.Srt
attribute [local go_sem] Oper.semAt_some
set_option maxRecDepth 100000 in
theorem undTs : Tryz.prog.underlying 80 = some (.slice 79) := Tryz.underlying80
set_option maxRecDepth 100000 in
theorem infoThs : (Tryz.prog.info? 79).map (fun i => (i.zero, i.size, i.bytes)) = some (some Th.zero.v, 6, 64) := by kernel_rfl
set_option maxRecDepth 100000 in
theorem ids_le {t : Ths} (h : Rises t) : (t.map (·.id)).Pairwise (· ≤ ·) := List.pairwise_map.2 (h.imp fun h => Int.le_of_lt h)
/-- An iterator over just these things. -/
def AllAt (w0 : World) (t : Ths) (bx : Nat) (w : World) : Prop :=
  ∃ (a : Option Addr) (c g : Nat), w0.heap.size ≤ bx ∧ w.cell? ⟨bx, 0, none⟩ = some (.slice a t.length c) ∧ (∀ x, a = some x → x.block = g) ∧ w0.heap.size ≤ g ∧ g < w.heap.size ∧ TsAt w (.slice a t.length c) t ∧ Below w0.heap.size w0 w
set_option maxHeartbeats 4000000 in
set_option maxRecDepth 100000 in
theorem all_any {b : Nat} {mb : Option Nat} {t : Ths} (w : World) (h : ThsAt Tryz.prog 49 b mb t w) (hr : Rises t) (hf : ∀ x ∈ t, x.Fits) (hl : t.length < 256) :
    Calls Tryz.prog 24 #[.pointer (some ⟨b, 0, none⟩)] w fun e w' => ∃ bx, e = .returned (.func (.func 86) #[] #[.pointer (some ⟨bx, 0, none⟩)]) ∧ AllAt w t bx w' := by
  have c0 := h.cell
  have HK := hide (keysU_any mb w)
  obtain ⟨W1, hW1⟩ : ∃ W1, w.alloc (.cells #[.map mb] 107) = W1 := ⟨_, rfl⟩
  have k1 : Below w.heap.size w W1 := by rw [← hW1]; exact (Below.refl _ w).alloc (Nat.le_refl _) _
  have hb1 : W1.cell? ⟨w.heap.size, 0, none⟩ = some (.map mb) := by rw [← hW1]; exact (cell_of_row _ _ _ _ _ _ (heap_alloc_new w _)).trans rfl
  have HS := hide (sortedU_any w.heap.size W1 (h.map.below k1) hb1 hl (t.map (·.id)) (List.Perm.refl _) (ids_le hr))
  rw [hW1] at HK
  have HT := hide (h.below k1)
  have HF := hide (And.intro hr hf)
  have HB := hide k1
  have HN := hide h.lt
  clear h hr hf k1 hb1
  go_enter Tryz.func24, Tryz.ntmps24
  go_upto_region 4 with (first
    | (go_at_call 57; refine HK.out.mono ?_; rintro e w1 ⟨rfl, hw1⟩; subst hw1; clear HK)
    | (go_at_call 56; refine HS.out.mono ?_; rintro e w2 ⟨v, rfl, ho⟩; obtain ⟨va, vc, rfl⟩ := ho.form; have HO := hide ho; clear HS ho))
  obtain ⟨N, hN⟩ : ∃ N, N = t.length := ⟨_, rfl⟩
  rw [List.length_map, ← hN] at HO
  rw [← hN] at hl
  try simp only [← hN]
  have HN2 := hide hN
  clear hN hW1
  have hNI : (N : Int) < 256 := by omega
  go_wp2_with fail
  go_loopw [3, 15] (fun v3 v15 wr => ∃ (k : Nat) (a : Option Addr) (c : Nat), v15 = .int .i64 k ∧ k ≤ N ∧ v3 = .slice a k c ∧ Hid (OwnR Th.cs 6 79 w2 (.slice a k c) (t.take k) wr)) (fun _ v15 _ => N - (intOf v15).toNat)
  case atStart => exact ⟨0, none, 0, rfl, Nat.zero_le _, rfl, ⟨⟨rfl, .inl ⟨rfl, rfl⟩⟩, Below.refl _ _⟩⟩
  case round =>
    obtain ⟨k, a, c, rfl, hk, rfl, HR⟩ := hrel
    have hB2 : Below w1.heap.size w1 wr := HO.out.below.trans (HR.out.below.mono HO.out.below.size)
    have hT := HT.out.below hB2
    have c1 := hT.cell
    by_cases hkN : k < N
    · have hkI : (k : Int) < N := by omega
      have hk0 : (0 : Int) ≤ k := by omega
      obtain ⟨x, hx⟩ : ∃ x, t[k]? = some x := ⟨_, List.getElem?_eq_getElem (by rw [← HN2.out]; exact hkN)⟩
      have hxm := List.mem_of_getElem? hx
      have hR0 := (HO.out.rows csU_len).below HR.out.below
      obtain ⟨g, off, rfl, hnn, hcap, hgl, hrg⟩ := hR0.at (fun e => by have := congrArg List.length e; simp [← HN2.out] at this; omega)
      have hcell := hrg k x.id (by rw [List.getElem?_map, hx]; rfl) 0 _ rfl
      rw [Nat.mul_one, Nat.add_zero] at hcell
      have hcI : (N : Int) ≤ vc := by rw [List.length_map, ← HN2.out] at hcap; omega
      have hlk := look_one hT x.id (HF.out.2 x hxm).id
      rw [look_of_mem HF.out.1 hxm] at hlk
      have hv : ((some x).getD Th.zero).v = .agg #[.int .u64 x.id, .int .u64 x.par, .string x.name, .bool x.dir, .string x.dg, .int .i64 x.size] := rfl
      rw [hv] at hlk
      have hmin : (t.take k).length = k := by rw [List.length_take, ← HN2.out]; omega
      have HMIN := hide hmin
      clear hmin
      have HX := hide hx
      clear hx hxm hR0 hcap hgl hrg hT hB2 hv hnn
      go_wp2_with (at_builtin; refine OwnR.append HR.out x Th.cs_length (by intro u hu; simp [Th.cs] at hu; rcases hu with rfl | rfl | rfl | rfl | rfl | rfl <;> rfl) (by decide) infoThs rfl (by rw [List.length_take]; omega) (by decide) rfl _ _ 80 undTs rfl rfl rfl ?_; rw [HMIN.out]; intro a1 c1 w3 hO; have HO3 := hide hO; clear hO)
      go_roundw
      case rel =>
        refine ⟨k + 1, a1, c1, by simp, by omega, rfl, ?_⟩
        rw [List.take_add_one, HX.out]
        exact HO3.out
      case measure => simp [intOf]; omega
    · obtain rfl : k = N := by omega
      have hkI : ¬ (k : Int) < k := by omega
      have e1 : t.take k = t := by rw [HN2.out, List.take_length]
      rw [e1] at HR
      have HV := hide (values_any a k c wr)
      have HB3 := hide (HB.out.trans (hB2.mono HB.out.size))
      have hs2 : w.heap.size ≤ w2.heap.size := Nat.le_trans HB.out.size HO.out.below.size
      clear e1 hT hB2
      go_wp2_with (go_at_call 58; refine HV.out.mono ?_; rintro e w4 ⟨rfl, hw4⟩; have HW4 := hide hw4; clear HV hw4)
      go_ret
      refine ⟨wr.heap.size, rfl, ?_⟩
      rw [HW4.out]
      have kk := (Below.refl wr.heap.size wr).alloc (Nat.le_refl _) (.cells #[.slice a k c] 80)
      rcases HR.out.own.2 with ⟨h1, h2⟩ | ⟨g, cap, cur, h1, h2, h3, _⟩
      · simp only [Value.slice.injEq] at h1
        obtain ⟨rfl, _, rfl⟩ := h1
        refine ⟨none, 0, wr.heap.size, Nat.le_trans hs2 HR.out.below.size, by rw [← HN2.out]; exact (cell_of_row _ _ _ _ _ _ (heap_alloc_new wr _)).trans rfl, (fun x e => by cases e), HB3.out.size, by simp, by rw [← HN2.out]; exact (HR.out.rows Th.cs_length).below kk, HB3.out.trans (kk.mono HB3.out.size)⟩
      · simp only [Value.slice.injEq] at h1
        obtain ⟨rfl, _, rfl⟩ := h1
        have hg : g < wr.heap.size := (Array.getElem?_eq_some_iff.1 h3).1
        refine ⟨_, c, g, Nat.le_trans hs2 HR.out.below.size, by rw [← HN2.out]; exact (cell_of_row _ _ _ _ _ _ (heap_alloc_new wr _)).trans rfl, (fun x e => by cases e; rfl), Nat.le_trans hs2 h2, by simp; omega, by rw [← HN2.out]; exact (HR.out.rows Th.cs_length).below kk, HB3.out.trans (kk.mono HB3.out.size)⟩
end Go.Proofs.YtnbhchdaobimmaaGreatDoor
