/- Contract: what counts is taken. -/
import Derived.Test.YtoineobjmllicaaGreatDoorWalLog
import Derived.Test.YtoineobjmllicaaGreatDoorQuietAll
namespace Go.Wal
open Go.RowKit Go.Dk
/-- Segments are taken from a number on: as many as there is fuel. -/
def run (fs : List AF) : Nat → Nat → Lg → Lg
  | 0, _, l => l
  | k + 1, n, l => match readN fs n with
    | none => l
    | some s => match head s with
      | none => l
      | some _ => if whole s < s.length then ⟨l.most, l.first, n, whole s, l.recs ++ body s⟩ else run fs k (n + 1) ⟨l.most, l.first, n, whole s, l.recs ++ body s⟩
def gatherOf (fs : List AF) (most : Nat) : Lg := if firstOf fs = 0 then ⟨most, 0, 0, 0, []⟩ else run fs 1000002 (firstOf fs) ⟨most, firstOf fs, 0, 0, []⟩
theorem run_none {fs : List AF} {k n : Nat} {l : Lg} (h : readN fs n = none) : run fs (k + 1) n l = l := by unfold run; rw [h]
theorem run_no {fs : List AF} {k n : Nat} {l : Lg} {s : Bs} (h : readN fs n = some s) (hh : head s = none) : run fs (k + 1) n l = l := by unfold run; rw [h]; simp only; rw [hh]
theorem run_end {fs : List AF} {k n : Nat} {l : Lg} {s : Bs} {b : Bool} (h : readN fs n = some s) (hh : head s = some b) (hw : whole s < s.length) : run fs (k + 1) n l = ⟨l.most, l.first, n, whole s, l.recs ++ body s⟩ := by
  unfold run; rw [h]; simp only; rw [hh]; simp only; rw [if_pos hw]
theorem run_on {fs : List AF} {k n : Nat} {l : Lg} {s : Bs} {b : Bool} (h : readN fs n = some s) (hh : head s = some b) (hw : ¬ whole s < s.length) : run fs (k + 1) n l = run fs k (n + 1) ⟨l.most, l.first, n, whole s, l.recs ++ body s⟩ := by
  conv => lhs; unfold run
  rw [h]; simp only; rw [hh]; simp only; rw [if_neg hw]
theorem run_recs {fs : List AF} : ∀ (k n : Nat) (l : Lg), l.recs.length ≤ (run fs k n l).recs.length
  | 0, _, _ => Nat.le_refl _
  | k + 1, n, l => by
    cases h : readN fs n with
    | none => rw [run_none h]; exact Nat.le_refl _
    | some s =>
      cases hh : head s with
      | none => rw [run_no h hh]; exact Nat.le_refl _
      | some b =>
        by_cases hw : whole s < s.length
        · rw [run_end h hh hw]; simp
        · rw [run_on h hh hw]
          refine Nat.le_trans ?_ (run_recs k (n + 1) _)
          simp
/-- Numbers are small. -/
def Few (fs : List AF) : Prop := ∀ f ∈ fs, numOf f.name ≤ 1000000
theorem Few.read {fs : List AF} (h : Few fs) {n : Nat} {s : Bs} (hn : 1 ≤ n) (h2 : n < 9223372036854775808) (hr : readN fs n = some s) : n ≤ 1000000 := by
  unfold readN at hr
  cases hk : seek AF.name (seg n) fs with
  | none => rw [hk] at hr; cases hr
  | some f =>
    obtain ⟨h3, h4⟩ := seek_some hk
    have := h f h3
    rw [h4, numOf_seg n hn h2] at this
    exact this
theorem firstOf_mem (fs : List AF) : firstOf fs = 0 ∨ firstOf fs ∈ nums fs := by
  unfold firstOf
  cases h : (nums fs).find? (isB fs) with
  | none => exact .inl rfl
  | some n => exact .inr (List.mem_of_find?_eq_some h)
theorem Few.first {fs : List AF} (h : Few fs) : firstOf fs ≤ 1000000 := by
  rcases firstOf_mem fs with e | e
  · rw [e]; exact Nat.zero_le _
  · obtain ⟨s, hs⟩ := nums_read e
    obtain ⟨h0, f, hf, hn⟩ := nums_mem e
    have hlt : firstOf fs < 9223372036854775808 := by
      have := ups_lt fs (firstOf fs) (by unfold nums at e; exact List.mem_reverse.1 e)
      exact this
    exact h.read h0 hlt hs
theorem readN_bytes {fs : List AF} {n : Nat} {s : Bs} (hr : readN fs n = some s) (hs : ∀ f ∈ fs, f.bytes.length ≤ 1000000) : s.length ≤ 1000000 := by
  unfold readN at hr
  cases hk : seek AF.name (seg n) fs with
  | none => rw [hk] at hr; cases hr
  | some f => rw [hk] at hr; cases hr; exact hs f (seek_some hk).1
end Go.Wal
namespace Go.Proofs.YtoineobjmllicaaGreatDoor
open Go.RowKit Go.Dk Go.Wal
variable {M : Nat → Prop}
set_option maxRecDepth 100000 in
set_option maxHeartbeats 4000000 in
theorem gather_any (base K b d most : Nat) (S : WD) (w0 w : World) (h : DiskAt Tryz.prog M base K d w0 S) (hv : Vars w0) (hL : LogAt TLog w0.heap.size b d ⟨most, 0, 0, 0, []⟩ (.slice none 0 0) w) (hB : Below w0.heap.size w0 w) (hd : S.a.down = false) (hs : ∀ f ∈ S.a.files, f.bytes.length ≤ 1000000) (hf : Few S.a.files) (hr : (gatherOf S.a.files most).recs.length ≤ 1000000) :
    Calls Tryz.prog 37 #[.pointer (some ⟨b, 0, none⟩)] w fun e w' => e = .returned (.int .i64 0) ∧ (∃ rv, LogAt TLog w0.heap.size b d (gatherOf S.a.files most) rv w') ∧ Below w0.heap.size w0 w' := by
  have hfi := hf.first
  have HBG : Hid (Calls Tryz.prog 65 #[.pointer (some ⟨d, 0, none⟩)] w fun e w' => e = .returned (.tuple #[.int .i64 (firstOf S.a.files), .int .i64 0]) ∧ Below w.heap.size w w') := begin_any base K d S w (h.below hB) (Vars.below hv hB) hd hs
  have HG : Hid (gatherOf S.a.files most = if firstOf S.a.files = 0 then ⟨most, 0, 0, 0, []⟩ else run S.a.files 1000002 (firstOf S.a.files) ⟨most, firstOf S.a.files, 0, 0, []⟩) := rfl
  have HX := hide (And.intro h (And.intro hv (And.intro hs hf)))
  have HL := hide (And.intro hL hB)
  clear h hv hL hB hs hf
  generalize gatherOf S.a.files most = R at *
  generalize hF : firstOf S.a.files = F at *
  obtain ⟨q0, q1, q2, q3, q4, q5⟩ := HL.out.1.cells
  go_enter Tryz.func37, Tryz.ntmps37
  go_upto_region 3 with (go_at_call 65; refine HBG.out.mono ?_; rintro e w1 ⟨rfl, k1⟩; have L1 := hide (HL.out.1.below k1); have K1 := hide (HL.out.2.trans (k1.mono HL.out.2.size) : Below w0.heap.size w0 w1); have p3 := L1.out.cells.2.2.2.1; have f3 := L1.out.frozen 3; clear k1)
  have L2 := hide (L1.out.set (l' := ⟨most, F, 0, 0, []⟩) 3 (.int .i64 (F : Int)) rfl rfl)
  have K2 : Hid (Below w0.heap.size w0 (w1.setCell ⟨b, 3, none⟩ (.int .i64 (F : Int)))) := K1.out.setCell (p := ⟨b, 3, none⟩) HL.out.1.ge _
  have e3 := L2.out.cells.2.2.2.1
  obtain ⟨w2, hw2⟩ : ∃ w2, w2 = w1.setCell ⟨b, 3, none⟩ (.int .i64 (F : Int)) := ⟨_, rfl⟩
  rw [← hw2] at L2 K2 e3 ⊢
  clear hw2 HBG HL L1 K1 p3 f3 q0 q1 q2 q3 q4 q5
  by_cases hF0 : F = 0
  · subst hF0
    rw [if_pos rfl] at HG
    go_wp2_with fail
    go_loopw [4] (fun vi wr => vi = .int .i64 0 ∧ w2 = wr) (fun _ _ => 0)
    case atStart => exact ⟨rfl, rfl⟩
    case round =>
      obtain ⟨rfl, rfl⟩ := hrel
      go_wp2_with fail
      go_ret
      exact ⟨rfl, ⟨_, by rw [HG.out]; exact L2.out⟩, K2.out⟩
  · rw [if_neg hF0] at HG
    go_wp2_with fail
    go_loopw [4] (fun vi wr => ∃ (n k : Nat) (l : Lg) (rv : Value), vi = .int .i64 n ∧ 1 ≤ n ∧ n ≤ 1000001 ∧ Hid (1000002 ≤ n + k ∧ run S.a.files k n l = R ∧ LogAt TLog w0.heap.size b d l rv wr ∧ Below w0.heap.size w0 wr)) (fun vi _ => 1000002 - (intOf vi).toNat)
    case atStart => exact ⟨F, 1000002, ⟨most, F, 0, 0, []⟩, .slice none 0 0, rfl, by omega, by omega, by omega, HG.out.symm, L2.out, K2.out⟩
    case round =>
      obtain ⟨n, k, l, rv, rfl, hn1, hn2, HH⟩ := hrel
      obtain ⟨k, rfl⟩ : ∃ j, k = j + 1 := ⟨k - 1, by have := HH.out.1; omega⟩
      have HFN : Hid (∀ U, Below wr.heap.size wr U → Calls Tryz.prog 51 #[.int .i64 n] U fun e w' => e = .returned (.string ⟨(seg n).toArray⟩) ∧ Below U.heap.size U w') := fun U hU => fileName_any n U (Vars.below (Vars.below HX.out.2.1 HH.out.2.2.2) hU) (by omega)
      have HRD : Hid (∀ U, Below wr.heap.size wr U → Calls Tryz.prog 66 #[.pointer (some ⟨d, 0, none⟩), .string ⟨(seg n).toArray⟩] U fun e w' => e = .returned (match readN S.a.files n with | some s => .tuple #[.string ⟨s.toArray⟩, .int .i64 0] | none => .tuple #[.string ⟨#[]⟩, .int .i64 2]) ∧ Below U.heap.size U w') := fun U hU => (readSeg_any base K d n S U ((HX.out.1.below HH.out.2.2.2).below hU) hd (by omega)).mono fun e w' ⟨he, hw⟩ => ⟨he, hw ▸ Below.refl _ _⟩
      have hdn : decide ((0 : Int) < (n : Int)) = true := decide_eq_true (by omega)
      obtain ⟨c0, -⟩ := HH.out.2.2.1.cells
      have e0 := cell_regrown c0
      clear c0 L2 K2 e3
      cases hrd : readN S.a.files n with
      | none =>
        rw [hrd] at HRD
        go_upto_region 8 with fail
        refine QuietCalls.region (by kernel_rfl) (by kernel_rfl) ?_
        iterate 5 (first | go_big_quiet_step (fail) | quiet_step (fail))
        refine QuietCalls.call1 rfl rfl Tryz.call51 (fun w' hb => HFN.out w' hb) rfl ?_; simp only [Act.put, List.setIfInBounds_toArray, List.set_cons_succ, List.set_cons_zero]
        refine QuietCalls.call2 rfl rfl Tryz.call66 (fun w' hb => HRD.out w' hb) rfl rfl ?_; simp only [Act.put, List.setIfInBounds_toArray, List.set_cons_succ, List.set_cons_zero]
        iterate 5 (first | go_big_quiet_step (fail) | quiet_step (fail))
        refine wpQuiet_nil ?_
        intro w3 k3
        have L3 := hide (HH.out.2.2.1.below k3)
        have K3 : Hid (Below w0.heap.size w0 w3) := HH.out.2.2.2.trans (k3.mono HH.out.2.2.2.size)
        clear k3 e0
        go_wp2_with fail
        go_ret
        exact ⟨rfl, ⟨rv, by rw [← HH.out.2.1, run_none hrd]; exact L3.out⟩, K3.out⟩
      | some s =>
        rw [hrd] at HRD
        have hsl := readN_bytes hrd HX.out.2.2.1
        have hn3 : n ≤ 1000000 := HX.out.2.2.2.read hn1 (by omega) hrd
        cases hh : head s with
        | none =>
          go_upto_region 8 with fail
          refine QuietCalls.region (by kernel_rfl) (by kernel_rfl) ?_
          iterate 5 (first | go_big_quiet_step (fail) | quiet_step (fail))
          refine QuietCalls.call1 rfl rfl Tryz.call51 (fun w' hb => HFN.out w' hb) rfl ?_; simp only [Act.put, List.setIfInBounds_toArray, List.set_cons_succ, List.set_cons_zero]
          refine QuietCalls.call2 rfl rfl Tryz.call66 (fun w' hb => HRD.out w' hb) rfl rfl ?_; simp only [Act.put, List.setIfInBounds_toArray, List.set_cons_succ, List.set_cons_zero]
          iterate 5 (first | go_big_quiet_step (fail) | quiet_step (fail))
          refine wpQuiet_nil ?_
          intro w3 k3
          have L3 := hide (HH.out.2.2.1.below k3)
          have K3 : Hid (Below w0.heap.size w0 w3) := HH.out.2.2.2.trans (k3.mono HH.out.2.2.2.size)
          clear k3 e0
          have HT : Hid (Calls Tryz.prog 67 #[.pointer (some ⟨b, 0, none⟩), .int .i64 n, .string ⟨s.toArray⟩] w3 fun e w' => e = .returned (.bool false) ∧ Below w3.heap.size w3 w') := takeSegment_no b n s w3 hsl hh
          go_wp2_with (go_at_call 67; refine HT.out.mono ?_; rintro e w4 ⟨rfl, k4⟩)
          go_ret
          exact ⟨rfl, ⟨rv, by rw [← HH.out.2.1, run_no hrd hh]; exact L3.out.below k4⟩, K3.out.trans (k4.mono K3.out.size)⟩
        | some bh =>
          go_upto_region 8 with fail
          refine QuietCalls.region (by kernel_rfl) (by kernel_rfl) ?_
          iterate 5 (first | go_big_quiet_step (fail) | quiet_step (fail))
          refine QuietCalls.call1 rfl rfl Tryz.call51 (fun w' hb => HFN.out w' hb) rfl ?_; simp only [Act.put, List.setIfInBounds_toArray, List.set_cons_succ, List.set_cons_zero]
          refine QuietCalls.call2 rfl rfl Tryz.call66 (fun w' hb => HRD.out w' hb) rfl rfl ?_; simp only [Act.put, List.setIfInBounds_toArray, List.set_cons_succ, List.set_cons_zero]
          iterate 5 (first | go_big_quiet_step (fail) | quiet_step (fail))
          refine wpQuiet_nil ?_
          intro w3 k3
          have L3 := hide (HH.out.2.2.1.below k3)
          have K3 : Hid (Below w0.heap.size w0 w3) := HH.out.2.2.2.trans (k3.mono HH.out.2.2.2.size)
          clear k3 e0
          have hrl : l.recs.length ≤ 1000000 := by have := run_recs (fs := S.a.files) (k + 1) n l; rw [HH.out.2.1] at this; omega
          have HT : Hid (Calls Tryz.prog 67 #[.pointer (some ⟨b, 0, none⟩), .int .i64 n, .string ⟨s.toArray⟩] w3 fun e w' => ∃ rv', e = .returned (.bool true) ∧ LogAt TLog w0.heap.size b d ⟨l.most, l.first, n, whole s, l.recs ++ body s⟩ rv' w' ∧ Below w0.heap.size w0 w') :=
            (takeSegment_some w0.heap.size b d n l rv s bh w3 L3.out K3.out.size hsl hrl hh).mono fun e w' ⟨he, rv', h1, h2⟩ => ⟨rv', he, h1, K3.out.trans (Tch.below h2 (fun k hk => by
              rcases hk with rfl | hk
              · exact L3.out.ge
              · exact ownsRow_ge L3.out.recs hk) K3.out.size)⟩
          by_cases hw : whole s < s.length
          · have hdw : decide ((whole s : Int) < (s.length : Int)) = true := decide_eq_true (by omega)
            go_wp2_with (go_at_call 67; refine HT.out.mono ?_; rintro e w4 ⟨rv', rfl, h4, k4⟩; have L4 := hide (And.intro h4 k4); have p5 := h4.cells.2.2.2.2.2; clear h4 k4)
            go_ret
            exact ⟨rfl, ⟨rv', by rw [← HH.out.2.1, run_end hrd hh hw]; exact L4.out.1⟩, L4.out.2⟩
          · have hdw : decide ((whole s : Int) < (s.length : Int)) = false := decide_eq_false (by omega)
            go_wp2_with (go_at_call 67; refine HT.out.mono ?_; rintro e w4 ⟨rv', rfl, h4, k4⟩; have L4 := hide (And.intro h4 k4); have p5 := h4.cells.2.2.2.2.2; clear h4 k4)
            exact ⟨⟨n + 1, k, _, rv', by go_num, by omega, by omega, by have := HH.out.1; omega, by rw [← run_on hrd hh hw]; exact HH.out.2.1, L4.out.1, L4.out.2⟩, by simp [intOf]; omega⟩
end Go.Proofs.YtoineobjmllicaaGreatDoor
