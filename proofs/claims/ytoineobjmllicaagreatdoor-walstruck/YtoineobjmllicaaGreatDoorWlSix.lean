/- Several texts in one: WalGather, WalTrim, WalSweep. -/
import Derived.Test.YtoineobjmllicaaGreatDoorWlSeven
import Derived.Test.YtoineobjmllicaaGreatDoorQuietAll
import Derived.Deep.RegionHeld
/- Contract: what counts is taken. -/
namespace Go.Wal
open Go.RowKit Go.Dk
/-- Segments are taken from a number on: as many as there is fuel. -/
def run (fs : List AF) : Nat → Nat → Lg → Lg
  | 0, _, l => l
  | k + 1, n, l => match readN fs n with
    | none => l
    | some s => match head s with
      | none => l
      | some _ => if whole s < s.length then ⟨l.most, l.first, n, whole s, l.recs ++ body s⟩ else run fs k (n + 1) ⟨l.most, l.first, n, whole s, l.recs ++ body s⟩
def gatherOf (fs : List AF) (most : Nat) : Lg := if firstOf fs = 0 then ⟨most, 0, 0, 0, []⟩ else run fs 1000002 (firstOf fs) ⟨most, firstOf fs, 0, 0, []⟩
theorem run_none {fs : List AF} {k n : Nat} {l : Lg} (h : readN fs n = none) : run fs (k + 1) n l = l := by unfold run; rw [h]
theorem run_no {fs : List AF} {k n : Nat} {l : Lg} {s : Bs} (h : readN fs n = some s) (hh : head s = none) : run fs (k + 1) n l = l := by unfold run; rw [h]; simp only; rw [hh]
theorem run_end {fs : List AF} {k n : Nat} {l : Lg} {s : Bs} {b : Bool} (h : readN fs n = some s) (hh : head s = some b) (hw : whole s < s.length) : run fs (k + 1) n l = ⟨l.most, l.first, n, whole s, l.recs ++ body s⟩ := by
  unfold run; rw [h]; simp only; rw [hh]; simp only; rw [if_pos hw]
theorem run_on {fs : List AF} {k n : Nat} {l : Lg} {s : Bs} {b : Bool} (h : readN fs n = some s) (hh : head s = some b) (hw : ¬ whole s < s.length) : run fs (k + 1) n l = run fs k (n + 1) ⟨l.most, l.first, n, whole s, l.recs ++ body s⟩ := by
  conv => lhs; unfold run
  rw [h]; simp only; rw [hh]; simp only; rw [if_neg hw]
theorem run_recs {fs : List AF} : ∀ (k n : Nat) (l : Lg), l.recs.length ≤ (run fs k n l).recs.length
  | 0, _, _ => Nat.le_refl _
  | k + 1, n, l => by
    cases h : readN fs n with
    | none => rw [run_none h]; exact Nat.le_refl _
    | some s =>
      cases hh : head s with
      | none => rw [run_no h hh]; exact Nat.le_refl _
      | some b =>
        by_cases hw : whole s < s.length
        · rw [run_end h hh hw]; simp
        · rw [run_on h hh hw]
          refine Nat.le_trans ?_ (run_recs k (n + 1) _)
          simp
/-- Numbers are small. -/
def Few (fs : List AF) : Prop := ∀ f ∈ fs, numOf f.name ≤ 1000000
theorem Few.read {fs : List AF} (h : Few fs) {n : Nat} {s : Bs} (hn : 1 ≤ n) (h2 : n < 9223372036854775808) (hr : readN fs n = some s) : n ≤ 1000000 := by
  unfold readN at hr
  cases hk : seek AF.name (seg n) fs with
  | none => rw [hk] at hr; cases hr
  | some f =>
    obtain ⟨h3, h4⟩ := seek_some hk
    have := h f h3
    rw [h4, numOf_seg n hn h2] at this
    exact this
theorem firstOf_mem (fs : List AF) : firstOf fs = 0 ∨ firstOf fs ∈ nums fs := by
  unfold firstOf
  cases h : (nums fs).find? (isB fs) with
  | none => exact .inl rfl
  | some n => exact .inr (List.mem_of_find?_eq_some h)
theorem Few.first {fs : List AF} (h : Few fs) : firstOf fs ≤ 1000000 := by
  rcases firstOf_mem fs with e | e
  · rw [e]; exact Nat.zero_le _
  · obtain ⟨s, hs⟩ := nums_read e
    obtain ⟨h0, f, hf, hn⟩ := nums_mem e
    have hlt : firstOf fs < 9223372036854775808 := by
      have := ups_lt fs (firstOf fs) (by unfold nums at e; exact List.mem_reverse.1 e)
      exact this
    exact h.read h0 hlt hs
theorem readN_bytes {fs : List AF} {n : Nat} {s : Bs} (hr : readN fs n = some s) (hs : ∀ f ∈ fs, f.bytes.length ≤ 1000000) : s.length ≤ 1000000 := by
  unfold readN at hr
  cases hk : seek AF.name (seg n) fs with
  | none => rw [hk] at hr; cases hr
  | some f => rw [hk] at hr; cases hr; exact hs f (seek_some hk).1
end Go.Wal
namespace Go.Proofs.YtoineobjmllicaaGreatDoor
open Go.RowKit Go.Dk Go.Wal
variable {M : Nat → Prop}
set_option maxRecDepth 100000 in
set_option maxHeartbeats 4000000 in
theorem gather_any (base K b d most : Nat) (S : WD) (w0 w : World) (h : DiskAt Tryz.prog M base K d w0 S) (hv : Vars w0) (hL : LogAt TLog w0.heap.size b d ⟨most, 0, 0, 0, []⟩ (.slice none 0 0) w) (hB : Below w0.heap.size w0 w) (hd : S.a.down = false) (hs : ∀ f ∈ S.a.files, f.bytes.length ≤ 1000000) (hf : Few S.a.files) (hr : (gatherOf S.a.files most).recs.length ≤ 1000000) :
    Calls Tryz.prog 37 #[.pointer (some ⟨b, 0, none⟩)] w fun e w' => e = .returned (.int .i64 0) ∧ (∃ rv, LogAt TLog w0.heap.size b d (gatherOf S.a.files most) rv w') ∧ Below w0.heap.size w0 w' := by
  have hfi := hf.first
  have HBG : Hid (Calls Tryz.prog 65 #[.pointer (some ⟨d, 0, none⟩)] w fun e w' => e = .returned (.tuple #[.int .i64 (firstOf S.a.files), .int .i64 0]) ∧ Below w.heap.size w w') := begin_any base K d S w (h.below hB) (Vars.below hv hB) hd hs
  have HG : Hid (gatherOf S.a.files most = if firstOf S.a.files = 0 then ⟨most, 0, 0, 0, []⟩ else run S.a.files 1000002 (firstOf S.a.files) ⟨most, firstOf S.a.files, 0, 0, []⟩) := rfl
  have HX := hide (And.intro h (And.intro hv (And.intro hs hf)))
  have HL := hide (And.intro hL hB)
  clear h hv hL hB hs hf
  generalize gatherOf S.a.files most = R at *
  generalize hF : firstOf S.a.files = F at *
  obtain ⟨q0, q1, q2, q3, q4, q5⟩ := HL.out.1.cells
  go_enter Tryz.func37, Tryz.ntmps37
  go_upto_region 3 with (go_at_call 65; refine HBG.out.mono ?_; rintro e w1 ⟨rfl, k1⟩; have L1 := hide (HL.out.1.below k1); have K1 := hide (HL.out.2.trans (k1.mono HL.out.2.size) : Below w0.heap.size w0 w1); have p3 := L1.out.cells.2.2.2.1; have f3 := L1.out.frozen 3; clear k1)
  have L2 := hide (L1.out.set (l' := ⟨most, F, 0, 0, []⟩) 3 (.int .i64 (F : Int)) rfl rfl)
  have K2 : Hid (Below w0.heap.size w0 (w1.setCell ⟨b, 3, none⟩ (.int .i64 (F : Int)))) := K1.out.setCell (p := ⟨b, 3, none⟩) HL.out.1.ge _
  have e3 := L2.out.cells.2.2.2.1
  obtain ⟨w2, hw2⟩ : ∃ w2, w2 = w1.setCell ⟨b, 3, none⟩ (.int .i64 (F : Int)) := ⟨_, rfl⟩
  rw [← hw2] at L2 K2 e3 ⊢
  clear hw2 HBG HL L1 K1 p3 f3 q0 q1 q2 q3 q4 q5
  by_cases hF0 : F = 0
  · subst hF0
    rw [if_pos rfl] at HG
    go_wp2_with fail
    go_loopw [4] (fun vi wr => vi = .int .i64 0 ∧ w2 = wr) (fun _ _ => 0)
    case atStart => exact ⟨rfl, rfl⟩
    case round =>
      obtain ⟨rfl, rfl⟩ := hrel
      go_wp2_with fail
      go_ret
      exact ⟨rfl, ⟨_, by rw [HG.out]; exact L2.out⟩, K2.out⟩
  · rw [if_neg hF0] at HG
    go_wp2_with fail
    go_loopw [4] (fun vi wr => ∃ (n k : Nat) (l : Lg) (rv : Value), vi = .int .i64 n ∧ 1 ≤ n ∧ n ≤ 1000001 ∧ Hid (1000002 ≤ n + k ∧ run S.a.files k n l = R ∧ LogAt TLog w0.heap.size b d l rv wr ∧ Below w0.heap.size w0 wr)) (fun vi _ => 1000002 - (intOf vi).toNat)
    case atStart => exact ⟨F, 1000002, ⟨most, F, 0, 0, []⟩, .slice none 0 0, rfl, by omega, by omega, by omega, HG.out.symm, L2.out, K2.out⟩
    case round =>
      obtain ⟨n, k, l, rv, rfl, hn1, hn2, HH⟩ := hrel
      obtain ⟨k, rfl⟩ : ∃ j, k = j + 1 := ⟨k - 1, by have := HH.out.1; omega⟩
      have HFN : Hid (∀ U, Below wr.heap.size wr U → Calls Tryz.prog 51 #[.int .i64 n] U fun e w' => e = .returned (.string ⟨(seg n).toArray⟩) ∧ Below U.heap.size U w') := fun U hU => fileName_any n U (Vars.below (Vars.below HX.out.2.1 HH.out.2.2.2) hU) (by omega)
      have HRD : Hid (∀ U, Below wr.heap.size wr U → Calls Tryz.prog 66 #[.pointer (some ⟨d, 0, none⟩), .string ⟨(seg n).toArray⟩] U fun e w' => e = .returned (match readN S.a.files n with | some s => .tuple #[.string ⟨s.toArray⟩, .int .i64 0] | none => .tuple #[.string ⟨#[]⟩, .int .i64 2]) ∧ Below U.heap.size U w') := fun U hU => (readSeg_any base K d n S U ((HX.out.1.below HH.out.2.2.2).below hU) hd (by omega)).mono fun e w' ⟨he, hw⟩ => ⟨he, hw ▸ Below.refl _ _⟩
      have hdn : decide ((0 : Int) < (n : Int)) = true := decide_eq_true (by omega)
      obtain ⟨c0, -⟩ := HH.out.2.2.1.cells
      have e0 := cell_regrown c0
      clear c0 L2 K2 e3
      cases hrd : readN S.a.files n with
      | none =>
        rw [hrd] at HRD
        go_upto_region 8 with fail
        refine QuietCalls.region (by kernel_rfl) (by kernel_rfl) ?_
        iterate 5 (first | go_big_quiet_step (fail) | quiet_step (fail))
        refine QuietCalls.call1 rfl rfl Tryz.call51 (fun w' hb => HFN.out w' hb) rfl ?_; simp only [Act.put, List.setIfInBounds_toArray, List.set_cons_succ, List.set_cons_zero]
        refine QuietCalls.call2 rfl rfl Tryz.call66 (fun w' hb => HRD.out w' hb) rfl rfl ?_; simp only [Act.put, List.setIfInBounds_toArray, List.set_cons_succ, List.set_cons_zero]
        iterate 5 (first | go_big_quiet_step (fail) | quiet_step (fail))
        refine wpQuiet_nil ?_
        intro w3 k3
        have L3 := hide (HH.out.2.2.1.below k3)
        have K3 : Hid (Below w0.heap.size w0 w3) := HH.out.2.2.2.trans (k3.mono HH.out.2.2.2.size)
        clear k3 e0
        go_wp2_with fail
        go_ret
        exact ⟨rfl, ⟨rv, by rw [← HH.out.2.1, run_none hrd]; exact L3.out⟩, K3.out⟩
      | some s =>
        rw [hrd] at HRD
        have hsl := readN_bytes hrd HX.out.2.2.1
        have hn3 : n ≤ 1000000 := HX.out.2.2.2.read hn1 (by omega) hrd
        cases hh : head s with
        | none =>
          go_upto_region 8 with fail
          refine QuietCalls.region (by kernel_rfl) (by kernel_rfl) ?_
          iterate 5 (first | go_big_quiet_step (fail) | quiet_step (fail))
          refine QuietCalls.call1 rfl rfl Tryz.call51 (fun w' hb => HFN.out w' hb) rfl ?_; simp only [Act.put, List.setIfInBounds_toArray, List.set_cons_succ, List.set_cons_zero]
          refine QuietCalls.call2 rfl rfl Tryz.call66 (fun w' hb => HRD.out w' hb) rfl rfl ?_; simp only [Act.put, List.setIfInBounds_toArray, List.set_cons_succ, List.set_cons_zero]
          iterate 5 (first | go_big_quiet_step (fail) | quiet_step (fail))
          refine wpQuiet_nil ?_
          intro w3 k3
          have L3 := hide (HH.out.2.2.1.below k3)
          have K3 : Hid (Below w0.heap.size w0 w3) := HH.out.2.2.2.trans (k3.mono HH.out.2.2.2.size)
          clear k3 e0
          have HT : Hid (Calls Tryz.prog 67 #[.pointer (some ⟨b, 0, none⟩), .int .i64 n, .string ⟨s.toArray⟩] w3 fun e w' => e = .returned (.bool false) ∧ Below w3.heap.size w3 w') := takeSegment_no b n s w3 hsl hh
          go_wp2_with (go_at_call 67; refine HT.out.mono ?_; rintro e w4 ⟨rfl, k4⟩)
          go_ret
          exact ⟨rfl, ⟨rv, by rw [← HH.out.2.1, run_no hrd hh]; exact L3.out.below k4⟩, K3.out.trans (k4.mono K3.out.size)⟩
        | some bh =>
          go_upto_region 8 with fail
          refine QuietCalls.region (by kernel_rfl) (by kernel_rfl) ?_
          iterate 5 (first | go_big_quiet_step (fail) | quiet_step (fail))
          refine QuietCalls.call1 rfl rfl Tryz.call51 (fun w' hb => HFN.out w' hb) rfl ?_; simp only [Act.put, List.setIfInBounds_toArray, List.set_cons_succ, List.set_cons_zero]
          refine QuietCalls.call2 rfl rfl Tryz.call66 (fun w' hb => HRD.out w' hb) rfl rfl ?_; simp only [Act.put, List.setIfInBounds_toArray, List.set_cons_succ, List.set_cons_zero]
          iterate 5 (first | go_big_quiet_step (fail) | quiet_step (fail))
          refine wpQuiet_nil ?_
          intro w3 k3
          have L3 := hide (HH.out.2.2.1.below k3)
          have K3 : Hid (Below w0.heap.size w0 w3) := HH.out.2.2.2.trans (k3.mono HH.out.2.2.2.size)
          clear k3 e0
          have hrl : l.recs.length ≤ 1000000 := by have := run_recs (fs := S.a.files) (k + 1) n l; rw [HH.out.2.1] at this; omega
          have HT : Hid (Calls Tryz.prog 67 #[.pointer (some ⟨b, 0, none⟩), .int .i64 n, .string ⟨s.toArray⟩] w3 fun e w' => ∃ rv', e = .returned (.bool true) ∧ LogAt TLog w0.heap.size b d ⟨l.most, l.first, n, whole s, l.recs ++ body s⟩ rv' w' ∧ Below w0.heap.size w0 w') :=
            (takeSegment_some w0.heap.size b d n l rv s bh w3 L3.out K3.out.size hsl hrl hh).mono fun e w' ⟨he, rv', h1, h2⟩ => ⟨rv', he, h1, K3.out.trans (Tch.below h2 (fun k hk => by
              rcases hk with rfl | hk
              · exact L3.out.ge
              · exact ownsRow_ge L3.out.recs hk) K3.out.size)⟩
          by_cases hw : whole s < s.length
          · have hdw : decide ((whole s : Int) < (s.length : Int)) = true := decide_eq_true (by omega)
            go_wp2_with (go_at_call 67; refine HT.out.mono ?_; rintro e w4 ⟨rv', rfl, h4, k4⟩; have L4 := hide (And.intro h4 k4); have p5 := h4.cells.2.2.2.2.2; clear h4 k4)
            go_ret
            exact ⟨rfl, ⟨rv', by rw [← HH.out.2.1, run_end hrd hh hw]; exact L4.out.1⟩, L4.out.2⟩
          · have hdw : decide ((whole s : Int) < (s.length : Int)) = false := decide_eq_false (by omega)
            go_wp2_with (go_at_call 67; refine HT.out.mono ?_; rintro e w4 ⟨rv', rfl, h4, k4⟩; have L4 := hide (And.intro h4 k4); have p5 := h4.cells.2.2.2.2.2; clear h4 k4)
            exact ⟨⟨n + 1, k, _, rv', by go_num, by omega, by omega, by have := HH.out.1; omega, by rw [← run_on hrd hh hw]; exact HH.out.2.1, L4.out.1, L4.out.2⟩, by simp [intOf]; omega⟩
end Go.Proofs.YtoineobjmllicaaGreatDoor
/- Contracts: what does not count of a segment goes; what never came to its number goes. -/
namespace Go.Wal
open Go.RowKit Go.Dk
variable {M : Nat → Prop}
theorem LogAt.dsk {base base' b d : Nat} {l : Lg} {rv : Value} {w w' : World} (h : LogAt 69 base' b d l rv w) (hk : Dsk M base w w') : LogAt 69 base' b d l rv w' :=
  ⟨box_kept hk h.row (by simp [dkind]), ownsRow_kept h.recs fun g hg => by
    obtain ⟨cur, hc⟩ := ownsRow_tag h.recs hg
    exact hk.block g (block_lt hc) fun ⟨_, o, ho, hd⟩ => by
      rw [hc] at ho
      cases ho
      simp [dkind] at hd, h.apart, h.ge⟩
/-- What trim does to the plain disk: the disk, how many bytes went, the error. -/
def trimOf (l : Lg) (n size : Nat) (a : A) : A × Nat × Int :=
  if n < l.first ∨ l.last < n then ((a.doRemove (seg n)).1, size, (a.doRemove (seg n)).2)
  else if n = l.last ∧ l.size < size then ((a.doTrunc (seg n) (l.size : Int)).1, size - l.size, (a.doTrunc (seg n) (l.size : Int)).2)
  else (a, 0, 0)
end Go.Wal
namespace Go.Proofs.YtoineobjmllicaaGreatDoor
open Go.RowKit Go.Dk Go.Wal
variable {M : Nat → Prop}
set_option maxRecDepth 100000 in
set_option maxHeartbeats 4000000 in
theorem trim_any (base base' K b d n size : Nat) (S : WD) (l : Lg) (rv : Value) (w : World) (h : DiskAt Tryz.prog M base K d w S) (hv : Vars w) (hL : LogAt TLog base' b d l rv w) (hbase : base ≤ w.heap.size) (hK : K + 1 ≤ 5000) (hn : n < 9223372036854775808) (hz : size ≤ 1000000) (hl : l.first < 9223372036854775808 ∧ l.last < 9223372036854775808 ∧ l.size < 9223372036854775808) :
    Calls Tryz.prog 69 #[.pointer (some ⟨b, 0, none⟩), .int .i64 n, .int .i64 size] w fun e w' => e = .returned (.tuple #[.int .i64 ((trimOf l n size S.a).2.1 : Nat), .int .i64 (trimOf l n size S.a).2.2]) ∧ (∃ T : WD, T.a = (trimOf l n size S.a).1 ∧ DiskAt Tryz.prog M base (K + 1) d w' T) ∧ Dsk M base w w' := by
  have hsz : (⟨(seg n).toArray⟩ : ByteArray).size ≤ maxLen := by rw [ba_size]; have := seg_length n hn; unfold maxLen; omega
  have HF : Hid (∀ U, Below w.heap.size w U → Calls Tryz.prog 51 #[.int .i64 n] U fun e w' => e = .returned (.string ⟨(seg n).toArray⟩) ∧ Below w.heap.size w w') := fun U hU =>
    (fileName_any n U (Vars.below hv hU) hn).mono fun e w' ⟨he, hb⟩ => ⟨he, hU.trans (hb.mono hU.size)⟩
  have HL := hide hL
  have HD := hide h
  clear h hv hL
  obtain ⟨c0, c1, c2, c3, c4, c5⟩ := HL.out.cells
  by_cases h1 : n < l.first ∨ l.last < n
  · have hT : trimOf l n size S.a = ((S.a.doRemove (seg n)).1, size, (S.a.doRemove (seg n)).2) := by unfold trimOf; rw [if_pos h1]
    rw [hT]
    have HR : Hid (∀ U, Below w.heap.size w U → Calls Tryz.prog 70 #[.pointer (some ⟨d, 0, none⟩), .string ⟨(seg n).toArray⟩] U fun e w' => e = .returned (.int .i64 (S.a.doRemove (seg n)).2) ∧ (∃ T : WD, T.a = (S.a.doRemove (seg n)).1 ∧ DiskAt Tryz.prog M base (K + 1) d w' T) ∧ Dsk M base w w') := fun U hU =>
      (remove_op base K d S ⟨(seg n).toArray⟩ U (HD.out.below hU) (Nat.le_trans hbase hU.size) hK hsz).mono fun e w' ⟨he, T, hT', hD', hk⟩ => ⟨he, ⟨T, hT', hD'⟩, Dsk.trans (.of_below hU) hk⟩
    have hg : (if (n : Int) < (l.first : Int) then true else decide ((l.last : Int) < (n : Int))) = true := by
      split
      · rfl
      · exact decide_eq_true (by omega)
    have hbl : b < w.heap.size := block_lt HL.out.row
    generalize S.a.doRemove (seg n) = r at *
    clear hT HD
    go_enter Tryz.func69, Tryz.ntmps69
    by_cases h2 : n < l.first
    · have hd1 : decide ((n : Int) < (l.first : Int)) = true := decide_eq_true (by omega)
      go_upto_region 2 with fail
      go_region_held (fun w' => w'.cell? ⟨b, 0, none⟩ = some (.pointer (some ⟨d, 0, none⟩))) (first | exact c0 | exact e0 | exact g0) (first
        | (go_at_call 51; refine (HF.out _ (by first | exact Below.refl _ _ | exact ⟨rfl, rfl, rfl, Nat.le_refl _, fun _ _ => rfl⟩)).mono ?_; rintro e w1 ⟨rfl, k1⟩; have K1 := hide k1; have e0 := (k1.cell (p := ⟨b, 0, none⟩) hbl).trans c0; clear k1)
        | (go_at_call 70; refine (HR.out _ K1.out).mono ?_; rintro e w2 ⟨rfl, t2, k2⟩; have H2 := hide (And.intro t2 k2); have g0 := (HL.out.dsk k2).cells.1; clear t2 k2))
      all_goals (go_wp2; go_ret2; exact ⟨rfl, H2.out.1, H2.out.2⟩)
    · have hd1 : decide ((n : Int) < (l.first : Int)) = false := decide_eq_false (by omega)
      have hd2 : decide ((l.last : Int) < (n : Int)) = true := decide_eq_true (by omega)
      go_upto_region 2 with fail
      go_region_held (fun w' => w'.cell? ⟨b, 0, none⟩ = some (.pointer (some ⟨d, 0, none⟩))) (first | exact c0 | exact e0 | exact g0) (first
        | (go_at_call 51; refine (HF.out _ (by first | exact Below.refl _ _ | exact ⟨rfl, rfl, rfl, Nat.le_refl _, fun _ _ => rfl⟩)).mono ?_; rintro e w1 ⟨rfl, k1⟩; have K1 := hide k1; have e0 := (k1.cell (p := ⟨b, 0, none⟩) hbl).trans c0; clear k1)
        | (go_at_call 70; refine (HR.out _ K1.out).mono ?_; rintro e w2 ⟨rfl, t2, k2⟩; have H2 := hide (And.intro t2 k2); have g0 := (HL.out.dsk k2).cells.1; clear t2 k2))
      all_goals (go_wp2; go_ret2; exact ⟨rfl, H2.out.1, H2.out.2⟩)
  · have hd1 : decide ((n : Int) < (l.first : Int)) = false := decide_eq_false (by omega)
    have hd2 : decide ((l.last : Int) < (n : Int)) = false := decide_eq_false (by omega)
    have hbl : b < w.heap.size := block_lt HL.out.row
    by_cases h2 : n = l.last ∧ l.size < size
    · have hT : trimOf l n size S.a = ((S.a.doTrunc (seg n) (l.size : Int)).1, size - l.size, (S.a.doTrunc (seg n) (l.size : Int)).2) := by unfold trimOf; rw [if_neg h1, if_pos h2]
      rw [hT]
      have HR : Hid (∀ U, Below w.heap.size w U → Calls Tryz.prog 98 #[.pointer (some ⟨d, 0, none⟩), .string ⟨(seg n).toArray⟩, .int .i64 (l.size : Int)] U fun e w' => e = .returned (.int .i64 (S.a.doTrunc (seg n) (l.size : Int)).2) ∧ (∃ T : WD, T.a = (S.a.doTrunc (seg n) (l.size : Int)).1 ∧ DiskAt Tryz.prog M base (K + 1) d w' T) ∧ Dsk M base w w') := fun U hU =>
        (trunc_op base K d S ⟨(seg n).toArray⟩ (l.size : Int) U (HD.out.below hU) (Nat.le_trans hbase hU.size) hK hsz).mono fun e w' ⟨he, T, hT', hD', hk⟩ => ⟨he, ⟨T, hT', hD'⟩, Dsk.trans (.of_below hU) hk⟩
      generalize S.a.doTrunc (seg n) (l.size : Int) = r at *
      obtain ⟨rfl, h2b⟩ := h2
      have hd4 : decide ((l.size : Int) < (size : Int)) = true := decide_eq_true (by omega)
      have hwrap : IntKind.i64.wrap ((size : Int) - (l.size : Int)) = (size : Int) - (l.size : Int) := by simp [IntKind.wrap, IntKind.bits, IntKind.signed]; omega
      have hsub : ((size - l.size : Nat) : Int) = (size : Int) - (l.size : Int) := by omega
      rw [hsub]
      clear hT HD hsub
      go_enter Tryz.func69, Tryz.ntmps69
      go_upto_region 4 with fail
      go_region_held (fun w' => w'.cell? ⟨b, 0, none⟩ = some (.pointer (some ⟨d, 0, none⟩)) ∧ w'.cell? ⟨b, 5, none⟩ = some (.int .i64 (l.size : Int))) (first | exact ⟨c0, c5⟩ | exact ⟨e0, e5⟩ | exact ⟨g0, g5⟩) (first
        | (go_at_call 51; refine (HF.out _ (by first | exact Below.refl _ _ | exact ⟨rfl, rfl, rfl, Nat.le_refl _, fun _ _ => rfl⟩)).mono ?_; rintro e w1 ⟨rfl, k1⟩; have K1 := hide k1; have e0 := (k1.cell (p := ⟨b, 0, none⟩) hbl).trans c0; have e5 := (k1.cell (p := ⟨b, 5, none⟩) hbl).trans c5; clear k1)
        | (go_at_call 98; refine (HR.out _ K1.out).mono ?_; rintro e w2 ⟨rfl, t2, k2⟩; have H2 := hide (And.intro t2 k2); have g0 := (HL.out.dsk k2).cells.1; have g5 := (HL.out.dsk k2).cells.2.2.2.2.2; clear t2 k2))
      all_goals (go_wp2; go_ret2; exact ⟨by rfl, H2.out.1, H2.out.2⟩)
    · have hT : trimOf l n size S.a = (S.a, 0, 0) := by unfold trimOf; rw [if_neg h1, if_neg h2]
      rw [hT]
      have HEND : Hid ((∃ T : WD, T.a = S.a ∧ DiskAt Tryz.prog M base (K + 1) d w T) ∧ Dsk M base w w) := ⟨⟨S, rfl, HD.out.mono (Nat.le_succ _) hK⟩, Dsk.of_below (Below.refl _ _)⟩
      clear hT HD
      by_cases h3 : n = l.last
      · subst h3
        have hd4 : decide ((l.size : Int) < (size : Int)) = false := decide_eq_false (by omega)
        go_enter Tryz.func69, Tryz.ntmps69
        go_wp2_with fail
        go_ret2
        exact ⟨rfl, HEND.out⟩
      · have hd3 : ((n : Int) == (l.last : Int)) = false := by rw [beq_eq_false_iff_ne]; omega
        go_enter Tryz.func69, Tryz.ntmps69
        go_wp2_with fail
        go_ret2
        exact ⟨rfl, HEND.out⟩
/-- What dropUnfinished does to the plain disk. -/
theorem drop_any (base base' K b d : Nat) (S : WD) (l : Lg) (rv : Value) (w : World) (h : DiskAt Tryz.prog M base K d w S) (hL : LogAt TLog base' b d l rv w) (hbase : base ≤ w.heap.size) (hK : K + 1 ≤ 5000) :
    Calls Tryz.prog 39 #[.pointer (some ⟨b, 0, none⟩)] w fun e w' => e = .returned (.int .i64 (if (S.a.doRemove newB).2 = 2 then 0 else (S.a.doRemove newB).2)) ∧ (∃ T : WD, T.a = (S.a.doRemove newB).1 ∧ DiskAt Tryz.prog M base (K + 1) d w' T) ∧ Dsk M base w w' := by
  have HR : Hid (Calls Tryz.prog 70 #[.pointer (some ⟨d, 0, none⟩), .string ⟨#[108, 111, 103, 46, 110, 101, 119]⟩] w fun e w' => e = .returned (.int .i64 (S.a.doRemove newB).2) ∧ (∃ T : WD, T.a = (S.a.doRemove newB).1 ∧ DiskAt Tryz.prog M base (K + 1) d w' T) ∧ Dsk M base w w') :=
    (remove_op base K d S ⟨newB.toArray⟩ w h hbase hK (by decide)).mono fun e w' ⟨he, T, hT', hD', hk⟩ => ⟨he, ⟨T, hT', hD'⟩, hk⟩
  obtain ⟨c0, -⟩ := hL.cells
  generalize S.a.doRemove newB = r at *
  obtain ⟨a, e⟩ := r
  clear h hL
  by_cases h2 : e = 2
  · subst h2
    go_enter Tryz.func39, Tryz.ntmps39
    go_wp2_with (go_at_call 70; refine HR.out.mono ?_; rintro e w2 ⟨rfl, t2, k2⟩; have H2 := hide (And.intro t2 k2); clear t2 k2)
    go_ret
    exact ⟨rfl, H2.out⟩
  · have hb : (e == 2) = false := by simpa using h2
    simp only [if_neg h2]
    go_enter Tryz.func39, Tryz.ntmps39
    go_wp2_with (go_at_call 70; refine HR.out.mono ?_; rintro e' w2 ⟨rfl, t2, k2⟩; have H2 := hide (And.intro t2 k2); clear t2 k2)
    go_ret
    exact ⟨rfl, H2.out⟩
end Go.Proofs.YtoineobjmllicaaGreatDoor
/- Contract: all that does not count goes. -/
namespace Go.Wal
open Go.RowKit Go.Dk
variable {M : Nat → Prop}
/-- What sweep does to the plain disk: the disk, how many bytes went, the error. -/
def sweepOf (l : Lg) : List Nat → A → Nat → A × Nat × Int
  | [], a, cut => (a, cut, 0)
  | n :: ns, a, cut => match readN a.files n with
    | none => (a, 0, 2)
    | some s => if (trimOf l n s.length a).2.2 = 0 then sweepOf l ns (trimOf l n s.length a).1 (if 0 < l.first ∧ l.first ≤ n then cut + (trimOf l n s.length a).2.1 else cut) else ((trimOf l n s.length a).1, 0, (trimOf l n s.length a).2.2)
theorem sweepOf_none {l : Lg} {n : Nat} {ns : List Nat} {a : A} {c : Nat} (h : readN a.files n = none) : sweepOf l (n :: ns) a c = (a, 0, 2) := by
  conv => lhs; unfold sweepOf
  rw [h]
theorem sweepOf_go {l : Lg} {n : Nat} {ns : List Nat} {a : A} {c : Nat} {s : Bs} (h : readN a.files n = some s) (h0 : (trimOf l n s.length a).2.2 = 0) : sweepOf l (n :: ns) a c = sweepOf l ns (trimOf l n s.length a).1 (if 0 < l.first ∧ l.first ≤ n then c + (trimOf l n s.length a).2.1 else c) := by
  conv => lhs; unfold sweepOf
  rw [h]
  simp only
  rw [if_pos h0]
theorem sweepOf_stop {l : Lg} {n : Nat} {ns : List Nat} {a : A} {c : Nat} {s : Bs} (h : readN a.files n = some s) (h0 : (trimOf l n s.length a).2.2 ≠ 0) : sweepOf l (n :: ns) a c = ((trimOf l n s.length a).1, 0, (trimOf l n s.length a).2.2) := by
  conv => lhs; unfold sweepOf
  rw [h]
  simp only
  rw [if_neg h0]
theorem sweepOf_append (l : Lg) : ∀ (ns ms : List Nat) (a : A) (c : Nat) (a' : A) (c' : Nat), sweepOf l ns a c = (a', c', 0) → sweepOf l (ns ++ ms) a c = sweepOf l ms a' c'
  | [], _, _, _, _, _, h => by
    simp only [sweepOf, Prod.mk.injEq] at h
    obtain ⟨rfl, rfl, _⟩ := h
    rfl
  | n :: ns, ms, a, c, a', c', h => by
    show sweepOf l (n :: (ns ++ ms)) a c = _
    cases hr : readN a.files n with
    | none => rw [sweepOf_none hr] at h; simp at h
    | some s =>
      by_cases h0 : (trimOf l n s.length a).2.2 = 0
      · rw [sweepOf_go hr h0] at h ⊢
        exact sweepOf_append l ns ms _ _ a' c' h
      · rw [sweepOf_stop hr h0] at h
        simp only [Prod.mk.injEq] at h
        exact absurd h.2.2 h0
theorem sweepOf_err (l : Lg) : ∀ (ns ms : List Nat) (a : A) (c : Nat), (sweepOf l ns a c).2.2 ≠ 0 → sweepOf l (ns ++ ms) a c = sweepOf l ns a c
  | [], _, _, _, h => absurd rfl h
  | n :: ns, ms, a, c, h => by
    show sweepOf l (n :: (ns ++ ms)) a c = _
    cases hr : readN a.files n with
    | none => rw [sweepOf_none hr, sweepOf_none hr]
    | some s =>
      by_cases h0 : (trimOf l n s.length a).2.2 = 0
      · rw [sweepOf_go hr h0] at h ⊢
        rw [sweepOf_go hr h0]
        exact sweepOf_err l ns ms _ _ h
      · rw [sweepOf_stop hr h0, sweepOf_stop hr h0]
/-- Files that are not long. -/
def Sm (fs : List AF) : Prop := ∀ f ∈ fs, f.bytes.length ≤ 1000000
theorem left_down (a : A) (fs : List AF) : (a.left fs).down = a.down := rfl
theorem change_ok {a b : A} (h : (a.change b).2 = 0) : a.change b = (b, 0) := by
  unfold A.change at h ⊢
  cases hh : a.hit with
  | none => rfl
  | some f => rw [hh] at h; cases h
theorem doRemove_ok {a : A} {name : Bs} (h : (a.doRemove name).2 = 0) : a.down = false ∧ (a.doRemove name).1 = a.left (del AF.name name a.files) := by
  unfold A.doRemove at h ⊢
  by_cases ha : ableOf a name = 0
  · rw [if_neg (by simpa using ha)] at h ⊢
    have hd : a.down = false := by
      unfold ableOf at ha
      cases hd : a.down with
      | false => rfl
      | true => rw [hd] at ha; simp at ha
    cases hs : seek AF.name name a.files with
    | none => rw [hs] at h; cases h
    | some f =>
      rw [hs] at h
      simp only at h ⊢
      rw [change_ok h]
      exact ⟨hd, rfl⟩
  · rw [if_pos (by simpa using ha)] at h
    exact absurd h ha
theorem doTrunc_ok {a : A} {name : Bs} {n : Int} (h : (a.doTrunc name n).2 = 0) : a.down = false ∧ ∃ f, seek AF.name name a.files = some f ∧ (a.doTrunc name n).1 = a.left (ins AF.name (f.settle (f.bytes.take n.toNat)) a.files) := by
  unfold A.doTrunc at h ⊢
  by_cases ha : ableOf a name = 0
  · rw [if_neg (by simpa using ha)] at h ⊢
    have hd : a.down = false := by
      unfold ableOf at ha
      cases hd : a.down with
      | false => rfl
      | true => rw [hd] at ha; simp at ha
    cases hs : seek AF.name name a.files with
    | none => rw [hs] at h; cases h
    | some f =>
      rw [hs] at h
      simp only at h ⊢
      split at h
      · cases h
      · rename_i hn
        rw [if_neg hn, change_ok h]
        exact ⟨hd, f, rfl, rfl⟩
  · rw [if_pos (by simpa using ha)] at h
    exact absurd h ha
theorem trimOf_ok {l : Lg} {n size : Nat} {a : A} (h : (trimOf l n size a).2.2 = 0) (hd : a.down = false) (hs : Sm a.files) (hr : Rises AF.name a.files) : (trimOf l n size a).1.down = false ∧ Sm (trimOf l n size a).1.files ∧ (trimOf l n size a).2.1 ≤ size := by
  unfold trimOf at h ⊢
  split
  · rename_i h1
    rw [if_pos h1] at h
    obtain ⟨_, h2⟩ := doRemove_ok h
    simp only
    rw [h2]
    refine ⟨hd, fun f hf => hs f (mem_del.1 hf).1, Nat.le_refl _⟩
  · rename_i h1
    rw [if_neg h1] at h
    split
    · rename_i h2
      rw [if_pos h2] at h
      obtain ⟨_, f, hf, h3⟩ := doTrunc_ok h
      simp only
      rw [h3]
      refine ⟨hd, fun g hg => ?_, Nat.sub_le _ _⟩
      rcases (mem_ins_iff hr).1 hg with rfl | ⟨hg, _⟩
      · rw [AF.bytes_settle]
        exact Nat.le_trans (by rw [List.length_take]; exact Nat.min_le_right _ _) (hs f (seek_some hf).1)
      · exact hs g hg
    · exact ⟨hd, hs, Nat.zero_le _⟩
/-! ### memory -/
theorem keeps_dsk {B base : Nat} {W W' : World} (h : Dsk (fun b => b < B ∧ M b) base W W') : KeepsFrom B W W' :=
  ⟨h.size, fun k o hB hk hc => (h.block k (block_lt hk) fun ⟨_, o', ho, hd⟩ => by
    rw [hk] at ho
    cases ho
    cases o with
    | map es cl => exact absurd hd.1 (by omega)
    | cells cs t fr => cases hc
    | _ => exact hd).trans hk⟩
theorem ints_dsk {n0 base : Nat} {W W' : World} (h : Dsk M base W W') : KeepsInts n0 W W' := ⟨h.size, fun _ _ _ hk => box_kept h hk (by simp [dkind])⟩
theorem Boxed.dsk {base : Nat} {W W' : World} {B : Nat} {t : TypeId} {v : Value} (h : Boxed W B t v) (hk : Dsk M base W W') (ht : ¬ dkind M B (.cells #[v] t (0, 0))) : Boxed W' B t v := box_kept hk h ht
theorem DiskAt.re {P : Program} {M' : Nat → Prop} {base K d : Nat} {w : World} {S : WD} (h : DiskAt P M base K d w S) (hM : ∀ b, S.mb = some b ∨ S.pv.ownBlock = some b → M' b) : DiskAt P M' base K d w S :=
  ⟨h.row, h.ge, h.rm, h.plan, h.map, h.files, h.same, h.small, h.count, h.chg, h.lim, hM⟩
theorem DiskAt.own_lt {P : Program} {base K d : Nat} {w : World} {S : WD} (h : DiskAt P M base K d w S) {b : Nat} (hb : S.mb = some b ∨ S.pv.ownBlock = some b) : b < w.heap.size := by
  rcases hb with hb | hb
  · obtain ⟨_, es, cl, h2⟩ := h.map.kind hb
    exact block_lt h2
  · obtain ⟨cur, hc⟩ := ownsRow_tag h.plan hb
    exact block_lt hc
theorem DiskAt.mb_lt {P : Program} {base K d : Nat} {w : World} {S : WD} (h : DiskAt P M base K d w S) {b : Nat} (hb : S.mb = some b) : b < w.heap.size := by
  obtain ⟨_, es, cl, h2⟩ := h.map.kind hb
  exact block_lt h2
/-- A turn of what is no cells and lies from B on. -/
theorem DiskAt.turned {P : Program} {base K d B : Nat} {W W' : World} {S : WD} {row : Option Nat} (h : DiskAt P (fun b => b < B ∧ M b) base K d W S) (hg : W.grownBy W' row) (hr : ∀ r, row = some r → B ≤ r ∧ ∃ o : Obj, W.heap[r]? = some o ∧ o.isCells = false) : DiskAt P (fun b => b < B ∧ M b) base K d W' S :=
  h.other (Tch.of_grown (X := fun b => row = some b) hg fun _ e => e) fun b hb => by
    obtain ⟨h1, o, h2, h3⟩ := hr b hb
    rintro ⟨_, o', ho, hd⟩
    rw [h2] at ho
    cases ho
    cases o with
    | map es cl => exact absurd hd.1 (by omega)
    | cells cs t fr => cases h3
    | _ => exact hd
theorem LogAt.turned {T base b d : Nat} {l : Lg} {rv : Value} {W W' : World} {row : Option Nat} (h : LogAt T base b d l rv W) (hg : W.grownBy W' row) (hr : ∀ r, row = some r → ∃ o : Obj, W.heap[r]? = some o ∧ o.isCells = false) : LogAt T base b d l rv W' := by
  have key : ∀ (k : Nat) (cs : Array Value) (t : TypeId) (fr : Nat × Nat), W.heap[k]? = some (Obj.cells cs t fr) → W'.heap[k]? = W.heap[k]? := fun k cs t fr hk => hg.block k (block_lt hk) fun e => by
    obtain ⟨o, h1, h2⟩ := hr k e.symm
    rw [hk] at h1
    cases h1
    cases h2
  exact ⟨(key b _ _ _ h.row).trans h.row, ownsRow_kept h.recs fun g hg => by obtain ⟨cur, hc⟩ := ownsRow_tag h.recs hg; exact key g _ _ _ hc, h.apart, h.ge⟩
/-- What sweep has of its own. -/
structure Sg (M : Nat → Prop) (T t0 t2 base base' : Nat) (w : World) (b d : Nat) (l : Lg) (rv : Value) (cut : Nat) (r e : Int) (W : World) : Prop where
  b0 : Boxed W w.heap.size t0 (.pointer (some ⟨b, 0, none⟩))
  b1 : Boxed W (w.heap.size + 1) 3 (.int .i64 r)
  b2 : Boxed W (w.heap.size + 1 + 1) t2 (.int .i64 e)
  b3 : Boxed W (w.heap.size + 1 + 1 + 1) 3 (.int .i64 (cut : Int))
  dsk : Dsk (fun b => b < w.heap.size + 1 + 1 + 1 + 1 + 1 ∧ M b) base w W
  log : LogAt T base' b d l rv W
variable {t0 t2 base base' : Nat} {w W W' : World} {b d : Nat} {l : Lg} {rv : Value} {cut : Nat} {r e : Int}
theorem Sg.step (h : Sg M 69 t0 t2 base base' w b d l rv cut r e W) (hk : Dsk (fun b => b < w.heap.size + 1 + 1 + 1 + 1 + 1 ∧ M b) base W W') (h0 : ∀ v, ¬ dkind (fun b => b < w.heap.size + 1 + 1 + 1 + 1 + 1 ∧ M b) w.heap.size (.cells #[v] t0 (0, 0))) (h2 : ∀ v, ¬ dkind (fun b => b < w.heap.size + 1 + 1 + 1 + 1 + 1 ∧ M b) (w.heap.size + 1 + 1) (.cells #[v] t2 (0, 0))) : Sg M 69 t0 t2 base base' w b d l rv cut r e W' :=
  ⟨Boxed.dsk h.b0 hk (h0 _), Boxed.dsk h.b1 hk (by simp [dkind]), Boxed.dsk h.b2 hk (h2 _), Boxed.dsk h.b3 hk (by simp [dkind]), h.dsk.trans hk, h.log.dsk hk⟩
theorem Sg.turned {T : Nat} {row : Option Nat} (h : Sg M T t0 t2 base base' w b d l rv cut r e W) (hg : W.grownBy W' row) (hr : ∀ r, row = some r → w.heap.size ≤ r ∧ ∃ o : Obj, W.heap[r]? = some o ∧ o.isCells = false) : Sg M T t0 t2 base base' w b d l rv cut r e W' :=
  have hr' := fun r e => (hr r e).2
  ⟨h.b0.kept hg (boxed_row h.b0 hr'), h.b1.kept hg (boxed_row h.b1 hr'), h.b2.kept hg (boxed_row h.b2 hr'), h.b3.kept hg (boxed_row h.b3 hr'),
    Tch.trans h.dsk (Tch.of_grown (X := fun b => row = some b) hg fun _ e => e) (fun _ x => x) (fun k hk e => absurd (hr k e).1 (by omega)), h.log.turned hg hr'⟩
/-- A box of its own is stored into. -/
theorem dsk_box {M : Nat → Prop} (h : Dsk M base w W) {k : Nat} (hk : w.heap.size ≤ k) (v : Value) : Dsk M base w (W.setCell ⟨k, 0, none⟩ v) :=
  Tch.trans h (Tch.set (X := fun b => b = k) W ⟨k, 0, none⟩ v rfl) (fun _ x => x) (fun b hb e => absurd hk (by omega))
theorem log_box {T : Nat} (h : LogAt T base' b d l rv W) {k t : Nat} {u : Value} (hb : Boxed W k t u) (h1 : t ≠ T) (h2 : t ≠ 9) (v : Value) : LogAt T base' b d l rv (W.setCell ⟨k, 0, none⟩ v) := by
  have hne : ∀ (j : Nat) (cs : Array Value) (t' : TypeId) (fr : Nat × Nat), t' ≠ t → W.heap[j]? = some (Obj.cells cs t' fr) → (W.setCell ⟨k, 0, none⟩ v).heap[j]? = W.heap[j]? := fun j cs t' fr ht hj => heap_setCell_other _ _ _ _ fun e => by
    unfold Boxed at hb
    rw [show j = k from e, hb] at hj
    cases hj
    exact ht rfl
  exact ⟨(hne b _ _ _ h1.symm h.row).trans h.row, ownsRow_kept h.recs fun g hg => by obtain ⟨cur, hc⟩ := ownsRow_tag h.recs hg; exact hne g _ _ _ h2.symm hc, h.apart, h.ge⟩
theorem Sg.told {T : Nat} (h : Sg M T t0 t2 base base' w b d l rv cut r e W) (hT : T ≠ 3 ∧ T ≠ t2 ∧ t2 ≠ 9) (r' e' : Int) : Sg M T t0 t2 base base' w b d l rv cut r' e' ((W.setCell ⟨w.heap.size + 1, 0, none⟩ (.int .i64 r')).setCell ⟨w.heap.size + 1 + 1, 0, none⟩ (.int .i64 e')) :=
  ⟨(h.b0.other (by omega) _).other (by omega) _, (h.b1.set _).other (by omega) _, (h.b2.other (by omega) _).set _, (h.b3.other (by omega) _).other (by omega) _, dsk_box (dsk_box h.dsk (by omega) _) (by omega) _,
    log_box (log_box h.log h.b1 (Ne.symm hT.1) (by decide) _) (h.b2.other (by omega) _) (Ne.symm hT.2.1) hT.2.2 _⟩
theorem Sg.cutTo {T : Nat} (h : Sg M T t0 t2 base base' w b d l rv cut r e W) (hT : T ≠ 3) (c : Nat) : Sg M T t0 t2 base base' w b d l rv c r e (W.setCell ⟨w.heap.size + 1 + 1 + 1, 0, none⟩ (.int .i64 (c : Int))) :=
  ⟨h.b0.other (by omega) _, h.b1.other (by omega) _, h.b2.other (by omega) _, h.b3.set _, dsk_box h.dsk (by omega) _, log_box h.log h.b3 (Ne.symm hT) (by decide) _⟩
/-- The disk's blocks are of other kinds. -/
theorem DiskAt.box {P : Program} {M : Nat → Prop} {base K d k t : Nat} {W : World} {S : WD} {u : Value} (h : DiskAt P M base K d W S) (hb : Boxed W k t u) (ht : ¬ dkind M k (.cells #[u] t (0, 0))) (v : Value) : DiskAt P M base K d (W.setCell ⟨k, 0, none⟩ v) S :=
  h.other (Tch.set (X := fun b => b = k) W ⟨k, 0, none⟩ v rfl) fun j hj => by
    subst hj
    rintro ⟨_, o, ho, hd⟩
    unfold Boxed at hb
    rw [hb] at ho
    cases ho
    exact ht hd
theorem ints_box {n0 k : Nat} (hk : k < n0) (v : Value) : KeepsInts n0 W (W.setCell ⟨k, 0, none⟩ v) := ⟨by rw [World.size_setCell]; exact Nat.le_refl _, fun j _ hj h => by rw [heap_setCell_other _ _ _ _ (show j ≠ k by omega)]; exact h⟩
theorem dsk_all {M M' : Nat → Prop} (hM : ∀ b, M' b → M b) (h : Dsk M' base w W) : Dsk M base w W := h.mono fun b ⟨h1, o, h2, h3⟩ => ⟨h1, o, h2, by
  cases o with
  | map es cl => exact hM b h3
  | cells cs t fr =>
    rcases h3 with h | ⟨h, h'⟩ | h
    · exact .inl h
    · exact .inr (.inl ⟨h, hM b h'⟩)
    · exact .inr (.inr h)
  | _ => exact h3⟩
theorem nums_length (fs : List AF) : (nums fs).length ≤ fs.length := by unfold nums; rw [List.length_reverse]; exact ups_length fs
theorem ints_refl {n0 : Nat} : KeepsInts n0 W W := ⟨Nat.le_refl _, fun _ _ _ h => h⟩
end Go.Wal
namespace Go.Proofs.YtoineobjmllicaaGreatDoor
open Go.RowKit Go.Shelf Go.Dk Go.Wal
attribute [local go_sem] Oper.semAt_some
variable {M : Nat → Prop}
set_option maxHeartbeats 4000000 in
set_option maxRecDepth 100000 in
theorem sweep_any (base base' K b d : Nat) (S : WD) (l : Lg) (rv : Value) (w : World) (h : DiskAt Tryz.prog M base K d w S) (hv : Vars w) (hL : LogAt TLog base' b d l rv w) (hbase : base ≤ w.heap.size) (h5 : 5 ≤ base) (hK : K + S.a.files.length ≤ 4990) (hd : S.a.down = false) (hs : Sm S.a.files) (hl : l.first < 9223372036854775808 ∧ l.last < 9223372036854775808 ∧ l.size < 9223372036854775808) :
    Calls Tryz.prog 38 #[.pointer (some ⟨b, 0, none⟩)] w fun e w' => e = .returned (.tuple #[.int .i64 ((sweepOf l (nums S.a.files) S.a 0).2.1 : Nat), .int .i64 (sweepOf l (nums S.a.files) S.a 0).2.2]) ∧ (∃ T : WD, T.a = (sweepOf l (nums S.a.files) S.a 0).1 ∧ DiskAt Tryz.prog M base (K + S.a.files.length) d w' T) ∧ Dsk M base w w' := by
  refine (callsIn_wide (n := 9)).1 ?_
  refine callsIn_of_wp_marks Tryz.func38 rfl trivial ?_ rfl
  simp only [Tryz.ntmps38, List.size_toArray, List.length_cons, List.length_nil, Nat.reduceAdd, Nat.reduceSub, Array.replicate_succ, Array.replicate_zero, List.push_toArray, List.append_toArray, List.nil_append, List.cons_append]
  have HD := hide (DiskAt.re (M' := fun b => b < w.heap.size + 1 + 1 + 1 + 1 + 1 ∧ M b) h fun b hb => ⟨by have := DiskAt.own_lt h hb; omega, h.own b hb⟩)
  have HV := hide hv
  have HL := hide hL
  clear h hv hL
  have hB4 : Below w.heap.size w ((((w.alloc (.cells #[.pointer (some ⟨b, 0, none⟩)] 25)).alloc (.cells #[.int .i64 0] 3)).alloc (.cells #[.int .i64 0] 26)).alloc (.cells #[.int .i64 0] 3)) := ((((Below.refl _ w).alloc (Nat.le_refl _) _).alloc (by simp) _).alloc (by simp; omega) _).alloc (by simp; omega) _
  have q0 := (HL.out.below hB4).cells.1
  gi_wp2_with (refine ⟨trivial, ?_⟩; gi_at_call 68; refine (callsIn_wide.2 (fromLast_any d _)).mono ?_; rintro e w1 ⟨rfl, rfl⟩)
  have hB5 : Below w.heap.size w (((((w.alloc (.cells #[.pointer (some ⟨b, 0, none⟩)] 25)).alloc (.cells #[.int .i64 0] 3)).alloc (.cells #[.int .i64 0] 26)).alloc (.cells #[.int .i64 0] 3)).alloc (.cells #[.pointer (some ⟨d, 0, none⟩)] 23)) := hB4.alloc hB4.size _
  have G0 : Sg M TLog 25 26 base base' w b d l rv 0 0 0 (((((w.alloc (.cells #[.pointer (some ⟨b, 0, none⟩)] 25)).alloc (.cells #[.int .i64 0] 3)).alloc (.cells #[.int .i64 0] 26)).alloc (.cells #[.int .i64 0] 3)).alloc (.cells #[.pointer (some ⟨d, 0, none⟩)] 23)) :=
    ⟨((((Boxed.new w _ _).alloc _).alloc _).alloc _).alloc _,
     by have := (((Boxed.new (w.alloc (.cells #[.pointer (some ⟨b, 0, none⟩)] 25)) 3 (.int .i64 0)).alloc (.cells #[.int .i64 0] 26)).alloc (.cells #[.int .i64 0] 3)).alloc (.cells #[.pointer (some ⟨d, 0, none⟩)] 23); rw [World.size_alloc] at this; exact this,
     by have := ((Boxed.new ((w.alloc (.cells #[.pointer (some ⟨b, 0, none⟩)] 25)).alloc (.cells #[.int .i64 0] 3)) 26 (.int .i64 0)).alloc (.cells #[.int .i64 0] 3)).alloc (.cells #[.pointer (some ⟨d, 0, none⟩)] 23); rw [World.size_alloc, World.size_alloc] at this; exact this,
     by have := (Boxed.new (((w.alloc (.cells #[.pointer (some ⟨b, 0, none⟩)] 25)).alloc (.cells #[.int .i64 0] 3)).alloc (.cells #[.int .i64 0] 26)) 3 (.int .i64 0)).alloc (.cells #[.pointer (some ⟨d, 0, none⟩)] 23); rw [World.size_alloc, World.size_alloc, World.size_alloc] at this; exact this,
     Dsk.of_below hB5, HL.out.below hB5⟩
  have c3 := (Boxed.new ((((w.alloc (.cells #[.pointer (some ⟨b, 0, none⟩)] 25)).alloc (.cells #[.int .i64 0] 3)).alloc (.cells #[.int .i64 0] 26)).alloc (.cells #[.int .i64 0] 3)) 23 (.pointer (some ⟨d, 0, none⟩))).cell
  simp only [World.size_alloc] at c3
  have hz5 : ((((((w.alloc (.cells #[.pointer (some ⟨b, 0, none⟩)] 25)).alloc (.cells #[.int .i64 0] 3)).alloc (.cells #[.int .i64 0] 26)).alloc (.cells #[.int .i64 0] 3)).alloc (.cells #[.pointer (some ⟨d, 0, none⟩)] 23)) : World).heap.size = w.heap.size + 1 + 1 + 1 + 1 + 1 := by simp only [World.size_alloc]
  refine wpIn_rangeFunc_ownG rfl (by decide) (gf := 95) (lb := #[.pointer (some ⟨w.heap.size + 1 + 1 + 1 + 1, 0, none⟩)]) rfl trivial (enters_of Tryz.func95 (by kernel_rfl) rfl)
    (last_in base K d (w.heap.size + 1 + 1 + 1 + 1) (w.heap.size + 1 + 1 + 1 + 1 + 1) 8 S _ (HD.out.below hB5) (Vars.below HV.out hB5) c3 (Nat.le_of_eq hz5.symm)) (fun a b => a.trans b) ints_b (Below.refl _ _) (fun _ => rfl)
    (fun pre W => ∃ (T : WD) (cut : Nat), Sg M TLog 25 26 base base' w b d l rv cut 0 0 W ∧ DiskAt Tryz.prog (fun b => b < w.heap.size + 1 + 1 + 1 + 1 + 1 ∧ M b) base (K + pre.length) d W T ∧ sweepOf l (pre.map Subtype.val) S.a 0 = (T.a, cut, 0) ∧ T.a.down = false ∧ Sm T.a.files ∧ cut ≤ pre.length * 1000000)
    (fun c pre W => c = .ret ∧ ∃ (T : WD) (cut : Nat) (e : Int), Sg M TLog 25 26 base base' w b d l rv cut 0 e W ∧ DiskAt Tryz.prog (fun b => b < w.heap.size + 1 + 1 + 1 + 1 + 1 ∧ M b) base (K + pre.length) d W T ∧ sweepOf l (pre.map Subtype.val) S.a 0 = (T.a, 0, e) ∧ e ≠ 0)
    (fun s A B row hs hg hr => by
      obtain ⟨T, cut, h1, h2, h3⟩ := hs
      rw [hz5] at hr
      exact ⟨T, cut, h1.turned hg fun r e => ⟨by have := (hr r e).1; omega, (hr r e).2⟩, DiskAt.turned h2 hg hr, h3⟩)
    (fun c s A B row hs hg hr => by
      obtain ⟨h0, T, cut, e, h1, h2, h3⟩ := hs
      rw [hz5] at hr
      exact ⟨h0, T, cut, e, h1.turned hg fun r e => ⟨by have := (hr r e).1; omega, (hr r e).2⟩, DiskAt.turned h2 hg hr, h3⟩)
    ⟨S, 0, G0, HD.out.below hB5, rfl, hd, hs, Nat.zero_le _⟩
    (fun x => { tmps := #[.pointer (some ⟨b, 0, none⟩), .pointer (some ⟨w.heap.size, 0, none⟩), .pointer (some ⟨w.heap.size + 1, 0, none⟩), .pointer (some ⟨w.heap.size + 1 + 1, 0, none⟩), .pointer (some ⟨w.heap.size + 1 + 1 + 1, 0, none⟩), .int .i64 x.1, undef, undef, undef, .pointer (some ⟨b, 0, none⟩), .pointer (some ⟨b, 0, none⟩), .pointer (some ⟨b, 0, none⟩), .pointer (some ⟨d, 0, none⟩), .func (.func 95) #[] #[.pointer (some ⟨w.heap.size + 1 + 1 + 1 + 1, 0, none⟩)], .int .i64 x.1, undef, undef, undef, undef, undef, undef, undef, undef, undef, undef, undef, undef, undef, undef, undef, undef, undef, undef, undef, undef, undef, undef, undef, undef, undef, undef, undef, undef, undef, undef, undef, undef, undef, undef, undef, undef, undef, undef, undef, undef, undef], defers := [] }) ?assign ?body ?done ?stop
  case assign =>
    intro l x W K hK
    gi_wp2
    exact hK
  case body =>
    rintro lp pre x W ⟨T, cut, hG, hD, hsw, hdn, hsm, hcut⟩ hpl
    rw [hz5]
    have hK' : K + pre.length + 1 ≤ 5000 := by omega
    have hris : Rises AF.name T.a.files := by rw [← hD.same]; exact List.pairwise_map.2 hD.files.rises
    have hbaseW : base ≤ W.heap.size := Nat.le_trans hbase hG.dsk.size
    have HVW := hide (Vars.dsk HV.out hG.dsk h5)
    have HF : Hid (∀ U, Below W.heap.size W U → Calls Tryz.prog 51 #[.int .i64 x.1] U fun e w' => e = .returned (.string ⟨(seg x.1).toArray⟩) ∧ Below W.heap.size W w') := fun U hU =>
      (fileName_any x.1 U (Vars.below HVW.out hU) x.2).mono fun e w' ⟨he, hb⟩ => ⟨he, hU.trans (hb.mono hU.size)⟩
    have HRD : Hid (∀ U, Below W.heap.size W U → Calls Tryz.prog 66 #[.pointer (some ⟨d, 0, none⟩), .string ⟨(seg x.1).toArray⟩] U fun e w' => e = .returned (match readN T.a.files x.1 with | some s => .tuple #[.string ⟨s.toArray⟩, .int .i64 0] | none => .tuple #[.string ⟨#[]⟩, .int .i64 2]) ∧ w' = U) := fun U hU => readSeg_any base (K + pre.length) d x.1 T U (hD.below hU) hdn x.2
    have q0 := hG.b0.cell
    have q1 := hG.log.cells.1
    have hbW : b < W.heap.size := block_lt hG.log.row
    have hmix : Tryz.prog.follows .mixedOrders = true := by kernel_rfl
    have HST : Hid (∀ {V V' : World} {c : Nat} {r e : Int}, Sg M TLog 25 26 base base' w b d l rv c r e V → Dsk (fun b => b < w.heap.size + 1 + 1 + 1 + 1 + 1 ∧ M b) base V V' → Sg M TLog 25 26 base base' w b d l rv c r e V') := fun h hk => h.step hk (by simp [dkind]) (by simp [dkind])
    have hmap : (pre ++ [x]).map Subtype.val = pre.map Subtype.val ++ [x.1] := by rw [List.map_append]; rfl
    have hlen : (pre ++ [x]).length = pre.length + 1 := by rw [List.length_append]; rfl
    cases hr : readN T.a.files x.1 with
    | none =>
      rw [hr] at HRD
      gi_wp2_with fail
      refine wpIn_mono (Q := Exit.then (fun a' w' => a' = { tmps := #[.pointer (some ⟨b, 0, none⟩), .pointer (some ⟨w.heap.size, 0, none⟩), .pointer (some ⟨w.heap.size + 1, 0, none⟩), .pointer (some ⟨w.heap.size + 1 + 1, 0, none⟩), .pointer (some ⟨w.heap.size + 1 + 1 + 1, 0, none⟩), .int .i64 x.1, .string ⟨#[]⟩, .int .i64 2, undef, .pointer (some ⟨b, 0, none⟩), .pointer (some ⟨b, 0, none⟩), .pointer (some ⟨b, 0, none⟩), .pointer (some ⟨d, 0, none⟩), .func (.func 95) #[] #[.pointer (some ⟨w.heap.size + 1 + 1 + 1 + 1, 0, none⟩)], .int .i64 x.1, .tuple #[.string ⟨#[]⟩, .int .i64 2], .pointer (some ⟨b, 0, none⟩), .pointer (some ⟨b, 0, none⟩), .pointer (some ⟨b, 0, none⟩), .pointer (some ⟨d, 0, none⟩), .int .i64 x.1, .string ⟨(seg x.1).toArray⟩, .tuple #[.string ⟨#[]⟩, .int .i64 2], .string ⟨#[]⟩, .int .i64 2, undef, undef, undef, undef, undef, undef, undef, undef, undef, undef, undef, undef, undef, undef, undef, undef, undef, undef, undef, undef, undef, undef, undef, undef, undef, undef, undef, undef, undef, undef, undef], defers := [] } ∧ Below W.heap.size W w') (fun _ _ _ => False)) ?reg ?post
      case reg =>
        gi_region_with_o (first
          | (refine ⟨trivial, ?_⟩; gi_at_call 51; refine (CallsIn.inRound lp (callsIn_wide.2 (HF.out _ (by first | exact Below.refl _ _ | exact ⟨rfl, rfl, rfl, Nat.le_refl _, fun _ _ => rfl⟩)))).mono ?_; rintro e w2 ⟨rfl, k2⟩; have K2 := hide k2; have e0 := (k2.cell (p := ⟨w.heap.size, 0, none⟩) hG.b0.lt).trans q0; have e1 := (k2.cell (p := ⟨b, 0, none⟩) hbW).trans q1; clear k2)
          | (refine ⟨trivial, ?_⟩; gi_at_call 66; refine (CallsIn.inRound lp (callsIn_wide.2 (HRD.out _ K2.out))).mono ?_; rintro e w3 ⟨rfl, rfl⟩))
        all_goals exact ⟨rfl, K2.out⟩
      case post =>
        rintro e a3 w3 h3
        cases e with
        | normal =>
          obtain ⟨rfl, k3⟩ := h3
          refine (‹∀ (a : Act) (w : World), _ → _›) _ _ ?_
          have HG := hide (HST.out hG (Dsk.of_below k3))
          have K3 := hide k3
          have t1 := HG.out.b1.cell
          have t2 := HG.out.b2.cell
          have g1 := HG.out.b1.frozen
          have g2 := HG.out.b2.frozen
          clear q0 q1 k3
          gi_wp2_with fail
          refine ⟨((keeps_others K3.out).trans ((KeepsOthers.setCell _ _ _).trans (KeepsOthers.setCell _ _ _))).from _, rfl, T, cut, 2, HG.out.told (by decide) 0 2, ?_, ?_, by decide⟩
          · rw [hlen]
            exact (DiskAt.box (DiskAt.box (hD.below K3.out) HG.out.b1 (by simp [dkind]) _) (HG.out.b2.other (by omega) _) (by simp [dkind]) _).mono (by omega) (by omega)
          · rw [hmap, sweepOf_append _ _ _ _ _ _ _ hsw, sweepOf_none hr]
        | _ => exact h3.elim
    | some s =>
      rw [hr] at HRD
      have hsl : s.length ≤ 1000000 := readN_bytes hr hsm
      gi_wp2_with fail
      refine wpIn_mono (Q := Exit.then (fun a' w' => a' = { tmps := #[.pointer (some ⟨b, 0, none⟩), .pointer (some ⟨w.heap.size, 0, none⟩), .pointer (some ⟨w.heap.size + 1, 0, none⟩), .pointer (some ⟨w.heap.size + 1 + 1, 0, none⟩), .pointer (some ⟨w.heap.size + 1 + 1 + 1, 0, none⟩), .int .i64 x.1, .string ⟨s.toArray⟩, .int .i64 0, undef, .pointer (some ⟨b, 0, none⟩), .pointer (some ⟨b, 0, none⟩), .pointer (some ⟨b, 0, none⟩), .pointer (some ⟨d, 0, none⟩), .func (.func 95) #[] #[.pointer (some ⟨w.heap.size + 1 + 1 + 1 + 1, 0, none⟩)], .int .i64 x.1, .tuple #[.string ⟨s.toArray⟩, .int .i64 0], .pointer (some ⟨b, 0, none⟩), .pointer (some ⟨b, 0, none⟩), .pointer (some ⟨b, 0, none⟩), .pointer (some ⟨d, 0, none⟩), .int .i64 x.1, .string ⟨(seg x.1).toArray⟩, .tuple #[.string ⟨s.toArray⟩, .int .i64 0], .string ⟨s.toArray⟩, .int .i64 0, undef, undef, undef, undef, undef, undef, undef, undef, undef, undef, undef, undef, undef, undef, undef, undef, undef, undef, undef, undef, undef, undef, undef, undef, undef, undef, undef, undef, undef, undef, undef], defers := [] } ∧ Below W.heap.size W w') (fun _ _ _ => False)) ?reg ?post
      case reg =>
        gi_region_with_o (first
          | (refine ⟨trivial, ?_⟩; gi_at_call 51; refine (CallsIn.inRound lp (callsIn_wide.2 (HF.out _ (by first | exact Below.refl _ _ | exact ⟨rfl, rfl, rfl, Nat.le_refl _, fun _ _ => rfl⟩)))).mono ?_; rintro e w2 ⟨rfl, k2⟩; have K2 := hide k2; have e0 := (k2.cell (p := ⟨w.heap.size, 0, none⟩) hG.b0.lt).trans q0; have e1 := (k2.cell (p := ⟨b, 0, none⟩) hbW).trans q1; clear k2)
          | (refine ⟨trivial, ?_⟩; gi_at_call 66; refine (CallsIn.inRound lp (callsIn_wide.2 (HRD.out _ K2.out))).mono ?_; rintro e w3 ⟨rfl, rfl⟩))
        all_goals exact ⟨rfl, K2.out⟩
      case post =>
        rintro e a3 w3 h3
        cases e with
        | normal =>
          obtain ⟨rfl, k3⟩ := h3
          refine (‹∀ (a : Act) (w : World), _ → _›) _ _ ?_
          have HG := hide (HST.out hG (Dsk.of_below k3))
          have K3 := hide k3
          have u0 := HG.out.b0.cell
          have HTR : Hid (Calls Tryz.prog 69 #[.pointer (some ⟨b, 0, none⟩), .int .i64 x.1, .int .i64 s.length] w3 fun e w' => e = .returned (.tuple #[.int .i64 ((trimOf l x.1 s.length T.a).2.1 : Nat), .int .i64 (trimOf l x.1 s.length T.a).2.2]) ∧ (∃ T' : WD, T'.a = (trimOf l x.1 s.length T.a).1 ∧ DiskAt Tryz.prog (fun b => b < w.heap.size + 1 + 1 + 1 + 1 + 1 ∧ M b) base (K + pre.length + 1) d w' T') ∧ Dsk (fun b => b < w.heap.size + 1 + 1 + 1 + 1 + 1 ∧ M b) base w3 w') :=
            trim_any base base' (K + pre.length) b d x.1 s.length T l rv w3 (hD.below k3) (Vars.below HVW.out k3) HG.out.log (Nat.le_trans hbaseW k3.size) hK' x.2 hsl hl
          have htok := fun h0 => trimOf_ok (l := l) (n := x.1) (size := s.length) (a := T.a) h0 hdn hsm hris
          have hsg := fun h0 => sweepOf_go (l := l) (ns := []) (c := cut) hr h0
          have hss := fun h0 => sweepOf_stop (l := l) (ns := []) (c := cut) hr h0
          have HSW := hide (And.intro hsw (And.intro htok (And.intro hsg hss)))
          clear q0 q1 k3 hsw htok hsg hss
          generalize trimOf l x.1 s.length T.a = t at *
          obtain ⟨ta, toff, te⟩ := t
          simp only at HTR HSW
          by_cases h0 : te = 0
          · subst h0
            have hok := HSW.out.2.1 (by first | rfl | trivial)
            have hofl : toff ≤ 1000000 := Nat.le_trans hok.2.2 hsl
            have hcut2 : cut ≤ 5000 * 1000000 := Nat.le_trans hcut (Nat.mul_le_mul_right _ (by omega))
            by_cases hf : 0 < l.first ∧ l.first ≤ x.1
            · have hd1 : decide ((0 : Int) < (l.first : Int)) = true := decide_eq_true (by omega)
              have hd2 : decide ((l.first : Int) ≤ (x.1 : Int)) = true := decide_eq_true (by omega)
              gi_wp2_with (refine ⟨trivial, ?_⟩; gi_at_call 69; refine (CallsIn.inRound lp (callsIn_wide.2 HTR.out)).mono ?_; rintro e w4 ⟨rfl, ⟨T4, hT4, hD4⟩, k4⟩; have H4 := hide (And.intro hT4 (And.intro hD4 k4)); have G4 := hide (HST.out HG.out k4); have t1 := G4.out.b1.cell; have t2 := G4.out.b2.cell; have t3 := G4.out.b3.cell; have g1 := G4.out.b1.frozen; have g2 := G4.out.b2.frozen; have g3 := G4.out.b3.frozen; have v0 := G4.out.b0.cell; have v3 := G4.out.log.cells.2.2.2.1; clear hT4 hD4 k4)
              refine ⟨(((keeps_others K3.out).from _).trans (keeps_dsk H4.out.2.2)).trans ((KeepsOthers.setCell _ _ _).from _), ((keeps_ints K3.out).trans (ints_dsk H4.out.2.2)).trans (ints_box (by omega) _), T4, cut + toff, ?_, ?_, ?_, ?_, ?_, ?_⟩
              · have := G4.out.cutTo (by decide) (cut + toff)
                rw [show ((cut + toff : Nat) : Int) = (cut : Int) + (toff : Int) by omega] at this
                exact this
              · rw [hlen]
                exact DiskAt.box H4.out.2.1 G4.out.b3 (by simp [dkind]) _
              · rw [hmap, sweepOf_append _ _ _ _ _ _ _ HSW.out.1, HSW.out.2.2.1 (by first | rfl | trivial), if_pos hf, H4.out.1]; rfl
              · rw [H4.out.1]; exact hok.1
              · rw [H4.out.1]; exact hok.2.1
              · rw [hlen, Nat.add_mul, Nat.one_mul]
                exact Nat.add_le_add hcut hofl
            · by_cases hf1 : 0 < l.first
              · have hd1 : decide ((0 : Int) < (l.first : Int)) = true := decide_eq_true (by omega)
                have hd2 : decide ((l.first : Int) ≤ (x.1 : Int)) = false := decide_eq_false (by omega)
                gi_wp2_with (refine ⟨trivial, ?_⟩; gi_at_call 69; refine (CallsIn.inRound lp (callsIn_wide.2 HTR.out)).mono ?_; rintro e w4 ⟨rfl, ⟨T4, hT4, hD4⟩, k4⟩; have H4 := hide (And.intro hT4 (And.intro hD4 k4)); have G4 := hide (HST.out HG.out k4); have t1 := G4.out.b1.cell; have t2 := G4.out.b2.cell; have t3 := G4.out.b3.cell; have g1 := G4.out.b1.frozen; have g2 := G4.out.b2.frozen; have g3 := G4.out.b3.frozen; have v0 := G4.out.b0.cell; have v3 := G4.out.log.cells.2.2.2.1; clear hT4 hD4 k4)
                refine ⟨((keeps_others K3.out).from _).trans (keeps_dsk H4.out.2.2), (keeps_ints K3.out).trans (ints_dsk H4.out.2.2), T4, cut, G4.out, ?_, ?_, ?_, ?_, ?_⟩
                · rw [hlen]; exact H4.out.2.1
                · rw [hmap, sweepOf_append _ _ _ _ _ _ _ HSW.out.1, HSW.out.2.2.1 (by first | rfl | trivial), if_neg hf, H4.out.1]; rfl
                · rw [H4.out.1]; exact hok.1
                · rw [H4.out.1]; exact hok.2.1
                · rw [hlen]; exact Nat.le_trans hcut (Nat.mul_le_mul_right _ (Nat.le_succ _))
              · have hd1 : decide ((0 : Int) < (l.first : Int)) = false := decide_eq_false (by omega)
                gi_wp2_with (refine ⟨trivial, ?_⟩; gi_at_call 69; refine (CallsIn.inRound lp (callsIn_wide.2 HTR.out)).mono ?_; rintro e w4 ⟨rfl, ⟨T4, hT4, hD4⟩, k4⟩; have H4 := hide (And.intro hT4 (And.intro hD4 k4)); have G4 := hide (HST.out HG.out k4); have t1 := G4.out.b1.cell; have t2 := G4.out.b2.cell; have t3 := G4.out.b3.cell; have g1 := G4.out.b1.frozen; have g2 := G4.out.b2.frozen; have g3 := G4.out.b3.frozen; have v0 := G4.out.b0.cell; have v3 := G4.out.log.cells.2.2.2.1; clear hT4 hD4 k4)
                refine ⟨((keeps_others K3.out).from _).trans (keeps_dsk H4.out.2.2), (keeps_ints K3.out).trans (ints_dsk H4.out.2.2), T4, cut, G4.out, ?_, ?_, ?_, ?_, ?_⟩
                · rw [hlen]; exact H4.out.2.1
                · rw [hmap, sweepOf_append _ _ _ _ _ _ _ HSW.out.1, HSW.out.2.2.1 (by first | rfl | trivial), if_neg hf, H4.out.1]; rfl
                · rw [H4.out.1]; exact hok.1
                · rw [H4.out.1]; exact hok.2.1
                · rw [hlen]; exact Nat.le_trans hcut (Nat.mul_le_mul_right _ (Nat.le_succ _))
          · have hb0 : (te == 0) = false := by simpa using h0
            gi_wp2_with (refine ⟨trivial, ?_⟩; gi_at_call 69; refine (CallsIn.inRound lp (callsIn_wide.2 HTR.out)).mono ?_; rintro e w4 ⟨rfl, ⟨T4, hT4, hD4⟩, k4⟩; have H4 := hide (And.intro hT4 (And.intro hD4 k4)); have G4 := hide (HST.out HG.out k4); have t1 := G4.out.b1.cell; have t2 := G4.out.b2.cell; have t3 := G4.out.b3.cell; have g1 := G4.out.b1.frozen; have g2 := G4.out.b2.frozen; have g3 := G4.out.b3.frozen; have v0 := G4.out.b0.cell; have v3 := G4.out.log.cells.2.2.2.1; clear hT4 hD4 k4)
            refine ⟨(((keeps_others K3.out).from _).trans (keeps_dsk H4.out.2.2)).trans (((KeepsOthers.setCell _ _ _).trans (KeepsOthers.setCell _ _ _)).from _), rfl, T4, cut, te, G4.out.told (by decide) 0 te, ?_, ?_, h0⟩
            · rw [hlen]
              exact DiskAt.box (DiskAt.box H4.out.2.1 G4.out.b1 (by simp [dkind]) _) (G4.out.b2.other (by omega) _) (by simp [dkind]) _
            · rw [hmap, sweepOf_append _ _ _ _ _ _ _ HSW.out.1, HSW.out.2.2.2 h0, H4.out.1]
        | _ => exact h3.elim
  case done =>
    rintro D ys W hD' hys ⟨T, cut, hG, hD, hsw, hdn, hsm, hcut⟩ hK'
    have b1 := hG.b1.cell
    have b2 := hG.b2.cell
    have b3 := hG.b3.cell
    have f1 := hG.b1.frozen
    have f2 := hG.b2.frozen
    gi_wp2
    have hK2 := (KeepsOthers.setCell _ ⟨w.heap.size + 1 + 1, 0, none⟩ (.int .i64 0)).same D _ ((KeepsOthers.setCell W ⟨w.heap.size + 1, 0, none⟩ (.int .i64 (cut : Int))).same D _ hK' rfl) rfl
    refine ⟨by simp, .inl ⟨_, _, rfl, run_takeDeferred hK2, ?_⟩⟩
    have hD2 : w.heap.size + 1 + 1 + 1 + 1 + 1 ≤ D := by rw [← hz5]; exact hD'
    have hG' := (hG.told (by decide) (cut : Int) 0).turned (grownBy_putObj' _ D (.deferred none)) (fun r e => by cases e; exact ⟨by omega, _, hK2, rfl⟩)
    have hD3 := DiskAt.turned (DiskAt.box (DiskAt.box hD hG.b1 (by simp [dkind]) (.int .i64 (cut : Int))) (hG.b2.other (by omega) _) (by simp [dkind]) (.int .i64 0)) (grownBy_putObj' _ D (.deferred none)) (fun r e => by cases e; exact ⟨hD2, _, hK2, rfl⟩)
    have h1 := hG'.b1.cell
    have h2 := hG'.b2.cell
    rw [hys] at hsw
    have hyl : ys.length ≤ S.a.files.length := by have := congrArg List.length hys; rw [List.length_map] at this; rw [this]; exact nums_length _
    refine ⟨.tuple #[.int .i64 (cut : Int), .int .i64 0], ?_, ?_, ?_, dsk_all (fun _ h => h.2) hG'.dsk⟩
    · simp [results, Tryz.f38, go_sem, h1, h2]
    · rw [hsw]
    · rw [hsw]
      exact ⟨T, rfl, (DiskAt.re hD3 fun b hb => (hD3.own b hb).2).mono (by omega) (by omega)⟩
  case stop =>
    rintro D c pre W hD' hpre ⟨rfl, T, cut, e, hG, hD, hsw, hne⟩ hK'
    gi_wp2
    refine ⟨by simp, .inl ⟨_, _, rfl, run_takeDeferred hK', ?_⟩⟩
    have hD2 : w.heap.size + 1 + 1 + 1 + 1 + 1 ≤ D := by rw [← hz5]; exact hD'
    have hG' := hG.turned (grownBy_putObj' _ D (.deferred none)) (fun r e => by cases e; exact ⟨by omega, _, hK', rfl⟩)
    have hD3 := DiskAt.turned hD (grownBy_putObj' _ D (.deferred none)) (fun r e => by cases e; exact ⟨hD2, _, hK', rfl⟩)
    have h1 := hG'.b1.cell
    have h2 := hG'.b2.cell
    obtain ⟨rest, hrest⟩ := hpre
    have hse : sweepOf l (nums S.a.files) S.a 0 = (T.a, 0, e) := by rw [← hrest, sweepOf_err _ _ _ _ _ (by rw [hsw]; exact hne), hsw]
    have hpl : pre.length ≤ S.a.files.length := by
      have := congrArg List.length hrest
      rw [List.length_append, List.length_map] at this
      have := nums_length S.a.files
      omega
    refine ⟨.tuple #[.int .i64 0, .int .i64 e], ?_, ?_, ?_, dsk_all (fun _ h => h.2) hG'.dsk⟩
    · simp [results, Tryz.f38, go_sem, h1, h2]
    · rw [hse]
      rfl
    · rw [hse]
      exact ⟨T, rfl, (DiskAt.re hD3 fun b hb => (hD3.own b hb).2).mono (by omega) (by omega)⟩
end Go.Proofs.YtoineobjmllicaaGreatDoor
