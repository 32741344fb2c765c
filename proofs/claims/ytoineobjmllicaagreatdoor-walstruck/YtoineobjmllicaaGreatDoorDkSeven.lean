/- Several texts in one: DiskTrunc, DiskMove, DiskSync. -/
import Derived.Test.YtoineobjmllicaaGreatDoorDkFive
import Derived.Test.YtoineobjmllicaaGreatDoorQuietAll
/- Contract: a file is cut. -/
namespace Go.Dk
open Go.RowKit
variable {M : Nat → Prop}
variable {P : Program} {base K d : Nat} {w w' : World} {S : WD}
/-- A file of the disk is settled. -/
theorem settle_disk (h : DiskAt P M base K d w S) {F : WF} (hF : F ∈ S.fs) {l : Bs} (hl : l.length ≤ 2000 * K) (hs : SettledTo base w w' F l) :
    ∃ F' : WF, F'.a = F.a.settle l ∧ F'.blk = F.blk ∧ DiskAt P M base K d w' (S.withF (ins WF.nm F' S.fs)) ∧ Dsk M base w w' := by
  obtain ⟨F', h1, h2, h3, h4, h5⟩ := hs
  have e : F'.nm = F.nm := by unfold WF.nm; rw [h1]; rfl
  obtain ⟨k1, k2⟩ := h.file hF e h2 h4 h3 (fun b hb => .inl (h5 b hb)) (by rw [h1]; exact (h.small F hF).settle l hl)
  exact ⟨F', h1, h2, k1, k2⟩
theorem withF_ins (h : DiskAt P M base K d w S) (F' : WF) : (S.withF (ins WF.nm F' S.fs)).counted.a = S.a.left (ins AF.name F'.a S.a.files) := by
  unfold WD.counted WD.withF A.left
  simp only
  rw [map_ins (na := WF.nm) (nb := AF.name) WF.a (fun _ => rfl), h.same]
end Go.Dk
namespace Go.Proofs.YtoineobjmllicaaGreatDoor
open Go.RowKit Go.Dk
variable {M : Nat → Prop}
set_option maxRecDepth 5000 in
set_option maxHeartbeats 1000000 in
theorem truncfn_any (base K d : Nat) (S : WD) (w : World) (h : DiskAt Tryz.prog M base K d w S) (hl : K + 1 ≤ 5000) (F : WF) (hm : F ∈ S.fs) (n : Nat) (hn : n ≤ F.a.bytes.length)
    (g0 g1 : Nat) (b0 : w.heap[g0]? = some (.cells #[.pointer (some ⟨F.blk, 0, none⟩)] 79 (0, 0))) (b1 : w.heap[g1]? = some (.cells #[.int .i64 n] 3 (0, 0))) :
    Calls Tryz.prog 116 #[.pointer (some ⟨g0, 0, none⟩), .pointer (some ⟨g1, 0, none⟩)] w fun e w' => e = .returned (.tuple #[]) ∧
      ∃ T : WD, T.counted.a = S.a.left (ins AF.name (F.a.settle (F.a.bytes.take n)) S.a.files) ∧ T.a.changes = S.a.changes ∧ DiskAt Tryz.prog M base (K + 1) d w' T ∧ Dsk M base w w' := by
  have hF := h.files.files F hm
  have hbig := (h.pieces hm).2.2
  have q0 : w.cell? ⟨g0, 0, none⟩ = some (.pointer (some ⟨F.blk, 0, none⟩)) := by rw [cell_of_row _ _ _ _ _ _ b0]; rfl
  have q1 : w.cell? ⟨g1, 0, none⟩ = some (.int .i64 n) := by rw [cell_of_row _ _ _ _ _ _ b1]; rfl
  have HFin : Hid (∀ q (v : Value) w2, Row base w v (F.a.bytes.take n) → (∀ g, v.ownBlock = some g → F.nowV.ownBlock = some g) → w2.heap[F.blk]? = some (.cells #[.bool true, v, .slice none 0 0] 118 (0, 0)) → Tch (· = F.blk) (w.drewN q) w2 →
      ∃ T : WD, T.counted.a = S.a.left (ins AF.name (F.a.settle (F.a.bytes.take n)) S.a.files) ∧ T.a.changes = S.a.changes ∧ DiskAt Tryz.prog M base (K + 1) d w2 T ∧ Dsk M base w w2) := fun q v w2 hv hown hr t => by
    have hset : SettledTo base w w2 F (F.a.bytes.take n) := settled_to hF (w1 := w.drewN q) ⟨rfl, rfl, rfl, Nat.le_refl _, fun _ _ => rfl⟩ v _ hv (fun g hg => .inr (.inr ⟨_, WF.now_mem hF.story, hown g hg⟩)) hr t
    obtain ⟨F', e1, e2, k1, k2⟩ := settle_disk h hm (by have := (h.small F hm).bytes; simp; omega) hset
    exact ⟨S.withF (ins WF.nm F' S.fs), by rw [withF_ins h, e1], rfl, k1.mono (Nat.le_succ _) hl, k2⟩
  have HN : Hid (∀ q, Calls Tryz.prog 63 #[.pointer (some ⟨F.blk, 0, none⟩)] (w.drewN q) fun e w' => e = .returned F.nowV ∧ w' = w.drewN q) := fun q => now_any base F (w.drewN q) (hF.kept fun _ _ => rfl) (h.pieces hm).1
  have HS : Hid (∀ q v, (∃ a m c, v = .slice a m c) → Calls Tryz.prog 62 #[.pointer (some ⟨F.blk, 0, none⟩), v] (w.drewN q) fun e w' => e = .returned (.tuple #[]) ∧ w'.heap[F.blk]? = some (.cells #[.bool true, v, .slice none 0 0] 118 (0, 0)) ∧ Tch (· = F.blk) (w.drewN q) w' ∧ w'.heap.size = (w.drewN q).heap.size) := fun q v hv => settle_any F.blk _ _ _ v (w.drewN q) hF.row hv
  have hnow := hF.now
  have hcell : ∀ q, (w.drewN q).cell? ⟨g1, 0, none⟩ = some (.int .i64 n) := fun q => q1
  rcases hnow.2 with ⟨hv, h0⟩ | ⟨g, cap, cur, hv, _, _, hcap, _⟩
  · have hn0 : n = 0 := by omega
    subst hn0
    rw [hv] at HN
    have hrow : Row base w (.slice none 0 0) (F.a.bytes.take 0) := by rw [List.take_zero]; exact Row.nil _ _
    have HR := hide hrow
    clear h hF b0 b1 hnow hm hv hrow h0
    generalize F.blk = B at *
    go_enter Tryz.func116, Tryz.ntmps116
    refine QTail.wp_region_tail (fun w' => ∃ n, w' = w.drewN n) 5 (by kernel_rfl) (by kernel_rfl) ⟨1, rfl⟩ ?_
    simp only [List.take_succ_cons, List.take_zero, List.drop_succ_cons, List.drop_zero]
    iterate 2 (first | go_big_quiet_step (fail) | quiet_step (fail))
    refine QuietClass.call1 rfl rfl Tryz.call63 (fun w' hc => by obtain ⟨q, rfl⟩ := hc; exact (HN.out q).mono fun e w'' ⟨e1, e2⟩ => ⟨e1, q, e2⟩) rfl ?_; simp only [Act.put, List.setIfInBounds_toArray, List.set_cons_succ, List.set_cons_zero]
    iterate 2 (first | go_big_quiet_step (fail) | quiet_step (fail))
    refine wpQuiet_nil ?_
    rintro _ ⟨nq, rfl⟩
    go_wp2_with (go_at_call 62; refine (HS.out nq _ ⟨_, _, _, rfl⟩).mono ?_; rintro e w2 ⟨rfl, hr2, t2, -⟩)
    go_end0
    exact ⟨rfl, HFin.out nq _ w2 HR.out (fun g hg => by cases hg) hr2 t2⟩
  · rw [hv] at HN
    have hrow : Row base w (.slice (some ⟨g, 0, none⟩) n cap) (F.a.bytes.take n) := by rw [hv] at hnow; exact hnow.take n hn
    have HR := hide hrow
    have HV : Hid (F.nowV.ownBlock = some g) := by rw [hv]; rfl
    have hni : (n : Int) ≤ (cap : Int) := by omega
    clear h hF b0 b1 hnow hm hv hrow
    generalize F.blk = B at *
    generalize F.a.bytes.length = L at *
    go_enter Tryz.func116, Tryz.ntmps116
    refine QTail.wp_region_tail (fun w' => ∃ n, w' = w.drewN n) 5 (by kernel_rfl) (by kernel_rfl) ⟨1, rfl⟩ ?_
    simp only [List.take_succ_cons, List.take_zero, List.drop_succ_cons, List.drop_zero]
    iterate 2 (first | go_big_quiet_step (fail) | quiet_step (fail))
    refine QuietClass.call1 rfl rfl Tryz.call63 (fun w' hc => by obtain ⟨q, rfl⟩ := hc; exact (HN.out q).mono fun e w'' ⟨e1, e2⟩ => ⟨e1, q, e2⟩) rfl ?_; simp only [Act.put, List.setIfInBounds_toArray, List.set_cons_succ, List.set_cons_zero]
    iterate 2 (first | go_big_quiet_step (fail) | quiet_step (fail))
    refine wpQuiet_nil ?_
    rintro _ ⟨nq, rfl⟩
    go_wp2_with (go_at_call 62; refine (HS.out nq _ ⟨_, _, _, rfl⟩).mono ?_; rintro e w2 ⟨rfl, hr2, t2, -⟩)
    go_end0
    exact ⟨rfl, HFin.out nq _ w2 HR.out (fun g' hg => by cases hg; exact HV.out) hr2 t2⟩
theorem trunc_err (base K d : Nat) (S : WD) (name : ByteArray) (n : Int) (r : Int) (w : World) (h : DiskAt Tryz.prog M base K d w S) (hs : name.size ≤ maxLen) (h0 : r ≠ 0)
    (hr : ableOf S.a name.data.toList = r ∨ (ableOf S.a name.data.toList = 0 ∧ seek WF.nm name.data.toList S.fs = none ∧ r = 2)) :
    Calls Tryz.prog 98 #[.pointer (some ⟨d, 0, none⟩), .string name, .int .i64 n] w fun e w' => e = .returned (.int .i64 r) ∧ Below w.heap.size w w' := by
  have HF : Hid (∀ w1, Below w.heap.size w w1 → Calls Tryz.prog 93 #[.pointer (some ⟨d, 0, none⟩), .string name] w1 fun e w' => e = .returned (.tuple #[.pointer none, .int .i64 r]) ∧ w' = w1) := fun w1 hb => by
    rcases hr with hr | ⟨h1, h2, rfl⟩
    · exact find_err base K d S name r w1 (h.below hb) hs hr h0
    · exact find_none base K d S name w1 (h.below hb) hs h1 h2
  have hne : (r != 0) = true := by simpa using h0
  clear h hr
  go_enter Tryz.func98, Tryz.ntmps98
  go_wp2_with (go_at_call 93; refine (HF.out _ ((Below.refl _ _).alloc (Nat.le_refl _) _)).mono ?_; rintro e w' ⟨rfl, rfl⟩)
  go_ret
  exact ⟨rfl, ((Below.refl _ _).alloc (Nat.le_refl _) _).alloc (by simp) _⟩
set_option maxRecDepth 5000 in
set_option maxHeartbeats 1000000 in
theorem trunc_arg (base K d : Nat) (S : WD) (name : ByteArray) (n : Int) (w : World) (h : DiskAt Tryz.prog M base K d w S) (hs : name.size ≤ maxLen) (ha : ableOf S.a name.data.toList = 0) (F : WF) (hf : seek WF.nm name.data.toList S.fs = some F) (hn : n < 0 ∨ (F.a.bytes.length : Int) < n) :
    Calls Tryz.prog 98 #[.pointer (some ⟨d, 0, none⟩), .string name, .int .i64 n] w fun e w' => e = .returned (.int .i64 1) ∧ Below w.heap.size w w' := by
  have hm := (seek_some hf).1
  have HF : Hid (∀ w1, Below w.heap.size w w1 → Calls Tryz.prog 93 #[.pointer (some ⟨d, 0, none⟩), .string name] w1 fun e w' => e = .returned (.tuple #[.pointer (some ⟨F.blk, 0, none⟩), .int .i64 0]) ∧ w' = w1) := fun w1 hb => find_some base K d S name F w1 (h.below hb) hs ha hf
  have hbA : Below w.heap.size w ((w.alloc (.cells #[.int .i64 n] 3)).alloc (.cells #[.pointer (some ⟨F.blk, 0, none⟩)] 79)) := ((Below.refl _ _).alloc (Nat.le_refl _) _).alloc (by simp) _
  obtain ⟨a, c, hv⟩ := (h.files.files F hm).now.form
  have HN : Hid (∀ w1, Below ((w.alloc (.cells #[.int .i64 n] 3)).alloc (.cells #[.pointer (some ⟨F.blk, 0, none⟩)] 79)).heap.size ((w.alloc (.cells #[.int .i64 n] 3)).alloc (.cells #[.pointer (some ⟨F.blk, 0, none⟩)] 79)) w1 → Calls Tryz.prog 63 #[.pointer (some ⟨F.blk, 0, none⟩)] w1 fun e w' => e = .returned (.slice a F.a.bytes.length c) ∧ Below w1.heap.size w1 w') := fun w1 hb =>
    (now_any base F w1 (((h.below hbA).below hb).files.files F hm) (h.pieces hm).1).mono fun e w' ⟨e1, e2⟩ => ⟨by rw [e1, hv], by rw [e2]; exact Below.refl _ _⟩
  have hbig := (h.pieces hm).2.2
  clear h hf hm hv
  generalize F.blk = B at *
  generalize F.a.bytes.length = L at *
  go_enter Tryz.func98, Tryz.ntmps98
  go_upto_region 4 with (go_at_call 93; refine (HF.out _ ((Below.refl _ _).alloc (Nat.le_refl _) _)).mono ?_; rintro e w' ⟨rfl, rfl⟩)
  have x0 := cell_regrown (show ((w.alloc (.cells #[.int .i64 n] 3)).alloc (.cells #[.pointer (some ⟨B, 0, none⟩)] 79)).cell? ⟨w.heap.size, 0, none⟩ = some (.int .i64 n) by rw [cell_of_row _ _ _ _ _ _ ((heap_alloc_old _ _ (by simp)).trans (heap_alloc_new w _))]; rfl)
  have x1 := cell_regrown (show ((w.alloc (.cells #[.int .i64 n] 3)).alloc (.cells #[.pointer (some ⟨B, 0, none⟩)] 79)).cell? ⟨w.heap.size + 1, 0, none⟩ = some (.pointer (some ⟨B, 0, none⟩)) by
    have := heap_alloc_new (w.alloc (.cells #[.int .i64 n] 3)) (.cells #[.pointer (some ⟨B, 0, none⟩)] 79)
    rw [cell_of_row _ _ _ _ _ _ (by simpa using this)]; rfl)
  generalize (w.alloc (.cells #[.int .i64 n] 3)).alloc (.cells #[.pointer (some ⟨B, 0, none⟩)] 79) = W at *
  by_cases hneg : n < 0
  · have hd : decide (n < 0) = true := decide_eq_true hneg
    refine QuietCalls.region (by kernel_rfl) (by kernel_rfl) ?_
    iterate 9 (first | go_big_quiet_step (fail) | quiet_step (fail))
    refine wpQuiet_nil ?_
    intro w6 k6
    go_wp2
    go_ret
    exact ⟨rfl, hbA.trans (k6.mono hbA.size)⟩
  · have hd : decide (n < 0) = false := decide_eq_false hneg
    have hg : decide ((L : Int) < n) = true := decide_eq_true (hn.resolve_left hneg)
    refine QuietCalls.region (by kernel_rfl) (by kernel_rfl) ?_
    iterate 5 (first | go_big_quiet_step (fail) | quiet_step (fail))
    refine QuietCalls.call1 rfl rfl Tryz.call63 (fun w' hb => HN.out w' (by exact hb)) rfl ?_; simp only [Act.put, List.setIfInBounds_toArray, List.set_cons_succ, List.set_cons_zero]
    iterate 3 (first | go_big_quiet_step (fail) | quiet_step (fail))
    refine wpQuiet_nil ?_
    intro w6 k6
    go_wp2
    go_ret
    exact ⟨rfl, hbA.trans (k6.mono hbA.size)⟩
set_option maxRecDepth 5000 in
set_option maxHeartbeats 1000000 in
theorem trunc_some (base K d : Nat) (S : WD) (name : ByteArray) (n : Int) (w : World) (h : DiskAt Tryz.prog M base K d w S) (hs : name.size ≤ maxLen) (ha : ableOf S.a name.data.toList = 0) (F : WF) (hf : seek WF.nm name.data.toList S.fs = some F) (m : Nat) (hnm : n = m) (hn : m ≤ F.a.bytes.length) (r : Int) (R : World → Prop)
    (hch : ∀ w1, Below w.heap.size w w1 → w1.heap[w.heap.size]? = some (.cells #[.int .i64 n] 3 (0, 0)) → w1.heap[w.heap.size + 1]? = some (.cells #[.pointer (some ⟨F.blk, 0, none⟩)] 79 (0, 0)) →
      Calls Tryz.prog 87 #[.pointer (some ⟨d, 0, none⟩), .func (.func 116) #[] #[.pointer (some ⟨w.heap.size + 1, 0, none⟩), .pointer (some ⟨w.heap.size, 0, none⟩)]] w1 fun e w' => e = .returned (.int .i64 r) ∧ R w') :
    Calls Tryz.prog 98 #[.pointer (some ⟨d, 0, none⟩), .string name, .int .i64 n] w fun e w' => e = .returned (.int .i64 r) ∧ R w' := by
  have hm := (seek_some hf).1
  have HF : Hid (∀ w1, Below w.heap.size w w1 → Calls Tryz.prog 93 #[.pointer (some ⟨d, 0, none⟩), .string name] w1 fun e w' => e = .returned (.tuple #[.pointer (some ⟨F.blk, 0, none⟩), .int .i64 0]) ∧ w' = w1) := fun w1 hb => find_some base K d S name F w1 (h.below hb) hs ha hf
  have hbA : Below w.heap.size w ((w.alloc (.cells #[.int .i64 n] 3)).alloc (.cells #[.pointer (some ⟨F.blk, 0, none⟩)] 79)) := ((Below.refl _ _).alloc (Nat.le_refl _) _).alloc (by simp) _
  obtain ⟨a, c, hv⟩ := (h.files.files F hm).now.form
  have HN : Hid (∀ w1, Below ((w.alloc (.cells #[.int .i64 n] 3)).alloc (.cells #[.pointer (some ⟨F.blk, 0, none⟩)] 79)).heap.size ((w.alloc (.cells #[.int .i64 n] 3)).alloc (.cells #[.pointer (some ⟨F.blk, 0, none⟩)] 79)) w1 → Calls Tryz.prog 63 #[.pointer (some ⟨F.blk, 0, none⟩)] w1 fun e w' => e = .returned (.slice a F.a.bytes.length c) ∧ Below w1.heap.size w1 w') := fun w1 hb =>
    (now_any base F w1 (((h.below hbA).below hb).files.files F hm) (h.pieces hm).1).mono fun e w' ⟨e1, e2⟩ => ⟨by rw [e1, hv], by rw [e2]; exact Below.refl _ _⟩
  have hbig := (h.pieces hm).2.2
  have HC := hide hch
  have hd : decide (n < 0) = false := decide_eq_false (by omega)
  have hg : decide ((F.a.bytes.length : Int) < n) = false := decide_eq_false (by omega)
  clear h hf hm hv hch hnm hn
  generalize F.blk = B at *
  generalize F.a.bytes.length = L at *
  go_enter Tryz.func98, Tryz.ntmps98
  go_upto_region 4 with (go_at_call 93; refine (HF.out _ ((Below.refl _ _).alloc (Nat.le_refl _) _)).mono ?_; rintro e w' ⟨rfl, rfl⟩)
  have y0 : ((w.alloc (.cells #[.int .i64 n] 3)).alloc (.cells #[.pointer (some ⟨B, 0, none⟩)] 79)).heap[w.heap.size]? = some (.cells #[.int .i64 n] 3 (0, 0)) := (heap_alloc_old _ _ (by simp)).trans (heap_alloc_new w _)
  have y1 : ((w.alloc (.cells #[.int .i64 n] 3)).alloc (.cells #[.pointer (some ⟨B, 0, none⟩)] 79)).heap[w.heap.size + 1]? = some (.cells #[.pointer (some ⟨B, 0, none⟩)] 79 (0, 0)) := by
    have := heap_alloc_new (w.alloc (.cells #[.int .i64 n] 3)) (.cells #[.pointer (some ⟨B, 0, none⟩)] 79)
    simpa using this
  have x0 := cell_regrown (show ((w.alloc (.cells #[.int .i64 n] 3)).alloc (.cells #[.pointer (some ⟨B, 0, none⟩)] 79)).cell? ⟨w.heap.size, 0, none⟩ = some (.int .i64 n) by rw [cell_of_row _ _ _ _ _ _ y0]; rfl)
  have x1 := cell_regrown (show ((w.alloc (.cells #[.int .i64 n] 3)).alloc (.cells #[.pointer (some ⟨B, 0, none⟩)] 79)).cell? ⟨w.heap.size + 1, 0, none⟩ = some (.pointer (some ⟨B, 0, none⟩)) by rw [cell_of_row _ _ _ _ _ _ y1]; rfl)
  have Y0 := hide y0
  have Y1 := hide y1
  clear y0 y1
  generalize (w.alloc (.cells #[.int .i64 n] 3)).alloc (.cells #[.pointer (some ⟨B, 0, none⟩)] 79) = W at *
  refine QuietCalls.region (by kernel_rfl) (by kernel_rfl) ?_
  iterate 5 (first | go_big_quiet_step (fail) | quiet_step (fail))
  refine QuietCalls.call1 rfl rfl Tryz.call63 (fun w' hb => HN.out w' (by exact hb)) rfl ?_; simp only [Act.put, List.setIfInBounds_toArray, List.set_cons_succ, List.set_cons_zero]
  iterate 3 (first | go_big_quiet_step (fail) | quiet_step (fail))
  refine wpQuiet_nil ?_
  intro w6 k6
  have HC6 := hide (HC.out w6 (hbA.trans (k6.mono hbA.size)) ((k6.block _ (block_lt Y0.out)).trans Y0.out) ((k6.block _ (block_lt Y1.out)).trans Y1.out))
  go_wp2_with (go_at_call 87; refine HC6.out.mono ?_; rintro e w7 ⟨rfl, hR⟩)
  go_ret
  exact ⟨rfl, hR⟩
end Go.Proofs.YtoineobjmllicaaGreatDoor
/- Contract: a file has another name. -/
namespace Go.Dk
open Go.RowKit Go.Maps
variable {M : Nat → Prop}
variable {P : Program} {base K d : Nat} {w w1 : World} {S : WD}
/-- A file that is of no disk now has a name, in the place of what had it. -/
theorem DiskAt.named (h : DiskAt P M base K d w S) {F : WF} (hF : FileAt base w F) (hap : ∀ G ∈ S.fs, ∀ b, G.foot b → ¬ F.foot b) {b n : Nat} (hb : S.mb = some b) (hn : n ≤ K)
    (hown : w1.ownsMap P 9 Rp b (n + 1) ((Dfs S.fs).put (.string F.nm) (.lit (.int .i64 F.blk)))) (tm : w.mapTurned w1 b) (hs : Small (K + 1) F.a) (hl : K + 1 ≤ 5000) :
    DiskAt P M base (K + 1) d w1 (S.withF (ins WF.nm F S.fs)) ∧ Dsk M base w w1 :=
  h.stored (F := F) (F' := F) (w1 := w) hF (fun G hG _ => hap G hG) (.refl _ _) hF (fun _ hb => .inl hb) hb hn hown tm hs hl
def named (dst l : Bs) : AF := ⟨dst, l, true, []⟩
theorem del_ins {α : Type} {nm : α → Bs} (F : α) {l : List α} (h : Rises nm l) : del nm (nm F) (ins nm F l) = del nm (nm F) l := by
  induction l with
  | nil => simp [ins, del]
  | cons g l ih =>
    unfold ins
    split
    · rename_i hb
      have := ih h.tail
      unfold del at this ⊢
      rw [List.filter_cons, List.filter_cons, this]
    · split
      · rename_i he
        simp [del, he]
      · simp [del]
theorem drewN_at (h : DiskAt P M base K d w S) (q : Nat) : DiskAt P M base K d (w.drewN q) S := h.below ⟨rfl, rfl, rfl, Nat.le_refl _, fun _ _ => rfl⟩
theorem Dsk.of_drewN {q : Nat} (h : Dsk M base (w.drewN q) w1) : Dsk M base w w1 := ⟨h.os, h.tape, h.output, h.size, h.block⟩
theorem map_at (h : DiskAt P M base K d w S) {b : Nat} (hb : S.mb = some b) : ∃ n, n ≤ K ∧ ∀ q, (w.drewN q).ownsMap P 9 Rp b n (Dfs S.fs) := by
  rcases h.map with ⟨e, _⟩ | ⟨b', n, e, _, hn, hown⟩
  · rw [hb] at e; cases e
  · rw [hb] at e
    cases e
    exact ⟨n, hn, fun _ => hown⟩
theorem cell_map (h : DiskAt P M base K d w S) {b : Nat} (hb : S.mb = some b) : w.cell? ⟨d, 0, none⟩ = some (.map (some b)) := by
  have := h.row
  unfold drow at this
  have := (Go.Proofs.YtoineobjmllicaaGreatDoor.cells6 this).1
  rw [hb] at this
  exact this
/-- A move, step by step: the file is settled, its name goes, it has the other one. -/
theorem move_core (h : DiskAt P M base K d w S) (hl : K + 1 ≤ 5000) {F : WF} (hm : F ∈ S.fs) (dst : Bs) (hto : nameOk dst = true) {w2 : World} (hs : SettledTo base w w2 F F.a.bytes) :
    ∃ (b n : Nat) (D : DataW Unit), Dsk M base w w2 ∧ w2.cell? ⟨d, 0, none⟩ = some (.map (some b)) ∧ n ≤ K ∧ (∀ q, (w2.drewN q).ownsMap P 9 Rp b n D) ∧
      ∀ q w3, w3.ownsMap P 9 Rp b n (D.del (.string F.nm)) → (w2.drewN q).mapTurned w3 b → Dsk M base w w3 ∧ w3.cell? ⟨d, 0, none⟩ = some (.map (some b)) ∧ ∃ (n' : Nat) (D' : DataW Unit), n' ≤ K ∧ (∀ q, (w3.drewN q).ownsMap P 9 Rp b n' D') ∧
        ∀ q w4, w4.ownsMap P 9 Rp b (n' + 1) (D'.put (.string dst) (.lit (.int .i64 F.blk))) → (w3.drewN q).mapTurned w4 b →
          ∃ T : WD, T.counted.a = S.a.left (ins AF.name (named dst F.a.bytes) (del AF.name F.nm S.a.files)) ∧ T.a.changes = S.a.changes ∧ DiskAt P M base (K + 1) d w4 T ∧ Dsk M base w w4 := by
  have hlen := (h.small F hm).bytes
  obtain ⟨F', e1, e2, k1, k2⟩ := settle_disk h hm hlen hs
  have en : F'.nm = F.nm := by unfold WF.nm; rw [e1]; rfl
  obtain ⟨b, hb⟩ : ∃ b, S.mb = some b := by
    rcases h.map with ⟨_, e⟩ | ⟨b, n, e, _⟩
    · rw [e] at hm; cases hm
    · exact ⟨b, e⟩
  obtain ⟨n, hn, hO⟩ := map_at k1 (b := b) hb
  refine ⟨b, n, _, k2, cell_map k1 hb, hn, hO, fun q w3 ho3 ht3 => ?_⟩
  obtain ⟨j1, j2⟩ := (drewN_at k1 q).gone (b := b) hb hn F.nm ho3 ht3
  have hlist : del WF.nm F.nm (S.withF (ins WF.nm F' S.fs)).fs = del WF.nm F.nm S.fs := by
    show del WF.nm F.nm (ins WF.nm F' S.fs) = _
    rw [← en]
    exact del_ins F' h.files.rises
  have j3 : Dsk M base w w3 := Dsk.trans k2 (Dsk.of_drewN j2)
  obtain ⟨n', hn', hO'⟩ := map_at j1 (b := b) hb
  refine ⟨j3, cell_map j1 hb, n', _, hn', hO', fun q' w4 ho4 ht4 => ?_⟩
  have hF' : FileAt base w2 F' := k1.files.files F' (by show F' ∈ ins WF.nm F' S.fs; exact (mem_ins_iff h.files.rises).2 (.inl rfl))
  obtain ⟨hbase', es, cl, hmb⟩ := k1.map.kind (b := b) hb
  have hF3 : FileAt base w3 F' := by
    refine hF'.touch (X := (· = b)) (w := w2) ?_ fun c hc e => hF'.not_map hmb (e ▸ hc)
    have := Tch.turned (X := (· = b)) ht3 rfl
    exact ⟨this.os, this.tape, this.output, this.size, this.block⟩
  have hFq : FileAt base (w3.drewN q') ⟨named dst F.a.bytes, F'.blk, F'.sv, F'.lv, F'.cs⟩ := by
    have hr := hF3.row
    have hall := hF3.all
    have hst := hF3.story
    have hsf := hF3.safe
    rw [e1] at hr hst
    refine ⟨hr, hF3.ge, fun p hp => ?_, hF3.loose, hst, fun p hp hpo => ?_⟩
    · have hp' : p ∈ F'.alls := by
        unfold WF.alls at hp ⊢
        rw [e1]
        exact hp
      exact hall p hp'
    · have hp' : p ∈ F'.alls := by
        unfold WF.alls at hp ⊢
        rw [e1]
        exact hp
      have := hsf p hp' hpo
      rw [e1] at this
      exact this
  have hap : ∀ G ∈ ((S.withF (ins WF.nm F' S.fs)).withF (del WF.nm F.nm (S.withF (ins WF.nm F' S.fs)).fs)).fs, ∀ c, G.foot c → ¬ (WF.mk (named dst F.a.bytes) F'.blk F'.sv F'.lv F'.cs).foot c := by
    intro G hG c hc hx
    obtain ⟨hG1, hG2⟩ := mem_del.1 (show G ∈ del WF.nm F.nm (ins WF.nm F' S.fs) from hG)
    refine k1.files.apart G hG1 F' ((mem_ins_iff h.files.rises).2 (.inl rfl)) (by rw [en]; exact hG2) c hc ?_
    rcases hx with hx | hx | ⟨p, hp, hx⟩
    · exact .inl hx
    · exact .inr (.inl hx)
    · refine .inr (.inr ⟨p, ?_, hx⟩)
      unfold WF.alls at hp ⊢
      rw [e1]
      exact hp
  obtain ⟨i1, i2⟩ := (drewN_at j1 q').named hFq hap (b := b) hb hn' (by rw [← e2] at ho4; exact ho4) ht4 ⟨Nat.zero_le _, fun i => by simp [AF.after, named]; omega, hto⟩ hl
  refine ⟨_, ?_, ?_, i1, Dsk.trans j3 (Dsk.of_drewN i2)⟩
  case refine_2 => rfl
  unfold WD.counted A.left
  show ({ S.a with files := (ins WF.nm (WF.mk (named dst F.a.bytes) F'.blk F'.sv F'.lv F'.cs) (del WF.nm F.nm (S.withF (ins WF.nm F' S.fs)).fs)).map WF.a, changes := S.a.changes + 1 } : A) = _
  rw [map_ins (na := WF.nm) (nb := AF.name) WF.a (fun _ => rfl), hlist, map_del (na := WF.nm) (nb := AF.name) WF.a (fun _ => rfl), h.same]
end Go.Dk
namespace Go.Proofs.YtoineobjmllicaaGreatDoor
open Go.RowKit Go.Dk
variable {M : Nat → Prop}
theorem settle_again {base : Nat} {w w' : World} {F : WF} (h : FileAt base w F) (q : Nat) (v : Value) (hv : v = F.nowV) (hr : w'.heap[F.blk]? = some (.cells #[.bool true, v, .slice none 0 0] 118 (0, 0))) (t : Tch (· = F.blk) (w.drewN q) w') : SettledTo base w w' F F.a.bytes := by
  subst hv
  exact settled_to h (w1 := w.drewN q) ⟨rfl, rfl, rfl, Nat.le_refl _, fun _ _ => rfl⟩ F.nowV _ h.now (fun g hg => .inr (.inr ⟨_, WF.now_mem h.story, hg⟩)) hr t
set_option maxRecDepth 5000 in
set_option maxHeartbeats 2000000 in
theorem movefn_any (base K d : Nat) (S : WD) (w : World) (h : DiskAt Tryz.prog M base K d w S) (hl : K + 1 ≤ 5000) (name dst : ByteArray) (hns : name.size ≤ maxLen) (hts : dst.size ≤ maxLen) (hto : nameOk dst.data.toList = true) (F : WF) (hf : seek WF.nm name.data.toList S.fs = some F)
    (g0 g1 g2 g3 : Nat) (b0 : w.heap[g0]? = some (.cells #[.pointer (some ⟨F.blk, 0, none⟩)] 79 (0, 0))) (b1 : w.heap[g1]? = some (.cells #[.pointer (some ⟨d, 0, none⟩)] 23 (0, 0))) (b2 : w.heap[g2]? = some (.cells #[.string name] 9 (0, 0))) (b3 : w.heap[g3]? = some (.cells #[.string dst] 9 (0, 0))) :
    Calls Tryz.prog 102 #[.pointer (some ⟨g0, 0, none⟩), .pointer (some ⟨g1, 0, none⟩), .pointer (some ⟨g2, 0, none⟩), .pointer (some ⟨g3, 0, none⟩)] w fun e w' => e = .returned (.tuple #[]) ∧
      ∃ T : WD, T.counted.a = S.a.left (ins AF.name (named dst.data.toList F.a.bytes) (del AF.name name.data.toList S.a.files)) ∧ T.a.changes = S.a.changes ∧ DiskAt Tryz.prog M base (K + 1) d w' T ∧ Dsk M base w w' := by
  obtain ⟨hm, hnm⟩ := seek_some hf
  have hF := h.files.files F hm
  have hcl := (h.pieces hm).1
  have q0 : w.cell? ⟨g0, 0, none⟩ = some (.pointer (some ⟨F.blk, 0, none⟩)) := by rw [cell_of_row _ _ _ _ _ _ b0]; rfl
  have HN : Hid (∀ q, Calls Tryz.prog 63 #[.pointer (some ⟨F.blk, 0, none⟩)] (w.drewN q) fun e w' => e = .returned F.nowV ∧ w' = w.drewN q) := fun q => now_any base F (w.drewN q) (hF.kept fun _ _ => rfl) hcl
  have HS : Hid (∀ q, Calls Tryz.prog 62 #[.pointer (some ⟨F.blk, 0, none⟩), F.nowV] (w.drewN q) fun e w' => e = .returned (.tuple #[]) ∧ SettledTo base w w' F F.a.bytes) := fun q =>
    (settle_any F.blk _ _ _ F.nowV (w.drewN q) hF.row (let ⟨a, c, e⟩ := hF.now.form; ⟨a, _, c, e⟩)).mono fun e w' ⟨e1, e2, e3, _⟩ => ⟨e1, settle_again hF q _ rfl e2 e3⟩
  have HM : Hid (∀ w2, SettledTo base w w2 F F.a.bytes → _) := fun w2 hs => move_core h hl hm dst.data.toList hto hs
  have HB : Hid (∀ w2, Dsk M base w w2 → w2.cell? ⟨g0, 0, none⟩ = some (.pointer (some ⟨F.blk, 0, none⟩)) ∧ w2.cell? ⟨g1, 0, none⟩ = some (.pointer (some ⟨d, 0, none⟩)) ∧ w2.cell? ⟨g2, 0, none⟩ = some (.string name) ∧ w2.cell? ⟨g3, 0, none⟩ = some (.string dst)) := fun w2 k =>
    ⟨by rw [cell_of_row _ _ _ _ _ _ (box_kept k b0 (by simp [dkind]))]; rfl, by rw [cell_of_row _ _ _ _ _ _ (box_kept k b1 (by simp [dkind]))]; rfl, by rw [cell_of_row _ _ _ _ _ _ (box_kept k b2 (by simp [dkind]))]; rfl, by rw [cell_of_row _ _ _ _ _ _ (box_kept k b3 (by simp [dkind]))]; rfl⟩
  have hkey : keyOf Tryz.prog 9 (.string name) = some (.string name.data.toList) := WideMaps.keyOf_string_mk Tryz.underlying9 hns
  have hkey2 : keyOf Tryz.prog 9 (.string dst) = some (.string dst.data.toList) := WideMaps.keyOf_string_mk Tryz.underlying9 hts
  have hlim := h.lim
  rw [hnm] at HM
  clear h hF b0 b1 b2 b3 hm hf hcl hnm
  obtain ⟨B, hB⟩ : ∃ B, F.blk = B := ⟨_, rfl⟩
  rw [hB] at HN HS HM HB q0
  clear hB
  go_enter Tryz.func102, Tryz.ntmps102
  go_wp2_with fail
  refine QTail.wp_region_tail (fun w' => ∃ n, w' = w.drewN n) 3 (by kernel_rfl) (by kernel_rfl) ⟨1, rfl⟩ ?_
  simp only [List.take_succ_cons, List.take_zero, List.drop_succ_cons, List.drop_zero]
  iterate 2 (first | go_big_quiet_step (fail) | quiet_step (fail))
  refine QuietClass.call1 rfl rfl Tryz.call63 (fun w' hc => by obtain ⟨q, rfl⟩ := hc; exact (HN.out q).mono fun e w'' ⟨e1, e2⟩ => ⟨e1, q, e2⟩) rfl ?_; simp only [Act.put, List.setIfInBounds_toArray, List.set_cons_succ, List.set_cons_zero]
  refine wpQuiet_nil ?_
  rintro _ ⟨nq, rfl⟩
  go_wp2_with (go_at_call 62; refine (HS.out nq).mono ?_; rintro e w2 ⟨rfl, hset⟩)
  obtain ⟨b, n, D, k2, c2, hn, hO, hnext⟩ := HM.out w2 hset
  obtain ⟨r0, r1, r2, r3⟩ := HB.out w2 k2
  have HO := hide hO
  have HX := hide hnext
  clear hO hnext hset HM HN HS q0 k2
  refine QTail.wp_region_tail (fun w' => ∃ n, w' = w2.drewN n) 5 (by kernel_rfl) (by kernel_rfl) ⟨1, rfl⟩ ?_
  simp only [List.take_succ_cons, List.take_zero, List.drop_succ_cons, List.drop_zero]
  repeat (first | go_big_quiet_step (fail) | quiet_step (fail))
  refine wpQuiet_nil ?_
  rintro _ ⟨nq2, rfl⟩
  go_wp2_with (first
    | (at_delete; refine wpList_delete_own _ rfl _ _ 65 9 rfl 79 law9 Tryz.underlying65 _ b n _ rfl (HO.out nq2) _ _ rfl hkey ?_; intro w3 hown3 hturn3)
    | go_in)
  obtain ⟨k3, c3, n', D', hn', hO', hnext'⟩ := HX.out nq2 w3 hown3 hturn3
  obtain ⟨s0, s1, s2, s3⟩ := HB.out w3 k3
  have HO' := hide hO'
  have HX' := hide hnext'
  clear hO' hnext' hown3 hturn3 HX HO HB r0 r1 r2 r3 c2 k3
  refine QTail.wp_region_tail (fun w' => ∃ n, w' = w3.drewN n) 6 (by kernel_rfl) (by kernel_rfl) ⟨1, rfl⟩ ?_
  simp only [List.take_succ_cons, List.take_zero, List.drop_succ_cons, List.drop_zero]
  repeat (first | go_big_quiet_step (fail) | quiet_step (fail))
  refine wpQuiet_nil ?_
  rintro _ ⟨nq3, rfl⟩
  go_wp2_with (first
    | (at_mapUpdate; refine wpList_mapUpdate_in _ rfl _ _ _ 65 rfl 9 79 law9 Tryz.underlying65 _ b n' _ rfl (HO'.out nq3) (by unfold maxLen; omega) _ _ _ rfl rfl hkey2 _ [] (Rp_mk B) ?_; intro w4 hown4 hturn4)
    | go_in)
  go_end0
  exact ⟨rfl, HX'.out nq3 w4 hown4 hturn4⟩
theorem move_err (base K d : Nat) (S : WD) (name dst : ByteArray) (r : Int) (w : World) (h : DiskAt Tryz.prog M base K d w S) (hs : name.size ≤ maxLen) (h0 : r ≠ 0)
    (hr : ableOf S.a name.data.toList = r ∨ (ableOf S.a name.data.toList = 0 ∧ seek WF.nm name.data.toList S.fs = none ∧ r = 2)) :
    Calls Tryz.prog 77 #[.pointer (some ⟨d, 0, none⟩), .string name, .string dst] w fun e w' => e = .returned (.int .i64 r) ∧ Below w.heap.size w w' := by
  have HF : Hid (∀ w1, Below w.heap.size w w1 → Calls Tryz.prog 93 #[.pointer (some ⟨d, 0, none⟩), .string name] w1 fun e w' => e = .returned (.tuple #[.pointer none, .int .i64 r]) ∧ w' = w1) := fun w1 hb => by
    rcases hr with hr | ⟨h1, h2, rfl⟩
    · exact find_err base K d S name r w1 (h.below hb) hs hr h0
    · exact find_none base K d S name w1 (h.below hb) hs h1 h2
  have hne : (r != 0) = true := by simpa using h0
  clear h hr
  go_enter Tryz.func77, Tryz.ntmps77
  go_wp2_with (go_at_call 93; refine (HF.out _ ((((Below.refl _ _).alloc (Nat.le_refl _) _).alloc (by simp) _).alloc (by simp <;> omega) _)).mono ?_; rintro e w' ⟨rfl, rfl⟩)
  go_ret
  exact ⟨rfl, ((((Below.refl _ _).alloc (Nat.le_refl _) _).alloc (by simp) _).alloc (by simp <;> omega) _).alloc (by simp <;> omega) _⟩
theorem move_name (base K d : Nat) (S : WD) (name dst : ByteArray) (w : World) (h : DiskAt Tryz.prog M base K d w S) (hs : name.size ≤ maxLen) (hts : dst.size ≤ maxLen) (ha : ableOf S.a name.data.toList = 0) (F : WF) (hf : seek WF.nm name.data.toList S.fs = some F) (hto : nameOk dst.data.toList = false) :
    Calls Tryz.prog 77 #[.pointer (some ⟨d, 0, none⟩), .string name, .string dst] w fun e w' => e = .returned (.int .i64 60) ∧ Below w.heap.size w w' := by
  have HF : Hid (∀ w1, Below w.heap.size w w1 → Calls Tryz.prog 93 #[.pointer (some ⟨d, 0, none⟩), .string name] w1 fun e w' => e = .returned (.tuple #[.pointer (some ⟨F.blk, 0, none⟩), .int .i64 0]) ∧ w' = w1) := fun w1 hb => find_some base K d S name F w1 (h.below hb) hs ha hf
  have HN := hide (fun w => name_is dst false w hts hto)
  clear h hf
  generalize F.blk = B at *
  go_enter Tryz.func77, Tryz.ntmps77
  go_wp2_with (first
    | (go_at_call 93; refine (HF.out _ ((((Below.refl _ _).alloc (Nat.le_refl _) _).alloc (by simp) _).alloc (by simp <;> omega) _)).mono ?_; rintro e w' ⟨rfl, rfl⟩)
    | (go_at_call 85; refine (HN.out _).mono ?_; rintro e w' ⟨rfl, rfl⟩))
  go_ret
  exact ⟨rfl, ((((Below.refl _ _).alloc (Nat.le_refl _) _).alloc (by simp) _).alloc (by simp <;> omega) _).alloc (by simp <;> omega) _⟩
theorem move_arg (base K d : Nat) (S : WD) (name : ByteArray) (w : World) (h : DiskAt Tryz.prog M base K d w S) (hs : name.size ≤ maxLen) (ha : ableOf S.a name.data.toList = 0) (F : WF) (hf : seek WF.nm name.data.toList S.fs = some F) :
    Calls Tryz.prog 77 #[.pointer (some ⟨d, 0, none⟩), .string name, .string name] w fun e w' => e = .returned (.int .i64 1) ∧ Below w.heap.size w w' := by
  have HF : Hid (∀ w1, Below w.heap.size w w1 → Calls Tryz.prog 93 #[.pointer (some ⟨d, 0, none⟩), .string name] w1 fun e w' => e = .returned (.tuple #[.pointer (some ⟨F.blk, 0, none⟩), .int .i64 0]) ∧ w' = w1) := fun w1 hb => find_some base K d S name F w1 (h.below hb) hs ha hf
  have HN := hide (fun w => name_is name true w hs (able_ok ha).2)
  clear h hf
  generalize F.blk = B at *
  go_enter Tryz.func77, Tryz.ntmps77
  go_wp2_with (first
    | (go_at_call 93; refine (HF.out _ ((((Below.refl _ _).alloc (Nat.le_refl _) _).alloc (by simp) _).alloc (by simp <;> omega) _)).mono ?_; rintro e w' ⟨rfl, rfl⟩)
    | (go_at_call 85; refine (HN.out _).mono ?_; rintro e w' ⟨rfl, rfl⟩))
  go_ret
  exact ⟨rfl, ((((Below.refl _ _).alloc (Nat.le_refl _) _).alloc (by simp) _).alloc (by simp <;> omega) _).alloc (by simp <;> omega) _⟩
/-- Four boxes. -/
def four (w : World) (d B : Nat) (name dst : ByteArray) : World := (((w.alloc (.cells #[.pointer (some ⟨d, 0, none⟩)] 23)).alloc (.cells #[.string name] 9)).alloc (.cells #[.string dst] 9)).alloc (.cells #[.pointer (some ⟨B, 0, none⟩)] 79)
theorem four_at (w : World) (d B : Nat) (name dst : ByteArray) :
    (four w d B name dst).heap[w.heap.size]? = some (.cells #[.pointer (some ⟨d, 0, none⟩)] 23 (0, 0)) ∧ (four w d B name dst).heap[w.heap.size + 1]? = some (.cells #[.string name] 9 (0, 0)) ∧ (four w d B name dst).heap[w.heap.size + 2]? = some (.cells #[.string dst] 9 (0, 0)) ∧
      (four w d B name dst).heap[w.heap.size + 3]? = some (.cells #[.pointer (some ⟨B, 0, none⟩)] 79 (0, 0)) ∧ Below w.heap.size w (four w d B name dst) := by
  refine ⟨?_, ?_, ?_, ?_, ?_⟩
  · unfold four
    rw [heap_alloc_old _ _ (by simp <;> omega), heap_alloc_old _ _ (by simp <;> omega), heap_alloc_old _ _ (by simp)]
    exact heap_alloc_new _ _
  · unfold four
    rw [heap_alloc_old _ _ (by simp <;> omega), heap_alloc_old _ _ (by simp)]
    have := heap_alloc_new (w.alloc (.cells #[.pointer (some ⟨d, 0, none⟩)] 23)) (.cells #[.string name] 9)
    simpa using this
  · unfold four
    rw [heap_alloc_old _ _ (by simp)]
    have := heap_alloc_new ((w.alloc (.cells #[.pointer (some ⟨d, 0, none⟩)] 23)).alloc (.cells #[.string name] 9)) (.cells #[.string dst] 9)
    simpa using this
  · have := heap_alloc_new (((w.alloc (.cells #[.pointer (some ⟨d, 0, none⟩)] 23)).alloc (.cells #[.string name] 9)).alloc (.cells #[.string dst] 9)) (.cells #[.pointer (some ⟨B, 0, none⟩)] 79)
    simpa [four] using this
  · exact ((((Below.refl _ w).alloc (Nat.le_refl _) _).alloc (by simp) _).alloc (by simp <;> omega) _).alloc (by simp <;> omega) _
set_option maxHeartbeats 1000000 in
theorem move_some (base K d : Nat) (S : WD) (name dst : ByteArray) (w : World) (h : DiskAt Tryz.prog M base K d w S) (hs : name.size ≤ maxLen) (hts : dst.size ≤ maxLen) (ha : ableOf S.a name.data.toList = 0) (F : WF) (hf : seek WF.nm name.data.toList S.fs = some F) (hto : nameOk dst.data.toList = true) (hne : name ≠ dst) (r : Int) (R : World → Prop)
    (hch : ∀ w1, Below w.heap.size w w1 → w1.heap[w.heap.size]? = some (.cells #[.pointer (some ⟨d, 0, none⟩)] 23 (0, 0)) → w1.heap[w.heap.size + 1]? = some (.cells #[.string name] 9 (0, 0)) → w1.heap[w.heap.size + 2]? = some (.cells #[.string dst] 9 (0, 0)) → w1.heap[w.heap.size + 3]? = some (.cells #[.pointer (some ⟨F.blk, 0, none⟩)] 79 (0, 0)) →
      Calls Tryz.prog 87 #[.pointer (some ⟨d, 0, none⟩), .func (.func 102) #[] #[.pointer (some ⟨w.heap.size + 3, 0, none⟩), .pointer (some ⟨w.heap.size, 0, none⟩), .pointer (some ⟨w.heap.size + 1, 0, none⟩), .pointer (some ⟨w.heap.size + 2, 0, none⟩)]] w1 fun e w' => e = .returned (.int .i64 r) ∧ R w') :
    Calls Tryz.prog 77 #[.pointer (some ⟨d, 0, none⟩), .string name, .string dst] w fun e w' => e = .returned (.int .i64 r) ∧ R w' := by
  have HF : Hid (∀ w1, Below w.heap.size w w1 → Calls Tryz.prog 93 #[.pointer (some ⟨d, 0, none⟩), .string name] w1 fun e w' => e = .returned (.tuple #[.pointer (some ⟨F.blk, 0, none⟩), .int .i64 0]) ∧ w' = w1) := fun w1 hb => find_some base K d S name F w1 (h.below hb) hs ha hf
  have HN := hide (fun w => name_is dst true w hts hto)
  obtain ⟨x0, x1, x2, x3, hb4⟩ := four_at w d F.blk name dst
  have HC := hide (hch (four w d F.blk name dst) hb4 x0 x1 x2 x3)
  unfold four at HC
  clear h hf hch x0 x1 x2 x3 hb4
  generalize F.blk = B at *
  have hbe : (name.toList == dst.toList) = false := by
    refine beq_eq_false_iff_ne.2 fun e => hne ?_
    rw [ByteArray.toList_eq, ByteArray.toList_eq] at e
    obtain ⟨⟨a⟩⟩ := name
    obtain ⟨⟨b⟩⟩ := dst
    simp_all
  clear hne
  go_enter Tryz.func77, Tryz.ntmps77
  go_wp2_with (first
    | (go_at_call 93; refine (HF.out _ ((((Below.refl _ _).alloc (Nat.le_refl _) _).alloc (by simp) _).alloc (by simp <;> omega) _)).mono ?_; rintro e w' ⟨rfl, rfl⟩)
    | (go_at_call 85; refine (HN.out _).mono ?_; rintro e w' ⟨rfl, rfl⟩)
    | (go_at_call 87; refine HC.out.mono ?_; rintro e w2 ⟨rfl, hR⟩))
  go_ret
  exact ⟨rfl, hR⟩
end Go.Proofs.YtoineobjmllicaaGreatDoor
/- Contract: all files are made sure. -/
namespace Go.Dk
open Go.RowKit Go.Maps
variable {M : Nat → Prop}
def A.synced (a : A) : A := { a with files := a.files.map fun f => f.settle f.bytes }
def WF.sync (F : WF) : WF := ⟨F.a.settle F.a.bytes, F.blk, F.nowV, .slice none 0 0, []⟩
def synced (left : Lit → Bool) (fs : List WF) : List WF := fs.map fun F => if left (.string F.nm) = true then F else F.sync
theorem sync_nm (F : WF) : F.sync.nm = F.nm := rfl
theorem synced_start {fs : List WF} (h : Rises WF.nm fs) : synced (has (Dfs fs)) fs = fs := by
  unfold synced
  conv => rhs; rw [← List.map_id fs]
  refine List.map_congr_left fun F hF => ?_
  rw [Dof_has, seek_mem h hF]
  rfl
theorem synced_end {left : Lit → Bool} (fs : List WF) (h : ∀ kl, left kl = false) : synced left fs = fs.map WF.sync := by
  unfold synced
  simp [h]
theorem synced_rises {left : Lit → Bool} {fs : List WF} (h : Rises WF.nm fs) : Rises WF.nm (synced left fs) := by
  unfold Rises synced
  rw [List.pairwise_map]
  refine List.Pairwise.imp (fun {a b} hab => ?_) h
  have e : ∀ F : WF, (if left (.string F.nm) = true then F else F.sync).nm = F.nm := fun F => by split <;> rfl
  rw [e, e]
  exact hab
theorem synced_skip (left : Lit → Bool) (k : Bs) {fs : List WF} (h : ∀ G ∈ fs, G.nm ≠ k) : synced (fun z => left z && !z.sameKey (.string k)) fs = synced left fs := by
  unfold synced
  refine List.map_congr_left fun G hG => ?_
  simp [same_str, h G hG]
theorem synced_step {left : Lit → Bool} {F : WF} (hl : left (.string F.nm) = true) {fs : List WF} (h : Rises WF.nm fs) (hF : F ∈ fs) :
    F ∈ synced left fs ∧ ins WF.nm F.sync (synced left fs) = synced (fun z => left z && !z.sameKey (.string F.nm)) fs := by
  obtain ⟨gs, rest, rfl⟩ := List.append_of_mem hF
  have hr := synced_rises (left := left) h
  obtain ⟨h1, h2, h3⟩ := List.pairwise_append.1 h
  have s1 := synced_skip left F.nm (fs := gs) fun G hG => before_ne (h3 G hG F (by simp))
  have s2 := synced_skip left F.nm (fs := rest) fun G hG e => before_ne ((List.pairwise_cons.1 h2).1 G hG) e.symm
  have e1 : synced left (gs ++ F :: rest) = synced left gs ++ F :: synced left rest := by unfold synced; simp [hl]
  rw [e1] at hr ⊢
  refine ⟨by simp, ?_⟩
  rw [ins_mid (nm := WF.nm) (F := F) (F' := F.sync) rfl hr, ← s1, ← s2]
  unfold synced
  simp [same_str]
theorem Dfs_synced (left : Lit → Bool) (fs : List WF) : Dfs (synced left fs) = Dfs fs := by
  unfold Dfs Dof synced
  rw [List.map_map]
  refine congrArg DataW.map (List.map_congr_left fun F _ => ?_)
  simp only [Function.comp]
  split <;> rfl
theorem withF_withF (S : WD) (l l' : List WF) : (S.withF l).withF l' = S.withF l' := rfl
variable {P : Program} {base K d : Nat} {w w' : World} {S : WD}
/-- One file is made sure. -/
theorem sync_one (h : DiskAt P M base K d w S) {F : WF} (hm : F ∈ S.fs) (hr : w'.heap[F.blk]? = some (.cells #[.bool true, F.nowV, .slice none 0 0] 118 (0, 0))) (t : Tch (· = F.blk) w w') :
    DiskAt P M base K d w' (S.withF (ins WF.nm F.sync S.fs)) ∧ Dsk M base w w' := by
  have hF := h.files.files F hm
  obtain ⟨h1, h2⟩ := hF.settled F.nowV F.a.bytes hF.now (fun g hg => .inr (.inr ⟨_, WF.now_mem hF.story, hg⟩)) hr t
  exact h.file hm rfl rfl (t.mono fun b e => .inl e) h1 (fun b hb => .inl (h2 b hb)) ((h.small F hm).settle _ (h.small F hm).bytes)
end Go.Dk
namespace Go.Proofs.YtoineobjmllicaaGreatDoor
open Go.RowKit Go.Dk Go.Maps
variable {M : Nat → Prop}
theorem sync_dead (base K d : Nat) (S : WD) (w : World) (h : DiskAt Tryz.prog M base K d w S) (hd : S.a.down = true) : Calls Tryz.prog 33 #[.pointer (some ⟨d, 0, none⟩)] w fun e w' => e = .returned (.int .i64 7) ∧ w' = w := by
  have HD := hide (dead_any d _ _ _ _ _ _ w h.row)
  rw [hd] at HD
  clear h
  go_enter Tryz.func33, Tryz.ntmps33
  go_wp2_with (go_at_call 27; refine HD.out.mono ?_; rintro e w' ⟨rfl, rfl⟩)
  go_ret
  exact ⟨rfl, rfl⟩
set_option maxRecDepth 5000 in
set_option maxHeartbeats 2000000 in
theorem sync_live (base K d : Nat) (S : WD) (w : World) (h : DiskAt Tryz.prog M base K d w S) (hd : S.a.down = false) :
    Calls Tryz.prog 33 #[.pointer (some ⟨d, 0, none⟩)] w fun e w' => e = .returned (.int .i64 0) ∧ ∃ T : WD, T.a = S.a.synced ∧ DiskAt Tryz.prog M base K d w' T ∧ Dsk M base w w' := by
  have HD := hide (dead_any d _ _ _ _ _ _ w h.row)
  rw [hd] at HD
  have hrow := h.row
  unfold drow at hrow
  obtain ⟨c0, -⟩ := cells6 hrow
  rcases h.map with ⟨hm, hn⟩ | ⟨b, n, hm, hb, hnK, hown⟩
  · rw [hm] at c0
    have HF : Hid (∀ w', Below w.heap.size w w' → ∃ T : WD, T.a = S.a.synced ∧ DiskAt Tryz.prog M base K d w' T ∧ Dsk M base w w') := fun w' hb => by
      refine ⟨S, ?_, h.below hb, .of_below hb⟩
      have hs := h.same
      rw [hn] at hs
      unfold A.synced
      rw [← hs]
      obtain ⟨⟨fl, r1, r2, r3, r4⟩, _, _, _, _⟩ := S
      simp only at hs ⊢
      rw [← hs]
      rfl
    clear h hrow
    have hrg := run_range_nilMap (P := Tryz.prog) w 65 9 79 Tryz.underlying65
    have hnx : ∀ ty, (Instr.next (.pointer (some ⟨w.heap.size, 0, none⟩)) false ty).run Tryz.prog (w.alloc (.mapIter none 0 #[] 0)) = _ := fun ty => run_next_nilMap w ty 0 0 #[]
    go_enter Tryz.func33, Tryz.ntmps33
    go_wp2_with (go_at_call 27; refine HD.out.mono ?_; rintro e w' ⟨rfl, rfl⟩)
    refine wp_loop_rounds 1 ?_
    rw [rounds_succ]
    go_wp2
    go_ret
    exact ⟨rfl, HF.out _ ((Below.refl _ _).alloc (Nat.le_refl _) _)⟩
  · rw [hm] at c0
    have HR : Hid (Rises WF.nm S.fs) := h.files.rises
    have H0 : Hid (∀ w0, Below w.heap.size w w0 → DiskAt Tryz.prog M base K d w0 (S.withF (synced (has (Dfs S.fs)) S.fs))) := fun w0 hb => by
      rw [synced_start h.files.rises]
      have hb' := h.below hb
      have e : S.withF S.fs = S := by
        unfold WD.withF
        rw [h.same]
      rw [e]
      exact hb'
    have HE : Hid (∀ left, (∀ kl, left kl = false) → (S.withF (synced left S.fs)).a = S.a.synced) := fun left hl => by
      unfold WD.withF A.synced
      simp only
      rw [synced_end _ hl, ← h.same, List.map_map, List.map_map]
      rfl
    have HMb := hide hm
    have hbw := hown.lt
    clear h hrow hm
    go_enter Tryz.func33, Tryz.ntmps33
    go_wp2_with (first
      | (go_at_call 27; refine HD.out.mono ?_; rintro e w' ⟨rfl, rfl⟩)
      | (at_range; refine wpList_range_own _ rfl _ 65 rfl 9 79 law9 Tryz.underlying65 _ b n _ rfl hown ?_; intro w0 hrg0 hg0 hs0)
      | go_in)
    go_frame
    go_loopw [4] (fun _ wr => ∃ (left : Lit → Bool) (cnt : Nat), Hid (wr.ranges Tryz.prog 9 Rp b w'.heap.size n (Dfs S.fs) left cnt ∧ DiskAt Tryz.prog M base K d wr (S.withF (synced left S.fs)) ∧ Dsk M base w' wr)) (fun _ wr => wr.rangeLeft b w'.heap.size)
    case atStart => exact ⟨_, _, hrg0, H0.out _ (Below.of_grown_none hg0), Dsk.of_below (Below.of_grown_none hg0)⟩
    case round =>
      obtain ⟨left, cnt, HG⟩ := hrel
      go_wp2_with (first
        | (at_next; refine wpList_next_ranges _ rfl _ rfl 9 law9 Rp encStr fptr inv9 invP b w'.heap.size n _ left cnt rfl HG.out.1 ?_ ?_)
        | go_in)
      · intro _ hl0
        go_wp2
        go_ret
        exact ⟨rfl, _, HE.out left hl0, HG.out.2.1, HG.out.2.2⟩
      · intro x c kl y1 y2 w1 cnt1 hkey hlk hv hat hrg1 hlt hg1 hs1 hen
        obtain ⟨F, hF, rfl, rfl⟩ := comes_up Tryz.underlying9 hkey hv hat
        obtain ⟨hm1, hins⟩ := synced_step hlk HR.out hF
        have hiter : ∀ o, wr.heap[w'.heap.size]? = some o → ¬ dkind M w'.heap.size o := fun o ho hk => by
          obtain ⟨es, cl, si, se, c0, _, _, _, _, hit, _⟩ := HG.out.1
          rw [hit] at ho
          cases ho
          exact hk
        have hD1 : DiskAt Tryz.prog M base K d w1 (S.withF (synced left S.fs)) := HG.out.2.1.other (X := (· = w'.heap.size)) (.of_grown hg1 fun c e => by cases e; rfl) fun c e hmine => by
          subst e
          obtain ⟨_, o, ho, hk⟩ := hmine
          exact hiter o ho hk
        have hk1 : Dsk M base w' w1 := ⟨hg1.os.trans HG.out.2.2.os, hg1.tape.trans HG.out.2.2.tape, hg1.output.trans HG.out.2.2.output, Nat.le_trans HG.out.2.2.size hg1.size, fun c hc hx => (hg1.block c (Nat.lt_of_lt_of_le hc HG.out.2.2.size) (fun e => by cases e; omega)).trans (HG.out.2.2.block c hc hx)⟩
        have HN := hide (now_any base F w1 (hD1.files.files F hm1) (hD1.pieces hm1).1)
        have HS := hide (settle_any F.blk _ _ _ F.nowV w1 (hD1.files.files F hm1).row (let ⟨a, c, e⟩ := (hD1.files.files F hm1).now.form; ⟨a, _, c, e⟩))
        have HX : Hid (∀ w2, w2.heap[F.blk]? = some (.cells #[.bool true, F.nowV, .slice none 0 0] 118 (0, 0)) → Tch (· = F.blk) w1 w2 → w2.ranges Tryz.prog 9 Rp b w'.heap.size n (Dfs S.fs) (fun z => left z && !z.sameKey (.string F.nm)) cnt1 ∧ DiskAt Tryz.prog M base K d w2 (S.withF (synced (fun z => left z && !z.sameKey (.string F.nm)) S.fs)) ∧ Dsk M base w' w2) := fun w2 hr t => by
          obtain ⟨j1, j2⟩ := sync_one hD1 hm1 hr t
          have hrowF := (hD1.files.files F hm1).row
          have hne1 : b ≠ F.blk := fun e => by
            obtain ⟨_, es, cl, hmb⟩ := hD1.map.kind (b := b) HMb.out
            rw [e, hrowF] at hmb
            cases hmb
          have hne2 : w'.heap.size ≠ F.blk := fun e => by
            obtain ⟨es, cl, si, se, c0, _, _, _, _, hit, _⟩ := hrg1
            rw [e, hrowF] at hit
            cases hit
          refine ⟨hrg1.kept (row := some F.blk) ⟨t.os, t.tape, t.output, t.size, fun c hc hx => t.block c hc fun e => hx (by rw [e])⟩ (by simpa using hne1) (by simpa using hne2), ?_, Dsk.trans hk1 j2⟩
          have : (S.withF (synced left S.fs)).withF (ins WF.nm F.sync (S.withF (synced left S.fs)).fs) = S.withF (synced (fun z => left z && !z.sameKey (.string F.nm)) S.fs) := by
            show S.withF (ins WF.nm F.sync (synced left S.fs)) = _
            rw [hins]
          rw [← this]
          exact j1
        have HLE := hide (HG.out.1.left_eq)
        have HLT := hide hlt
        clear hkey hv hat hg1 hs1 hrg1 hlt hlk hD1 hk1 hins hm1 hiter
        simp only [fptr] at hen
        obtain ⟨B, hB⟩ : ∃ B, F.blk = B := ⟨_, rfl⟩
        rw [hB] at HN HS HX hen
        clear hB
        go_wp2_with (first
          | (go_at_call 63; refine HN.out.mono ?_; rintro e w' ⟨rfl, rfl⟩)
          | (go_at_call 62; refine HS.out.mono ?_; rintro e w2 ⟨rfl, hr2, t2, -⟩)
          | go_in)
        obtain ⟨k1, k2, k3⟩ := HX.out w2 hr2 t2
        exact ⟨⟨_, cnt1, k1, k2, k3⟩, by rw [k1.left_eq, HLE.out]; exact HLT.out⟩
end Go.Proofs.YtoineobjmllicaaGreatDoor
