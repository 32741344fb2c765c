/- Contract: a file is cut. -/
import Derived.Test.YtoineobjmllicaaGreatDoorDkFive
import Derived.Test.YtoineobjmllicaaGreatDoorQuietAll
namespace Go.Dk
open Go.RowKit
variable {M : Nat → Prop}
variable {P : Program} {base K d : Nat} {w w' : World} {S : WD}
/-- A file of the disk is settled. -/
theorem settle_disk (h : DiskAt P M base K d w S) {F : WF} (hF : F ∈ S.fs) {l : Bs} (hl : l.length ≤ 2000 * K) (hs : SettledTo base w w' F l) :
    ∃ F' : WF, F'.a = F.a.settle l ∧ F'.blk = F.blk ∧ DiskAt P M base K d w' (S.withF (ins WF.nm F' S.fs)) ∧ Dsk M base w w' := by
  obtain ⟨F', h1, h2, h3, h4, h5⟩ := hs
  have e : F'.nm = F.nm := by unfold WF.nm; rw [h1]; rfl
  obtain ⟨k1, k2⟩ := h.file hF e h2 h4 h3 (fun b hb => .inl (h5 b hb)) (by rw [h1]; exact (h.small F hF).settle l hl)
  exact ⟨F', h1, h2, k1, k2⟩
theorem withF_ins (h : DiskAt P M base K d w S) (F' : WF) : (S.withF (ins WF.nm F' S.fs)).counted.a = S.a.left (ins AF.name F'.a S.a.files) := by
  unfold WD.counted WD.withF A.left
  simp only
  rw [map_ins (na := WF.nm) (nb := AF.name) WF.a (fun _ => rfl), h.same]
end Go.Dk
namespace Go.Proofs.YtoineobjmllicaaGreatDoor
open Go.RowKit Go.Dk
variable {M : Nat → Prop}
set_option maxRecDepth 5000 in
set_option maxHeartbeats 1000000 in
theorem truncfn_any (base K d : Nat) (S : WD) (w : World) (h : DiskAt Tryz.prog M base K d w S) (hl : K + 1 ≤ 5000) (F : WF) (hm : F ∈ S.fs) (n : Nat) (hn : n ≤ F.a.bytes.length)
    (g0 g1 : Nat) (b0 : w.heap[g0]? = some (.cells #[.pointer (some ⟨F.blk, 0, none⟩)] 79 (0, 0))) (b1 : w.heap[g1]? = some (.cells #[.int .i64 n] 3 (0, 0))) :
    Calls Tryz.prog 116 #[.pointer (some ⟨g0, 0, none⟩), .pointer (some ⟨g1, 0, none⟩)] w fun e w' => e = .returned (.tuple #[]) ∧
      ∃ T : WD, T.counted.a = S.a.left (ins AF.name (F.a.settle (F.a.bytes.take n)) S.a.files) ∧ T.a.changes = S.a.changes ∧ DiskAt Tryz.prog M base (K + 1) d w' T ∧ Dsk M base w w' := by
  have hF := h.files.files F hm
  have hbig := (h.pieces hm).2.2
  have q0 : w.cell? ⟨g0, 0, none⟩ = some (.pointer (some ⟨F.blk, 0, none⟩)) := by rw [cell_of_row _ _ _ _ _ _ b0]; rfl
  have q1 : w.cell? ⟨g1, 0, none⟩ = some (.int .i64 n) := by rw [cell_of_row _ _ _ _ _ _ b1]; rfl
  have HFin : Hid (∀ q (v : Value) w2, Row base w v (F.a.bytes.take n) → (∀ g, v.ownBlock = some g → F.nowV.ownBlock = some g) → w2.heap[F.blk]? = some (.cells #[.bool true, v, .slice none 0 0] 118 (0, 0)) → Tch (· = F.blk) (w.drewN q) w2 →
      ∃ T : WD, T.counted.a = S.a.left (ins AF.name (F.a.settle (F.a.bytes.take n)) S.a.files) ∧ T.a.changes = S.a.changes ∧ DiskAt Tryz.prog M base (K + 1) d w2 T ∧ Dsk M base w w2) := fun q v w2 hv hown hr t => by
    have hset : SettledTo base w w2 F (F.a.bytes.take n) := settled_to hF (w1 := w.drewN q) ⟨rfl, rfl, rfl, Nat.le_refl _, fun _ _ => rfl⟩ v _ hv (fun g hg => .inr (.inr ⟨_, WF.now_mem hF.story, hown g hg⟩)) hr t
    obtain ⟨F', e1, e2, k1, k2⟩ := settle_disk h hm (by have := (h.small F hm).bytes; simp; omega) hset
    exact ⟨S.withF (ins WF.nm F' S.fs), by rw [withF_ins h, e1], rfl, k1.mono (Nat.le_succ _) hl, k2⟩
  have HN : Hid (∀ q, Calls Tryz.prog 63 #[.pointer (some ⟨F.blk, 0, none⟩)] (w.drewN q) fun e w' => e = .returned F.nowV ∧ w' = w.drewN q) := fun q => now_any base F (w.drewN q) (hF.kept fun _ _ => rfl) (h.pieces hm).1
  have HS : Hid (∀ q v, (∃ a m c, v = .slice a m c) → Calls Tryz.prog 62 #[.pointer (some ⟨F.blk, 0, none⟩), v] (w.drewN q) fun e w' => e = .returned (.tuple #[]) ∧ w'.heap[F.blk]? = some (.cells #[.bool true, v, .slice none 0 0] 118 (0, 0)) ∧ Tch (· = F.blk) (w.drewN q) w' ∧ w'.heap.size = (w.drewN q).heap.size) := fun q v hv => settle_any F.blk _ _ _ v (w.drewN q) hF.row hv
  have hnow := hF.now
  have hcell : ∀ q, (w.drewN q).cell? ⟨g1, 0, none⟩ = some (.int .i64 n) := fun q => q1
  rcases hnow.2 with ⟨hv, h0⟩ | ⟨g, cap, cur, hv, _, _, hcap, _⟩
  · have hn0 : n = 0 := by omega
    subst hn0
    rw [hv] at HN
    have hrow : Row base w (.slice none 0 0) (F.a.bytes.take 0) := by rw [List.take_zero]; exact Row.nil _ _
    have HR := hide hrow
    clear h hF b0 b1 hnow hm hv hrow h0
    generalize F.blk = B at *
    go_enter Tryz.func116, Tryz.ntmps116
    refine QTail.wp_region_tail (fun w' => ∃ n, w' = w.drewN n) 5 (by kernel_rfl) (by kernel_rfl) ⟨1, rfl⟩ ?_
    simp only [List.take_succ_cons, List.take_zero, List.drop_succ_cons, List.drop_zero]
    iterate 2 (first | go_big_quiet_step (fail) | quiet_step (fail))
    refine QuietClass.call1 rfl rfl Tryz.call63 (fun w' hc => by obtain ⟨q, rfl⟩ := hc; exact (HN.out q).mono fun e w'' ⟨e1, e2⟩ => ⟨e1, q, e2⟩) rfl ?_; simp only [Act.put, List.setIfInBounds_toArray, List.set_cons_succ, List.set_cons_zero]
    iterate 2 (first | go_big_quiet_step (fail) | quiet_step (fail))
    refine wpQuiet_nil ?_
    rintro _ ⟨nq, rfl⟩
    go_wp2_with (go_at_call 62; refine (HS.out nq _ ⟨_, _, _, rfl⟩).mono ?_; rintro e w2 ⟨rfl, hr2, t2, -⟩)
    go_end0
    exact ⟨rfl, HFin.out nq _ w2 HR.out (fun g hg => by cases hg) hr2 t2⟩
  · rw [hv] at HN
    have hrow : Row base w (.slice (some ⟨g, 0, none⟩) n cap) (F.a.bytes.take n) := by rw [hv] at hnow; exact hnow.take n hn
    have HR := hide hrow
    have HV : Hid (F.nowV.ownBlock = some g) := by rw [hv]; rfl
    have hni : (n : Int) ≤ (cap : Int) := by omega
    clear h hF b0 b1 hnow hm hv hrow
    generalize F.blk = B at *
    generalize F.a.bytes.length = L at *
    go_enter Tryz.func116, Tryz.ntmps116
    refine QTail.wp_region_tail (fun w' => ∃ n, w' = w.drewN n) 5 (by kernel_rfl) (by kernel_rfl) ⟨1, rfl⟩ ?_
    simp only [List.take_succ_cons, List.take_zero, List.drop_succ_cons, List.drop_zero]
    iterate 2 (first | go_big_quiet_step (fail) | quiet_step (fail))
    refine QuietClass.call1 rfl rfl Tryz.call63 (fun w' hc => by obtain ⟨q, rfl⟩ := hc; exact (HN.out q).mono fun e w'' ⟨e1, e2⟩ => ⟨e1, q, e2⟩) rfl ?_; simp only [Act.put, List.setIfInBounds_toArray, List.set_cons_succ, List.set_cons_zero]
    iterate 2 (first | go_big_quiet_step (fail) | quiet_step (fail))
    refine wpQuiet_nil ?_
    rintro _ ⟨nq, rfl⟩
    go_wp2_with (go_at_call 62; refine (HS.out nq _ ⟨_, _, _, rfl⟩).mono ?_; rintro e w2 ⟨rfl, hr2, t2, -⟩)
    go_end0
    exact ⟨rfl, HFin.out nq _ w2 HR.out (fun g' hg => by cases hg; exact HV.out) hr2 t2⟩
theorem trunc_err (base K d : Nat) (S : WD) (name : ByteArray) (n : Int) (r : Int) (w : World) (h : DiskAt Tryz.prog M base K d w S) (hs : name.size ≤ maxLen) (h0 : r ≠ 0)
    (hr : ableOf S.a name.data.toList = r ∨ (ableOf S.a name.data.toList = 0 ∧ seek WF.nm name.data.toList S.fs = none ∧ r = 2)) :
    Calls Tryz.prog 98 #[.pointer (some ⟨d, 0, none⟩), .string name, .int .i64 n] w fun e w' => e = .returned (.int .i64 r) ∧ Below w.heap.size w w' := by
  have HF : Hid (∀ w1, Below w.heap.size w w1 → Calls Tryz.prog 93 #[.pointer (some ⟨d, 0, none⟩), .string name] w1 fun e w' => e = .returned (.tuple #[.pointer none, .int .i64 r]) ∧ w' = w1) := fun w1 hb => by
    rcases hr with hr | ⟨h1, h2, rfl⟩
    · exact find_err base K d S name r w1 (h.below hb) hs hr h0
    · exact find_none base K d S name w1 (h.below hb) hs h1 h2
  have hne : (r != 0) = true := by simpa using h0
  clear h hr
  go_enter Tryz.func98, Tryz.ntmps98
  go_wp2_with (go_at_call 93; refine (HF.out _ ((Below.refl _ _).alloc (Nat.le_refl _) _)).mono ?_; rintro e w' ⟨rfl, rfl⟩)
  go_ret
  exact ⟨rfl, ((Below.refl _ _).alloc (Nat.le_refl _) _).alloc (by simp) _⟩
set_option maxRecDepth 5000 in
set_option maxHeartbeats 1000000 in
theorem trunc_arg (base K d : Nat) (S : WD) (name : ByteArray) (n : Int) (w : World) (h : DiskAt Tryz.prog M base K d w S) (hs : name.size ≤ maxLen) (ha : ableOf S.a name.data.toList = 0) (F : WF) (hf : seek WF.nm name.data.toList S.fs = some F) (hn : n < 0 ∨ (F.a.bytes.length : Int) < n) :
    Calls Tryz.prog 98 #[.pointer (some ⟨d, 0, none⟩), .string name, .int .i64 n] w fun e w' => e = .returned (.int .i64 1) ∧ Below w.heap.size w w' := by
  have hm := (seek_some hf).1
  have HF : Hid (∀ w1, Below w.heap.size w w1 → Calls Tryz.prog 93 #[.pointer (some ⟨d, 0, none⟩), .string name] w1 fun e w' => e = .returned (.tuple #[.pointer (some ⟨F.blk, 0, none⟩), .int .i64 0]) ∧ w' = w1) := fun w1 hb => find_some base K d S name F w1 (h.below hb) hs ha hf
  have hbA : Below w.heap.size w ((w.alloc (.cells #[.int .i64 n] 3)).alloc (.cells #[.pointer (some ⟨F.blk, 0, none⟩)] 79)) := ((Below.refl _ _).alloc (Nat.le_refl _) _).alloc (by simp) _
  obtain ⟨a, c, hv⟩ := (h.files.files F hm).now.form
  have HN : Hid (∀ w1, Below ((w.alloc (.cells #[.int .i64 n] 3)).alloc (.cells #[.pointer (some ⟨F.blk, 0, none⟩)] 79)).heap.size ((w.alloc (.cells #[.int .i64 n] 3)).alloc (.cells #[.pointer (some ⟨F.blk, 0, none⟩)] 79)) w1 → Calls Tryz.prog 63 #[.pointer (some ⟨F.blk, 0, none⟩)] w1 fun e w' => e = .returned (.slice a F.a.bytes.length c) ∧ Below w1.heap.size w1 w') := fun w1 hb =>
    (now_any base F w1 (((h.below hbA).below hb).files.files F hm) (h.pieces hm).1).mono fun e w' ⟨e1, e2⟩ => ⟨by rw [e1, hv], by rw [e2]; exact Below.refl _ _⟩
  have hbig := (h.pieces hm).2.2
  clear h hf hm hv
  generalize F.blk = B at *
  generalize F.a.bytes.length = L at *
  go_enter Tryz.func98, Tryz.ntmps98
  go_upto_region 4 with (go_at_call 93; refine (HF.out _ ((Below.refl _ _).alloc (Nat.le_refl _) _)).mono ?_; rintro e w' ⟨rfl, rfl⟩)
  have x0 := cell_regrown (show ((w.alloc (.cells #[.int .i64 n] 3)).alloc (.cells #[.pointer (some ⟨B, 0, none⟩)] 79)).cell? ⟨w.heap.size, 0, none⟩ = some (.int .i64 n) by rw [cell_of_row _ _ _ _ _ _ ((heap_alloc_old _ _ (by simp)).trans (heap_alloc_new w _))]; rfl)
  have x1 := cell_regrown (show ((w.alloc (.cells #[.int .i64 n] 3)).alloc (.cells #[.pointer (some ⟨B, 0, none⟩)] 79)).cell? ⟨w.heap.size + 1, 0, none⟩ = some (.pointer (some ⟨B, 0, none⟩)) by
    have := heap_alloc_new (w.alloc (.cells #[.int .i64 n] 3)) (.cells #[.pointer (some ⟨B, 0, none⟩)] 79)
    rw [cell_of_row _ _ _ _ _ _ (by simpa using this)]; rfl)
  generalize (w.alloc (.cells #[.int .i64 n] 3)).alloc (.cells #[.pointer (some ⟨B, 0, none⟩)] 79) = W at *
  by_cases hneg : n < 0
  · have hd : decide (n < 0) = true := decide_eq_true hneg
    refine QuietCalls.region (by kernel_rfl) (by kernel_rfl) ?_
    iterate 9 (first | go_big_quiet_step (fail) | quiet_step (fail))
    refine wpQuiet_nil ?_
    intro w6 k6
    go_wp2
    go_ret
    exact ⟨rfl, hbA.trans (k6.mono hbA.size)⟩
  · have hd : decide (n < 0) = false := decide_eq_false hneg
    have hg : decide ((L : Int) < n) = true := decide_eq_true (hn.resolve_left hneg)
    refine QuietCalls.region (by kernel_rfl) (by kernel_rfl) ?_
    iterate 5 (first | go_big_quiet_step (fail) | quiet_step (fail))
    refine QuietCalls.call1 rfl rfl Tryz.call63 (fun w' hb => HN.out w' (by exact hb)) rfl ?_; simp only [Act.put, List.setIfInBounds_toArray, List.set_cons_succ, List.set_cons_zero]
    iterate 3 (first | go_big_quiet_step (fail) | quiet_step (fail))
    refine wpQuiet_nil ?_
    intro w6 k6
    go_wp2
    go_ret
    exact ⟨rfl, hbA.trans (k6.mono hbA.size)⟩
set_option maxRecDepth 5000 in
set_option maxHeartbeats 1000000 in
theorem trunc_some (base K d : Nat) (S : WD) (name : ByteArray) (n : Int) (w : World) (h : DiskAt Tryz.prog M base K d w S) (hs : name.size ≤ maxLen) (ha : ableOf S.a name.data.toList = 0) (F : WF) (hf : seek WF.nm name.data.toList S.fs = some F) (m : Nat) (hnm : n = m) (hn : m ≤ F.a.bytes.length) (r : Int) (R : World → Prop)
    (hch : ∀ w1, Below w.heap.size w w1 → w1.heap[w.heap.size]? = some (.cells #[.int .i64 n] 3 (0, 0)) → w1.heap[w.heap.size + 1]? = some (.cells #[.pointer (some ⟨F.blk, 0, none⟩)] 79 (0, 0)) →
      Calls Tryz.prog 87 #[.pointer (some ⟨d, 0, none⟩), .func (.func 116) #[] #[.pointer (some ⟨w.heap.size + 1, 0, none⟩), .pointer (some ⟨w.heap.size, 0, none⟩)]] w1 fun e w' => e = .returned (.int .i64 r) ∧ R w') :
    Calls Tryz.prog 98 #[.pointer (some ⟨d, 0, none⟩), .string name, .int .i64 n] w fun e w' => e = .returned (.int .i64 r) ∧ R w' := by
  have hm := (seek_some hf).1
  have HF : Hid (∀ w1, Below w.heap.size w w1 → Calls Tryz.prog 93 #[.pointer (some ⟨d, 0, none⟩), .string name] w1 fun e w' => e = .returned (.tuple #[.pointer (some ⟨F.blk, 0, none⟩), .int .i64 0]) ∧ w' = w1) := fun w1 hb => find_some base K d S name F w1 (h.below hb) hs ha hf
  have hbA : Below w.heap.size w ((w.alloc (.cells #[.int .i64 n] 3)).alloc (.cells #[.pointer (some ⟨F.blk, 0, none⟩)] 79)) := ((Below.refl _ _).alloc (Nat.le_refl _) _).alloc (by simp) _
  obtain ⟨a, c, hv⟩ := (h.files.files F hm).now.form
  have HN : Hid (∀ w1, Below ((w.alloc (.cells #[.int .i64 n] 3)).alloc (.cells #[.pointer (some ⟨F.blk, 0, none⟩)] 79)).heap.size ((w.alloc (.cells #[.int .i64 n] 3)).alloc (.cells #[.pointer (some ⟨F.blk, 0, none⟩)] 79)) w1 → Calls Tryz.prog 63 #[.pointer (some ⟨F.blk, 0, none⟩)] w1 fun e w' => e = .returned (.slice a F.a.bytes.length c) ∧ Below w1.heap.size w1 w') := fun w1 hb =>
    (now_any base F w1 (((h.below hbA).below hb).files.files F hm) (h.pieces hm).1).mono fun e w' ⟨e1, e2⟩ => ⟨by rw [e1, hv], by rw [e2]; exact Below.refl _ _⟩
  have hbig := (h.pieces hm).2.2
  have HC := hide hch
  have hd : decide (n < 0) = false := decide_eq_false (by omega)
  have hg : decide ((F.a.bytes.length : Int) < n) = false := decide_eq_false (by omega)
  clear h hf hm hv hch hnm hn
  generalize F.blk = B at *
  generalize F.a.bytes.length = L at *
  go_enter Tryz.func98, Tryz.ntmps98
  go_upto_region 4 with (go_at_call 93; refine (HF.out _ ((Below.refl _ _).alloc (Nat.le_refl _) _)).mono ?_; rintro e w' ⟨rfl, rfl⟩)
  have y0 : ((w.alloc (.cells #[.int .i64 n] 3)).alloc (.cells #[.pointer (some ⟨B, 0, none⟩)] 79)).heap[w.heap.size]? = some (.cells #[.int .i64 n] 3 (0, 0)) := (heap_alloc_old _ _ (by simp)).trans (heap_alloc_new w _)
  have y1 : ((w.alloc (.cells #[.int .i64 n] 3)).alloc (.cells #[.pointer (some ⟨B, 0, none⟩)] 79)).heap[w.heap.size + 1]? = some (.cells #[.pointer (some ⟨B, 0, none⟩)] 79 (0, 0)) := by
    have := heap_alloc_new (w.alloc (.cells #[.int .i64 n] 3)) (.cells #[.pointer (some ⟨B, 0, none⟩)] 79)
    simpa using this
  have x0 := cell_regrown (show ((w.alloc (.cells #[.int .i64 n] 3)).alloc (.cells #[.pointer (some ⟨B, 0, none⟩)] 79)).cell? ⟨w.heap.size, 0, none⟩ = some (.int .i64 n) by rw [cell_of_row _ _ _ _ _ _ y0]; rfl)
  have x1 := cell_regrown (show ((w.alloc (.cells #[.int .i64 n] 3)).alloc (.cells #[.pointer (some ⟨B, 0, none⟩)] 79)).cell? ⟨w.heap.size + 1, 0, none⟩ = some (.pointer (some ⟨B, 0, none⟩)) by rw [cell_of_row _ _ _ _ _ _ y1]; rfl)
  have Y0 := hide y0
  have Y1 := hide y1
  clear y0 y1
  generalize (w.alloc (.cells #[.int .i64 n] 3)).alloc (.cells #[.pointer (some ⟨B, 0, none⟩)] 79) = W at *
  refine QuietCalls.region (by kernel_rfl) (by kernel_rfl) ?_
  iterate 5 (first | go_big_quiet_step (fail) | quiet_step (fail))
  refine QuietCalls.call1 rfl rfl Tryz.call63 (fun w' hb => HN.out w' (by exact hb)) rfl ?_; simp only [Act.put, List.setIfInBounds_toArray, List.set_cons_succ, List.set_cons_zero]
  iterate 3 (first | go_big_quiet_step (fail) | quiet_step (fail))
  refine wpQuiet_nil ?_
  intro w6 k6
  have HC6 := hide (HC.out w6 (hbA.trans (k6.mono hbA.size)) ((k6.block _ (block_lt Y0.out)).trans Y0.out) ((k6.block _ (block_lt Y1.out)).trans Y1.out))
  go_wp2_with (go_at_call 87; refine HC6.out.mono ?_; rintro e w7 ⟨rfl, hR⟩)
  go_ret
  exact ⟨rfl, hR⟩
end Go.Proofs.YtoineobjmllicaaGreatDoor
