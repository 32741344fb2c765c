/- Contract: all files are made sure. -/
import Derived.Test.YtoineobjmllicaaGreatDoorDiskMove
namespace Go.Dk
open Go.RowKit Go.Maps
variable {M : Nat → Prop}
def A.synced (a : A) : A := { a with files := a.files.map fun f => f.settle f.bytes }
def WF.sync (F : WF) : WF := ⟨F.a.settle F.a.bytes, F.blk, F.nowV, .slice none 0 0, []⟩
def synced (left : Lit → Bool) (fs : List WF) : List WF := fs.map fun F => if left (.string F.nm) = true then F else F.sync
theorem sync_nm (F : WF) : F.sync.nm = F.nm := rfl
theorem synced_start {fs : List WF} (h : Rises WF.nm fs) : synced (has (Dfs fs)) fs = fs := by
  unfold synced
  conv => rhs; rw [← List.map_id fs]
  refine List.map_congr_left fun F hF => ?_
  rw [Dof_has, seek_mem h hF]
  rfl
theorem synced_end {left : Lit → Bool} (fs : List WF) (h : ∀ kl, left kl = false) : synced left fs = fs.map WF.sync := by
  unfold synced
  simp [h]
theorem synced_rises {left : Lit → Bool} {fs : List WF} (h : Rises WF.nm fs) : Rises WF.nm (synced left fs) := by
  unfold Rises synced
  rw [List.pairwise_map]
  refine List.Pairwise.imp (fun {a b} hab => ?_) h
  have e : ∀ F : WF, (if left (.string F.nm) = true then F else F.sync).nm = F.nm := fun F => by split <;> rfl
  rw [e, e]
  exact hab
theorem synced_skip (left : Lit → Bool) (k : Bs) {fs : List WF} (h : ∀ G ∈ fs, G.nm ≠ k) : synced (fun z => left z && !z.sameKey (.string k)) fs = synced left fs := by
  unfold synced
  refine List.map_congr_left fun G hG => ?_
  simp [same_str, h G hG]
theorem synced_step {left : Lit → Bool} {F : WF} (hl : left (.string F.nm) = true) {fs : List WF} (h : Rises WF.nm fs) (hF : F ∈ fs) :
    F ∈ synced left fs ∧ ins WF.nm F.sync (synced left fs) = synced (fun z => left z && !z.sameKey (.string F.nm)) fs := by
  obtain ⟨gs, rest, rfl⟩ := List.append_of_mem hF
  have hr := synced_rises (left := left) h
  obtain ⟨h1, h2, h3⟩ := List.pairwise_append.1 h
  have s1 := synced_skip left F.nm (fs := gs) fun G hG => before_ne (h3 G hG F (by simp))
  have s2 := synced_skip left F.nm (fs := rest) fun G hG e => before_ne ((List.pairwise_cons.1 h2).1 G hG) e.symm
  have e1 : synced left (gs ++ F :: rest) = synced left gs ++ F :: synced left rest := by unfold synced; simp [hl]
  rw [e1] at hr ⊢
  refine ⟨by simp, ?_⟩
  rw [ins_mid (nm := WF.nm) (F := F) (F' := F.sync) rfl hr, ← s1, ← s2]
  unfold synced
  simp [same_str]
theorem Dfs_synced (left : Lit → Bool) (fs : List WF) : Dfs (synced left fs) = Dfs fs := by
  unfold Dfs Dof synced
  rw [List.map_map]
  refine congrArg DataW.map (List.map_congr_left fun F _ => ?_)
  simp only [Function.comp]
  split <;> rfl
theorem withF_withF (S : WD) (l l' : List WF) : (S.withF l).withF l' = S.withF l' := rfl
variable {P : Program} {base K d : Nat} {w w' : World} {S : WD}
/-- One file is made sure. -/
theorem sync_one (h : DiskAt P M base K d w S) {F : WF} (hm : F ∈ S.fs) (hr : w'.heap[F.blk]? = some (.cells #[.bool true, F.nowV, .slice none 0 0] 118 (0, 0))) (t : Tch (· = F.blk) w w') :
    DiskAt P M base K d w' (S.withF (ins WF.nm F.sync S.fs)) ∧ Dsk M base w w' := by
  have hF := h.files.files F hm
  obtain ⟨h1, h2⟩ := hF.settled F.nowV F.a.bytes hF.now (fun g hg => .inr (.inr ⟨_, WF.now_mem hF.story, hg⟩)) hr t
  exact h.file hm rfl rfl (t.mono fun b e => .inl e) h1 (fun b hb => .inl (h2 b hb)) ((h.small F hm).settle _ (h.small F hm).bytes)
end Go.Dk
namespace Go.Proofs.YtoineobjmllicaaGreatDoor
open Go.RowKit Go.Dk Go.Maps
variable {M : Nat → Prop}
theorem sync_dead (base K d : Nat) (S : WD) (w : World) (h : DiskAt Tryz.prog M base K d w S) (hd : S.a.down = true) : Calls Tryz.prog 33 #[.pointer (some ⟨d, 0, none⟩)] w fun e w' => e = .returned (.int .i64 7) ∧ w' = w := by
  have HD := hide (dead_any d _ _ _ _ _ _ w h.row)
  rw [hd] at HD
  clear h
  go_enter Tryz.func33, Tryz.ntmps33
  go_wp2_with (go_at_call 27; refine HD.out.mono ?_; rintro e w' ⟨rfl, rfl⟩)
  go_ret
  exact ⟨rfl, rfl⟩
set_option maxRecDepth 5000 in
set_option maxHeartbeats 2000000 in
theorem sync_live (base K d : Nat) (S : WD) (w : World) (h : DiskAt Tryz.prog M base K d w S) (hd : S.a.down = false) :
    Calls Tryz.prog 33 #[.pointer (some ⟨d, 0, none⟩)] w fun e w' => e = .returned (.int .i64 0) ∧ ∃ T : WD, T.a = S.a.synced ∧ DiskAt Tryz.prog M base K d w' T ∧ Dsk M base w w' := by
  have HD := hide (dead_any d _ _ _ _ _ _ w h.row)
  rw [hd] at HD
  have hrow := h.row
  unfold drow at hrow
  obtain ⟨c0, -⟩ := cells6 hrow
  rcases h.map with ⟨hm, hn⟩ | ⟨b, n, hm, hb, hnK, hown⟩
  · rw [hm] at c0
    have HF : Hid (∀ w', Below w.heap.size w w' → ∃ T : WD, T.a = S.a.synced ∧ DiskAt Tryz.prog M base K d w' T ∧ Dsk M base w w') := fun w' hb => by
      refine ⟨S, ?_, h.below hb, .of_below hb⟩
      have hs := h.same
      rw [hn] at hs
      unfold A.synced
      rw [← hs]
      obtain ⟨⟨fl, r1, r2, r3, r4⟩, _, _, _, _⟩ := S
      simp only at hs ⊢
      rw [← hs]
      rfl
    clear h hrow
    have hrg := run_range_nilMap (P := Tryz.prog) w 65 9 79 Tryz.underlying65
    have hnx : ∀ ty, (Instr.next (.pointer (some ⟨w.heap.size, 0, none⟩)) false ty).run Tryz.prog (w.alloc (.mapIter none 0 #[] 0)) = _ := fun ty => run_next_nilMap w ty 0 0 #[]
    go_enter Tryz.func33, Tryz.ntmps33
    go_wp2_with (go_at_call 27; refine HD.out.mono ?_; rintro e w' ⟨rfl, rfl⟩)
    refine wp_loop_rounds 1 ?_
    rw [rounds_succ]
    go_wp2
    go_ret
    exact ⟨rfl, HF.out _ ((Below.refl _ _).alloc (Nat.le_refl _) _)⟩
  · rw [hm] at c0
    have HR : Hid (Rises WF.nm S.fs) := h.files.rises
    have H0 : Hid (∀ w0, Below w.heap.size w w0 → DiskAt Tryz.prog M base K d w0 (S.withF (synced (has (Dfs S.fs)) S.fs))) := fun w0 hb => by
      rw [synced_start h.files.rises]
      have hb' := h.below hb
      have e : S.withF S.fs = S := by
        unfold WD.withF
        rw [h.same]
      rw [e]
      exact hb'
    have HE : Hid (∀ left, (∀ kl, left kl = false) → (S.withF (synced left S.fs)).a = S.a.synced) := fun left hl => by
      unfold WD.withF A.synced
      simp only
      rw [synced_end _ hl, ← h.same, List.map_map, List.map_map]
      rfl
    have HMb := hide hm
    have hbw := hown.lt
    clear h hrow hm
    go_enter Tryz.func33, Tryz.ntmps33
    go_wp2_with (first
      | (go_at_call 27; refine HD.out.mono ?_; rintro e w' ⟨rfl, rfl⟩)
      | (at_range; refine wpList_range_own _ rfl _ 65 rfl 9 79 law9 Tryz.underlying65 _ b n _ rfl hown ?_; intro w0 hrg0 hg0 hs0)
      | go_in)
    go_frame
    go_loopw [4] (fun _ wr => ∃ (left : Lit → Bool) (cnt : Nat), Hid (wr.ranges Tryz.prog 9 Rp b w'.heap.size n (Dfs S.fs) left cnt ∧ DiskAt Tryz.prog M base K d wr (S.withF (synced left S.fs)) ∧ Dsk M base w' wr)) (fun _ wr => wr.rangeLeft b w'.heap.size)
    case atStart => exact ⟨_, _, hrg0, H0.out _ (Below.of_grown_none hg0), Dsk.of_below (Below.of_grown_none hg0)⟩
    case round =>
      obtain ⟨left, cnt, HG⟩ := hrel
      go_wp2_with (first
        | (at_next; refine wpList_next_ranges _ rfl _ rfl 9 law9 Rp encStr fptr inv9 invP b w'.heap.size n _ left cnt rfl HG.out.1 ?_ ?_)
        | go_in)
      · intro _ hl0
        go_wp2
        go_ret
        exact ⟨rfl, _, HE.out left hl0, HG.out.2.1, HG.out.2.2⟩
      · intro x c kl y1 y2 w1 cnt1 hkey hlk hv hat hrg1 hlt hg1 hs1 hen
        obtain ⟨F, hF, rfl, rfl⟩ := comes_up Tryz.underlying9 hkey hv hat
        obtain ⟨hm1, hins⟩ := synced_step hlk HR.out hF
        have hiter : ∀ o, wr.heap[w'.heap.size]? = some o → ¬ dkind M w'.heap.size o := fun o ho hk => by
          obtain ⟨es, cl, si, se, c0, _, _, _, _, hit, _⟩ := HG.out.1
          rw [hit] at ho
          cases ho
          exact hk
        have hD1 : DiskAt Tryz.prog M base K d w1 (S.withF (synced left S.fs)) := HG.out.2.1.other (X := (· = w'.heap.size)) (.of_grown hg1 fun c e => by cases e; rfl) fun c e hmine => by
          subst e
          obtain ⟨_, o, ho, hk⟩ := hmine
          exact hiter o ho hk
        have hk1 : Dsk M base w' w1 := ⟨hg1.os.trans HG.out.2.2.os, hg1.tape.trans HG.out.2.2.tape, hg1.output.trans HG.out.2.2.output, Nat.le_trans HG.out.2.2.size hg1.size, fun c hc hx => (hg1.block c (Nat.lt_of_lt_of_le hc HG.out.2.2.size) (fun e => by cases e; omega)).trans (HG.out.2.2.block c hc hx)⟩
        have HN := hide (now_any base F w1 (hD1.files.files F hm1) (hD1.pieces hm1).1)
        have HS := hide (settle_any F.blk _ _ _ F.nowV w1 (hD1.files.files F hm1).row (let ⟨a, c, e⟩ := (hD1.files.files F hm1).now.form; ⟨a, _, c, e⟩))
        have HX : Hid (∀ w2, w2.heap[F.blk]? = some (.cells #[.bool true, F.nowV, .slice none 0 0] 118 (0, 0)) → Tch (· = F.blk) w1 w2 → w2.ranges Tryz.prog 9 Rp b w'.heap.size n (Dfs S.fs) (fun z => left z && !z.sameKey (.string F.nm)) cnt1 ∧ DiskAt Tryz.prog M base K d w2 (S.withF (synced (fun z => left z && !z.sameKey (.string F.nm)) S.fs)) ∧ Dsk M base w' w2) := fun w2 hr t => by
          obtain ⟨j1, j2⟩ := sync_one hD1 hm1 hr t
          have hrowF := (hD1.files.files F hm1).row
          have hne1 : b ≠ F.blk := fun e => by
            obtain ⟨_, es, cl, hmb⟩ := hD1.map.kind (b := b) HMb.out
            rw [e, hrowF] at hmb
            cases hmb
          have hne2 : w'.heap.size ≠ F.blk := fun e => by
            obtain ⟨es, cl, si, se, c0, _, _, _, _, hit, _⟩ := hrg1
            rw [e, hrowF] at hit
            cases hit
          refine ⟨hrg1.kept (row := some F.blk) ⟨t.os, t.tape, t.output, t.size, fun c hc hx => t.block c hc fun e => hx (by rw [e])⟩ (by simpa using hne1) (by simpa using hne2), ?_, Dsk.trans hk1 j2⟩
          have : (S.withF (synced left S.fs)).withF (ins WF.nm F.sync (S.withF (synced left S.fs)).fs) = S.withF (synced (fun z => left z && !z.sameKey (.string F.nm)) S.fs) := by
            show S.withF (ins WF.nm F.sync (synced left S.fs)) = _
            rw [hins]
          rw [← this]
          exact j1
        have HLE := hide (HG.out.1.left_eq)
        have HLT := hide hlt
        clear hkey hv hat hg1 hs1 hrg1 hlt hlk hD1 hk1 hins hm1 hiter
        simp only [fptr] at hen
        obtain ⟨B, hB⟩ : ∃ B, F.blk = B := ⟨_, rfl⟩
        rw [hB] at HN HS HX hen
        clear hB
        go_wp2_with (first
          | (go_at_call 63; refine HN.out.mono ?_; rintro e w' ⟨rfl, rfl⟩)
          | (go_at_call 62; refine HS.out.mono ?_; rintro e w2 ⟨rfl, hr2, t2, -⟩)
          | go_in)
        obtain ⟨k1, k2, k3⟩ := HX.out w2 hr2 t2
        exact ⟨⟨_, cnt1, k1, k2, k3⟩, by rw [k1.left_eq, HLE.out]; exact HLT.out⟩
end Go.Proofs.YtoineobjmllicaaGreatDoor
