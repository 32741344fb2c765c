/- Contract: a file has another name. -/
import Derived.Test.YtoineobjmllicaaGreatDoorDiskTrunc
namespace Go.Dk
open Go.RowKit Go.Maps
variable {M : Nat → Prop}
variable {P : Program} {base K d : Nat} {w w1 : World} {S : WD}
/-- A file that is of no disk now has a name, in the place of what had it. -/
theorem DiskAt.named (h : DiskAt P M base K d w S) {F : WF} (hF : FileAt base w F) (hap : ∀ G ∈ S.fs, ∀ b, G.foot b → ¬ F.foot b) {b n : Nat} (hb : S.mb = some b) (hn : n ≤ K)
    (hown : w1.ownsMap P 9 Rp b (n + 1) ((Dfs S.fs).put (.string F.nm) (.lit (.int .i64 F.blk)))) (tm : w.mapTurned w1 b) (hs : Small (K + 1) F.a) (hl : K + 1 ≤ 5000) :
    DiskAt P M base (K + 1) d w1 (S.withF (ins WF.nm F S.fs)) ∧ Dsk M base w w1 :=
  h.stored (F := F) (F' := F) (w1 := w) hF (fun G hG _ => hap G hG) (.refl _ _) hF (fun _ hb => .inl hb) hb hn hown tm hs hl
def named (dst l : Bs) : AF := ⟨dst, l, true, []⟩
theorem del_ins {α : Type} {nm : α → Bs} (F : α) {l : List α} (h : Rises nm l) : del nm (nm F) (ins nm F l) = del nm (nm F) l := by
  induction l with
  | nil => simp [ins, del]
  | cons g l ih =>
    unfold ins
    split
    · rename_i hb
      have := ih h.tail
      unfold del at this ⊢
      rw [List.filter_cons, List.filter_cons, this]
    · split
      · rename_i he
        simp [del, he]
      · simp [del]
theorem drewN_at (h : DiskAt P M base K d w S) (q : Nat) : DiskAt P M base K d (w.drewN q) S := h.below ⟨rfl, rfl, rfl, Nat.le_refl _, fun _ _ => rfl⟩
theorem Dsk.of_drewN {q : Nat} (h : Dsk M base (w.drewN q) w1) : Dsk M base w w1 := ⟨h.os, h.tape, h.output, h.size, h.block⟩
theorem map_at (h : DiskAt P M base K d w S) {b : Nat} (hb : S.mb = some b) : ∃ n, n ≤ K ∧ ∀ q, (w.drewN q).ownsMap P 9 Rp b n (Dfs S.fs) := by
  rcases h.map with ⟨e, _⟩ | ⟨b', n, e, _, hn, hown⟩
  · rw [hb] at e; cases e
  · rw [hb] at e
    cases e
    exact ⟨n, hn, fun _ => hown⟩
theorem cell_map (h : DiskAt P M base K d w S) {b : Nat} (hb : S.mb = some b) : w.cell? ⟨d, 0, none⟩ = some (.map (some b)) := by
  have := h.row
  unfold drow at this
  have := (Go.Proofs.YtoineobjmllicaaGreatDoor.cells6 this).1
  rw [hb] at this
  exact this
/-- A move, step by step: the file is settled, its name goes, it has the other one. -/
theorem move_core (h : DiskAt P M base K d w S) (hl : K + 1 ≤ 5000) {F : WF} (hm : F ∈ S.fs) (dst : Bs) (hto : nameOk dst = true) {w2 : World} (hs : SettledTo base w w2 F F.a.bytes) :
    ∃ (b n : Nat) (D : DataW Unit), Dsk M base w w2 ∧ w2.cell? ⟨d, 0, none⟩ = some (.map (some b)) ∧ n ≤ K ∧ (∀ q, (w2.drewN q).ownsMap P 9 Rp b n D) ∧
      ∀ q w3, w3.ownsMap P 9 Rp b n (D.del (.string F.nm)) → (w2.drewN q).mapTurned w3 b → Dsk M base w w3 ∧ w3.cell? ⟨d, 0, none⟩ = some (.map (some b)) ∧ ∃ (n' : Nat) (D' : DataW Unit), n' ≤ K ∧ (∀ q, (w3.drewN q).ownsMap P 9 Rp b n' D') ∧
        ∀ q w4, w4.ownsMap P 9 Rp b (n' + 1) (D'.put (.string dst) (.lit (.int .i64 F.blk))) → (w3.drewN q).mapTurned w4 b →
          ∃ T : WD, T.counted.a = S.a.left (ins AF.name (named dst F.a.bytes) (del AF.name F.nm S.a.files)) ∧ T.a.changes = S.a.changes ∧ DiskAt P M base (K + 1) d w4 T ∧ Dsk M base w w4 := by
  have hlen := (h.small F hm).bytes
  obtain ⟨F', e1, e2, k1, k2⟩ := settle_disk h hm hlen hs
  have en : F'.nm = F.nm := by unfold WF.nm; rw [e1]; rfl
  obtain ⟨b, hb⟩ : ∃ b, S.mb = some b := by
    rcases h.map with ⟨_, e⟩ | ⟨b, n, e, _⟩
    · rw [e] at hm; cases hm
    · exact ⟨b, e⟩
  obtain ⟨n, hn, hO⟩ := map_at k1 (b := b) hb
  refine ⟨b, n, _, k2, cell_map k1 hb, hn, hO, fun q w3 ho3 ht3 => ?_⟩
  obtain ⟨j1, j2⟩ := (drewN_at k1 q).gone (b := b) hb hn F.nm ho3 ht3
  have hlist : del WF.nm F.nm (S.withF (ins WF.nm F' S.fs)).fs = del WF.nm F.nm S.fs := by
    show del WF.nm F.nm (ins WF.nm F' S.fs) = _
    rw [← en]
    exact del_ins F' h.files.rises
  have j3 : Dsk M base w w3 := Dsk.trans k2 (Dsk.of_drewN j2)
  obtain ⟨n', hn', hO'⟩ := map_at j1 (b := b) hb
  refine ⟨j3, cell_map j1 hb, n', _, hn', hO', fun q' w4 ho4 ht4 => ?_⟩
  have hF' : FileAt base w2 F' := k1.files.files F' (by show F' ∈ ins WF.nm F' S.fs; exact (mem_ins_iff h.files.rises).2 (.inl rfl))
  obtain ⟨hbase', es, cl, hmb⟩ := k1.map.kind (b := b) hb
  have hF3 : FileAt base w3 F' := by
    refine hF'.touch (X := (· = b)) (w := w2) ?_ fun c hc e => hF'.not_map hmb (e ▸ hc)
    have := Tch.turned (X := (· = b)) ht3 rfl
    exact ⟨this.os, this.tape, this.output, this.size, this.block⟩
  have hFq : FileAt base (w3.drewN q') ⟨named dst F.a.bytes, F'.blk, F'.sv, F'.lv, F'.cs⟩ := by
    have hr := hF3.row
    have hall := hF3.all
    have hst := hF3.story
    have hsf := hF3.safe
    rw [e1] at hr hst
    refine ⟨hr, hF3.ge, fun p hp => ?_, hF3.loose, hst, fun p hp hpo => ?_⟩
    · have hp' : p ∈ F'.alls := by
        unfold WF.alls at hp ⊢
        rw [e1]
        exact hp
      exact hall p hp'
    · have hp' : p ∈ F'.alls := by
        unfold WF.alls at hp ⊢
        rw [e1]
        exact hp
      have := hsf p hp' hpo
      rw [e1] at this
      exact this
  have hap : ∀ G ∈ ((S.withF (ins WF.nm F' S.fs)).withF (del WF.nm F.nm (S.withF (ins WF.nm F' S.fs)).fs)).fs, ∀ c, G.foot c → ¬ (WF.mk (named dst F.a.bytes) F'.blk F'.sv F'.lv F'.cs).foot c := by
    intro G hG c hc hx
    obtain ⟨hG1, hG2⟩ := mem_del.1 (show G ∈ del WF.nm F.nm (ins WF.nm F' S.fs) from hG)
    refine k1.files.apart G hG1 F' ((mem_ins_iff h.files.rises).2 (.inl rfl)) (by rw [en]; exact hG2) c hc ?_
    rcases hx with hx | hx | ⟨p, hp, hx⟩
    · exact .inl hx
    · exact .inr (.inl hx)
    · refine .inr (.inr ⟨p, ?_, hx⟩)
      unfold WF.alls at hp ⊢
      rw [e1]
      exact hp
  obtain ⟨i1, i2⟩ := (drewN_at j1 q').named hFq hap (b := b) hb hn' (by rw [← e2] at ho4; exact ho4) ht4 ⟨Nat.zero_le _, fun i => by simp [AF.after, named]; omega, hto⟩ hl
  refine ⟨_, ?_, ?_, i1, Dsk.trans j3 (Dsk.of_drewN i2)⟩
  case refine_2 => rfl
  unfold WD.counted A.left
  show ({ S.a with files := (ins WF.nm (WF.mk (named dst F.a.bytes) F'.blk F'.sv F'.lv F'.cs) (del WF.nm F.nm (S.withF (ins WF.nm F' S.fs)).fs)).map WF.a, changes := S.a.changes + 1 } : A) = _
  rw [map_ins (na := WF.nm) (nb := AF.name) WF.a (fun _ => rfl), hlist, map_del (na := WF.nm) (nb := AF.name) WF.a (fun _ => rfl), h.same]
end Go.Dk
namespace Go.Proofs.YtoineobjmllicaaGreatDoor
open Go.RowKit Go.Dk
variable {M : Nat → Prop}
theorem settle_again {base : Nat} {w w' : World} {F : WF} (h : FileAt base w F) (q : Nat) (v : Value) (hv : v = F.nowV) (hr : w'.heap[F.blk]? = some (.cells #[.bool true, v, .slice none 0 0] 118 (0, 0))) (t : Tch (· = F.blk) (w.drewN q) w') : SettledTo base w w' F F.a.bytes := by
  subst hv
  exact settled_to h (w1 := w.drewN q) ⟨rfl, rfl, rfl, Nat.le_refl _, fun _ _ => rfl⟩ F.nowV _ h.now (fun g hg => .inr (.inr ⟨_, WF.now_mem h.story, hg⟩)) hr t
set_option maxRecDepth 5000 in
set_option maxHeartbeats 2000000 in
theorem movefn_any (base K d : Nat) (S : WD) (w : World) (h : DiskAt Tryz.prog M base K d w S) (hl : K + 1 ≤ 5000) (name dst : ByteArray) (hns : name.size ≤ maxLen) (hts : dst.size ≤ maxLen) (hto : nameOk dst.data.toList = true) (F : WF) (hf : seek WF.nm name.data.toList S.fs = some F)
    (g0 g1 g2 g3 : Nat) (b0 : w.heap[g0]? = some (.cells #[.pointer (some ⟨F.blk, 0, none⟩)] 79 (0, 0))) (b1 : w.heap[g1]? = some (.cells #[.pointer (some ⟨d, 0, none⟩)] 23 (0, 0))) (b2 : w.heap[g2]? = some (.cells #[.string name] 9 (0, 0))) (b3 : w.heap[g3]? = some (.cells #[.string dst] 9 (0, 0))) :
    Calls Tryz.prog 102 #[.pointer (some ⟨g0, 0, none⟩), .pointer (some ⟨g1, 0, none⟩), .pointer (some ⟨g2, 0, none⟩), .pointer (some ⟨g3, 0, none⟩)] w fun e w' => e = .returned (.tuple #[]) ∧
      ∃ T : WD, T.counted.a = S.a.left (ins AF.name (named dst.data.toList F.a.bytes) (del AF.name name.data.toList S.a.files)) ∧ T.a.changes = S.a.changes ∧ DiskAt Tryz.prog M base (K + 1) d w' T ∧ Dsk M base w w' := by
  obtain ⟨hm, hnm⟩ := seek_some hf
  have hF := h.files.files F hm
  have hcl := (h.pieces hm).1
  have q0 : w.cell? ⟨g0, 0, none⟩ = some (.pointer (some ⟨F.blk, 0, none⟩)) := by rw [cell_of_row _ _ _ _ _ _ b0]; rfl
  have HN : Hid (∀ q, Calls Tryz.prog 63 #[.pointer (some ⟨F.blk, 0, none⟩)] (w.drewN q) fun e w' => e = .returned F.nowV ∧ w' = w.drewN q) := fun q => now_any base F (w.drewN q) (hF.kept fun _ _ => rfl) hcl
  have HS : Hid (∀ q, Calls Tryz.prog 62 #[.pointer (some ⟨F.blk, 0, none⟩), F.nowV] (w.drewN q) fun e w' => e = .returned (.tuple #[]) ∧ SettledTo base w w' F F.a.bytes) := fun q =>
    (settle_any F.blk _ _ _ F.nowV (w.drewN q) hF.row (let ⟨a, c, e⟩ := hF.now.form; ⟨a, _, c, e⟩)).mono fun e w' ⟨e1, e2, e3, _⟩ => ⟨e1, settle_again hF q _ rfl e2 e3⟩
  have HM : Hid (∀ w2, SettledTo base w w2 F F.a.bytes → _) := fun w2 hs => move_core h hl hm dst.data.toList hto hs
  have HB : Hid (∀ w2, Dsk M base w w2 → w2.cell? ⟨g0, 0, none⟩ = some (.pointer (some ⟨F.blk, 0, none⟩)) ∧ w2.cell? ⟨g1, 0, none⟩ = some (.pointer (some ⟨d, 0, none⟩)) ∧ w2.cell? ⟨g2, 0, none⟩ = some (.string name) ∧ w2.cell? ⟨g3, 0, none⟩ = some (.string dst)) := fun w2 k =>
    ⟨by rw [cell_of_row _ _ _ _ _ _ (box_kept k b0 (by simp [dkind]))]; rfl, by rw [cell_of_row _ _ _ _ _ _ (box_kept k b1 (by simp [dkind]))]; rfl, by rw [cell_of_row _ _ _ _ _ _ (box_kept k b2 (by simp [dkind]))]; rfl, by rw [cell_of_row _ _ _ _ _ _ (box_kept k b3 (by simp [dkind]))]; rfl⟩
  have hkey : keyOf Tryz.prog 9 (.string name) = some (.string name.data.toList) := WideMaps.keyOf_string_mk Tryz.underlying9 hns
  have hkey2 : keyOf Tryz.prog 9 (.string dst) = some (.string dst.data.toList) := WideMaps.keyOf_string_mk Tryz.underlying9 hts
  have hlim := h.lim
  rw [hnm] at HM
  clear h hF b0 b1 b2 b3 hm hf hcl hnm
  obtain ⟨B, hB⟩ : ∃ B, F.blk = B := ⟨_, rfl⟩
  rw [hB] at HN HS HM HB q0
  clear hB
  go_enter Tryz.func102, Tryz.ntmps102
  go_wp2_with fail
  refine QTail.wp_region_tail (fun w' => ∃ n, w' = w.drewN n) 3 (by kernel_rfl) (by kernel_rfl) ⟨1, rfl⟩ ?_
  simp only [List.take_succ_cons, List.take_zero, List.drop_succ_cons, List.drop_zero]
  iterate 2 (first | go_big_quiet_step (fail) | quiet_step (fail))
  refine QuietClass.call1 rfl rfl Tryz.call63 (fun w' hc => by obtain ⟨q, rfl⟩ := hc; exact (HN.out q).mono fun e w'' ⟨e1, e2⟩ => ⟨e1, q, e2⟩) rfl ?_; simp only [Act.put, List.setIfInBounds_toArray, List.set_cons_succ, List.set_cons_zero]
  refine wpQuiet_nil ?_
  rintro _ ⟨nq, rfl⟩
  go_wp2_with (go_at_call 62; refine (HS.out nq).mono ?_; rintro e w2 ⟨rfl, hset⟩)
  obtain ⟨b, n, D, k2, c2, hn, hO, hnext⟩ := HM.out w2 hset
  obtain ⟨r0, r1, r2, r3⟩ := HB.out w2 k2
  have HO := hide hO
  have HX := hide hnext
  clear hO hnext hset HM HN HS q0 k2
  refine QTail.wp_region_tail (fun w' => ∃ n, w' = w2.drewN n) 5 (by kernel_rfl) (by kernel_rfl) ⟨1, rfl⟩ ?_
  simp only [List.take_succ_cons, List.take_zero, List.drop_succ_cons, List.drop_zero]
  repeat (first | go_big_quiet_step (fail) | quiet_step (fail))
  refine wpQuiet_nil ?_
  rintro _ ⟨nq2, rfl⟩
  go_wp2_with (first
    | (at_delete; refine wpList_delete_own _ rfl _ _ 65 9 rfl 79 law9 Tryz.underlying65 _ b n _ rfl (HO.out nq2) _ _ rfl hkey ?_; intro w3 hown3 hturn3)
    | go_in)
  obtain ⟨k3, c3, n', D', hn', hO', hnext'⟩ := HX.out nq2 w3 hown3 hturn3
  obtain ⟨s0, s1, s2, s3⟩ := HB.out w3 k3
  have HO' := hide hO'
  have HX' := hide hnext'
  clear hO' hnext' hown3 hturn3 HX HO HB r0 r1 r2 r3 c2 k3
  refine QTail.wp_region_tail (fun w' => ∃ n, w' = w3.drewN n) 6 (by kernel_rfl) (by kernel_rfl) ⟨1, rfl⟩ ?_
  simp only [List.take_succ_cons, List.take_zero, List.drop_succ_cons, List.drop_zero]
  repeat (first | go_big_quiet_step (fail) | quiet_step (fail))
  refine wpQuiet_nil ?_
  rintro _ ⟨nq3, rfl⟩
  go_wp2_with (first
    | (at_mapUpdate; refine wpList_mapUpdate_in _ rfl _ _ _ 65 rfl 9 79 law9 Tryz.underlying65 _ b n' _ rfl (HO'.out nq3) (by unfold maxLen; omega) _ _ _ rfl rfl hkey2 _ [] (Rp_mk B) ?_; intro w4 hown4 hturn4)
    | go_in)
  go_end0
  exact ⟨rfl, HX'.out nq3 w4 hown4 hturn4⟩
theorem move_err (base K d : Nat) (S : WD) (name dst : ByteArray) (r : Int) (w : World) (h : DiskAt Tryz.prog M base K d w S) (hs : name.size ≤ maxLen) (h0 : r ≠ 0)
    (hr : ableOf S.a name.data.toList = r ∨ (ableOf S.a name.data.toList = 0 ∧ seek WF.nm name.data.toList S.fs = none ∧ r = 2)) :
    Calls Tryz.prog 77 #[.pointer (some ⟨d, 0, none⟩), .string name, .string dst] w fun e w' => e = .returned (.int .i64 r) ∧ Below w.heap.size w w' := by
  have HF : Hid (∀ w1, Below w.heap.size w w1 → Calls Tryz.prog 93 #[.pointer (some ⟨d, 0, none⟩), .string name] w1 fun e w' => e = .returned (.tuple #[.pointer none, .int .i64 r]) ∧ w' = w1) := fun w1 hb => by
    rcases hr with hr | ⟨h1, h2, rfl⟩
    · exact find_err base K d S name r w1 (h.below hb) hs hr h0
    · exact find_none base K d S name w1 (h.below hb) hs h1 h2
  have hne : (r != 0) = true := by simpa using h0
  clear h hr
  go_enter Tryz.func77, Tryz.ntmps77
  go_wp2_with (go_at_call 93; refine (HF.out _ ((((Below.refl _ _).alloc (Nat.le_refl _) _).alloc (by simp) _).alloc (by simp <;> omega) _)).mono ?_; rintro e w' ⟨rfl, rfl⟩)
  go_ret
  exact ⟨rfl, ((((Below.refl _ _).alloc (Nat.le_refl _) _).alloc (by simp) _).alloc (by simp <;> omega) _).alloc (by simp <;> omega) _⟩
theorem move_name (base K d : Nat) (S : WD) (name dst : ByteArray) (w : World) (h : DiskAt Tryz.prog M base K d w S) (hs : name.size ≤ maxLen) (hts : dst.size ≤ maxLen) (ha : ableOf S.a name.data.toList = 0) (F : WF) (hf : seek WF.nm name.data.toList S.fs = some F) (hto : nameOk dst.data.toList = false) :
    Calls Tryz.prog 77 #[.pointer (some ⟨d, 0, none⟩), .string name, .string dst] w fun e w' => e = .returned (.int .i64 60) ∧ Below w.heap.size w w' := by
  have HF : Hid (∀ w1, Below w.heap.size w w1 → Calls Tryz.prog 93 #[.pointer (some ⟨d, 0, none⟩), .string name] w1 fun e w' => e = .returned (.tuple #[.pointer (some ⟨F.blk, 0, none⟩), .int .i64 0]) ∧ w' = w1) := fun w1 hb => find_some base K d S name F w1 (h.below hb) hs ha hf
  have HN := hide (fun w => name_is dst false w hts hto)
  clear h hf
  generalize F.blk = B at *
  go_enter Tryz.func77, Tryz.ntmps77
  go_wp2_with (first
    | (go_at_call 93; refine (HF.out _ ((((Below.refl _ _).alloc (Nat.le_refl _) _).alloc (by simp) _).alloc (by simp <;> omega) _)).mono ?_; rintro e w' ⟨rfl, rfl⟩)
    | (go_at_call 85; refine (HN.out _).mono ?_; rintro e w' ⟨rfl, rfl⟩))
  go_ret
  exact ⟨rfl, ((((Below.refl _ _).alloc (Nat.le_refl _) _).alloc (by simp) _).alloc (by simp <;> omega) _).alloc (by simp <;> omega) _⟩
theorem move_arg (base K d : Nat) (S : WD) (name : ByteArray) (w : World) (h : DiskAt Tryz.prog M base K d w S) (hs : name.size ≤ maxLen) (ha : ableOf S.a name.data.toList = 0) (F : WF) (hf : seek WF.nm name.data.toList S.fs = some F) :
    Calls Tryz.prog 77 #[.pointer (some ⟨d, 0, none⟩), .string name, .string name] w fun e w' => e = .returned (.int .i64 1) ∧ Below w.heap.size w w' := by
  have HF : Hid (∀ w1, Below w.heap.size w w1 → Calls Tryz.prog 93 #[.pointer (some ⟨d, 0, none⟩), .string name] w1 fun e w' => e = .returned (.tuple #[.pointer (some ⟨F.blk, 0, none⟩), .int .i64 0]) ∧ w' = w1) := fun w1 hb => find_some base K d S name F w1 (h.below hb) hs ha hf
  have HN := hide (fun w => name_is name true w hs (able_ok ha).2)
  clear h hf
  generalize F.blk = B at *
  go_enter Tryz.func77, Tryz.ntmps77
  go_wp2_with (first
    | (go_at_call 93; refine (HF.out _ ((((Below.refl _ _).alloc (Nat.le_refl _) _).alloc (by simp) _).alloc (by simp <;> omega) _)).mono ?_; rintro e w' ⟨rfl, rfl⟩)
    | (go_at_call 85; refine (HN.out _).mono ?_; rintro e w' ⟨rfl, rfl⟩))
  go_ret
  exact ⟨rfl, ((((Below.refl _ _).alloc (Nat.le_refl _) _).alloc (by simp) _).alloc (by simp <;> omega) _).alloc (by simp <;> omega) _⟩
/-- Four boxes. -/
def four (w : World) (d B : Nat) (name dst : ByteArray) : World := (((w.alloc (.cells #[.pointer (some ⟨d, 0, none⟩)] 23)).alloc (.cells #[.string name] 9)).alloc (.cells #[.string dst] 9)).alloc (.cells #[.pointer (some ⟨B, 0, none⟩)] 79)
theorem four_at (w : World) (d B : Nat) (name dst : ByteArray) :
    (four w d B name dst).heap[w.heap.size]? = some (.cells #[.pointer (some ⟨d, 0, none⟩)] 23 (0, 0)) ∧ (four w d B name dst).heap[w.heap.size + 1]? = some (.cells #[.string name] 9 (0, 0)) ∧ (four w d B name dst).heap[w.heap.size + 2]? = some (.cells #[.string dst] 9 (0, 0)) ∧
      (four w d B name dst).heap[w.heap.size + 3]? = some (.cells #[.pointer (some ⟨B, 0, none⟩)] 79 (0, 0)) ∧ Below w.heap.size w (four w d B name dst) := by
  refine ⟨?_, ?_, ?_, ?_, ?_⟩
  · unfold four
    rw [heap_alloc_old _ _ (by simp <;> omega), heap_alloc_old _ _ (by simp <;> omega), heap_alloc_old _ _ (by simp)]
    exact heap_alloc_new _ _
  · unfold four
    rw [heap_alloc_old _ _ (by simp <;> omega), heap_alloc_old _ _ (by simp)]
    have := heap_alloc_new (w.alloc (.cells #[.pointer (some ⟨d, 0, none⟩)] 23)) (.cells #[.string name] 9)
    simpa using this
  · unfold four
    rw [heap_alloc_old _ _ (by simp)]
    have := heap_alloc_new ((w.alloc (.cells #[.pointer (some ⟨d, 0, none⟩)] 23)).alloc (.cells #[.string name] 9)) (.cells #[.string dst] 9)
    simpa using this
  · have := heap_alloc_new (((w.alloc (.cells #[.pointer (some ⟨d, 0, none⟩)] 23)).alloc (.cells #[.string name] 9)).alloc (.cells #[.string dst] 9)) (.cells #[.pointer (some ⟨B, 0, none⟩)] 79)
    simpa [four] using this
  · exact ((((Below.refl _ w).alloc (Nat.le_refl _) _).alloc (by simp) _).alloc (by simp <;> omega) _).alloc (by simp <;> omega) _
set_option maxHeartbeats 1000000 in
theorem move_some (base K d : Nat) (S : WD) (name dst : ByteArray) (w : World) (h : DiskAt Tryz.prog M base K d w S) (hs : name.size ≤ maxLen) (hts : dst.size ≤ maxLen) (ha : ableOf S.a name.data.toList = 0) (F : WF) (hf : seek WF.nm name.data.toList S.fs = some F) (hto : nameOk dst.data.toList = true) (hne : name ≠ dst) (r : Int) (R : World → Prop)
    (hch : ∀ w1, Below w.heap.size w w1 → w1.heap[w.heap.size]? = some (.cells #[.pointer (some ⟨d, 0, none⟩)] 23 (0, 0)) → w1.heap[w.heap.size + 1]? = some (.cells #[.string name] 9 (0, 0)) → w1.heap[w.heap.size + 2]? = some (.cells #[.string dst] 9 (0, 0)) → w1.heap[w.heap.size + 3]? = some (.cells #[.pointer (some ⟨F.blk, 0, none⟩)] 79 (0, 0)) →
      Calls Tryz.prog 87 #[.pointer (some ⟨d, 0, none⟩), .func (.func 102) #[] #[.pointer (some ⟨w.heap.size + 3, 0, none⟩), .pointer (some ⟨w.heap.size, 0, none⟩), .pointer (some ⟨w.heap.size + 1, 0, none⟩), .pointer (some ⟨w.heap.size + 2, 0, none⟩)]] w1 fun e w' => e = .returned (.int .i64 r) ∧ R w') :
    Calls Tryz.prog 77 #[.pointer (some ⟨d, 0, none⟩), .string name, .string dst] w fun e w' => e = .returned (.int .i64 r) ∧ R w' := by
  have HF : Hid (∀ w1, Below w.heap.size w w1 → Calls Tryz.prog 93 #[.pointer (some ⟨d, 0, none⟩), .string name] w1 fun e w' => e = .returned (.tuple #[.pointer (some ⟨F.blk, 0, none⟩), .int .i64 0]) ∧ w' = w1) := fun w1 hb => find_some base K d S name F w1 (h.below hb) hs ha hf
  have HN := hide (fun w => name_is dst true w hts hto)
  obtain ⟨x0, x1, x2, x3, hb4⟩ := four_at w d F.blk name dst
  have HC := hide (hch (four w d F.blk name dst) hb4 x0 x1 x2 x3)
  unfold four at HC
  clear h hf hch x0 x1 x2 x3 hb4
  generalize F.blk = B at *
  have hbe : (name.toList == dst.toList) = false := by
    refine beq_eq_false_iff_ne.2 fun e => hne ?_
    rw [ByteArray.toList_eq, ByteArray.toList_eq] at e
    obtain ⟨⟨a⟩⟩ := name
    obtain ⟨⟨b⟩⟩ := dst
    simp_all
  clear hne
  go_enter Tryz.func77, Tryz.ntmps77
  go_wp2_with (first
    | (go_at_call 93; refine (HF.out _ ((((Below.refl _ _).alloc (Nat.le_refl _) _).alloc (by simp) _).alloc (by simp <;> omega) _)).mono ?_; rintro e w' ⟨rfl, rfl⟩)
    | (go_at_call 85; refine (HN.out _).mono ?_; rintro e w' ⟨rfl, rfl⟩)
    | (go_at_call 87; refine HC.out.mono ?_; rintro e w2 ⟨rfl, hR⟩))
  go_ret
  exact ⟨rfl, hR⟩
end Go.Proofs.YtoineobjmllicaaGreatDoor
