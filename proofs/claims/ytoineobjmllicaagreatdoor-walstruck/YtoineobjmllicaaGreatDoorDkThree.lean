/- Several texts in one: DiskStrike, DiskChange, DiskStore. -/
import Derived.Test.YtoineobjmllicaaGreatDoorCrashOne
import Derived.Lib.SliceRun
import Derived.Shelf.Abstract
import Derived.Test.YtoineobjmllicaaGreatDoorHoldsOne
/- Contracts: whether a fall that was laid takes the power; a change. -/
namespace Go.Dk
open Go.RowKit
variable {M : Nat → Prop}
/-- Does a fall take the power ahead of the next change? -/
def A.hit (a : A) : Option Fall := match a.fall with | some f => if f.on = a.changes then some f else none | none => none
end Go.Dk
namespace Go.Proofs.YtoineobjmllicaaGreatDoor
open Go.RowKit Go.Dk
variable {M : Nat → Prop}
set_option maxHeartbeats 400000 in
theorem pred_any (g d : Nat) (f : Fall) (ch : Int) (w : World) (h0 : w.cell? ⟨g, 0, none⟩ = some (.pointer (some ⟨d, 0, none⟩))) (h2 : w.cell? ⟨d, 2, none⟩ = some (.int .i64 ch)) :
    Calls Tryz.prog 130 #[.agg #[.int .i64 f.on, .int .i64 f.keep, .int .i64 f.torn], .pointer (some ⟨g, 0, none⟩)] w fun e w' => e = .returned (.bool (f.on == ch)) ∧ Below w.heap.size w w' := by
  have hg := World.block_lt_of_cell? w _ h0
  have hd := World.block_lt_of_cell? w _ h2
  simp only at hg hd
  have hg' : g ≠ w.heap.size := by omega
  have hd' : d ≠ w.heap.size := by omega
  go_enter Tryz.func130, Tryz.ntmps130
  go_wp2
  go_quiet (fail)
  go_wp2
  go_ret
  exact ⟨rfl, ((Below.refl _ _).alloc (Nat.le_refl _) _).trans ⟨rfl, rfl, rfl, Nat.le_refl _, fun _ _ => rfl⟩⟩
set_option maxHeartbeats 400000 in
theorem idx_zero (a : Option Addr) (c : Nat) (fv : Value) (w : World) :
    Calls Tryz.prog 129 #[.slice a 0 c, fv] w fun e w' => e = .returned (.int .i64 (-1)) ∧ w' = w := by
  go_enter Tryz.func129, Tryz.ntmps129
  go_wp2
  refine wp_loop_rounds 1 ?_
  rw [rounds_succ]
  go_wp2
  go_ret
  exact ⟨rfl, rfl⟩
set_option maxHeartbeats 400000 in
theorem idx_one (p cap g d : Nat) (f : Fall) (ch : Int) (w : World) (p0 : w.cell? ⟨p, 0, none⟩ = some (.int .i64 f.on)) (p1 : w.cell? ⟨p, 1, none⟩ = some (.int .i64 f.keep)) (p2 : w.cell? ⟨p, 2, none⟩ = some (.int .i64 f.torn))
    (h0 : w.cell? ⟨g, 0, none⟩ = some (.pointer (some ⟨d, 0, none⟩))) (h2 : w.cell? ⟨d, 2, none⟩ = some (.int .i64 ch)) :
    Calls Tryz.prog 129 #[.slice (some ⟨p, 0, none⟩) 1 cap, .func (.func 130) #[] #[.pointer (some ⟨g, 0, none⟩)]] w fun e w' => e = .returned (.int .i64 (if f.on = ch then 0 else -1)) ∧ Below w.heap.size w w' := by
  have HP := hide (pred_any g d f ch w h0 h2)
  by_cases he : f.on = ch
  · rw [if_pos he]
    have hb : (f.on == ch) = true := by simpa using he
    rw [hb] at HP
    clear he hb h0 h2
    go_enter Tryz.func129, Tryz.ntmps129
    go_wp2
    refine wp_loop_rounds 1 ?_
    rw [rounds_succ]
    go_wp2_with (go_at_call 130; refine HP.out.mono ?_; rintro e w1 ⟨rfl, k1⟩)
    go_ret
    exact ⟨rfl, k1⟩
  · rw [if_neg he]
    have hb : (f.on == ch) = false := by simpa using he
    rw [hb] at HP
    clear he hb h0 h2
    go_enter Tryz.func129, Tryz.ntmps129
    go_wp2
    refine wp_loop_rounds 2 ?_
    rw [rounds_succ]
    go_wp2_with (go_at_call 130; refine HP.out.mono ?_; rintro e w1 ⟨rfl, k1⟩)
    rw [rounds_succ]
    go_wp2
    go_ret
    exact ⟨rfl, k1⟩
set_option maxHeartbeats 1000000 in
theorem strike_calm (base K d : Nat) (S : WD) (w : World) (h : DiskAt Tryz.prog M base K d w S) (hh : S.a.hit = none) :
    Calls Tryz.prog 106 #[.pointer (some ⟨d, 0, none⟩)] w fun e w' => e = .returned (.bool false) ∧ Below w.heap.size w w' := by
  have hrow := h.row
  unfold drow at hrow
  obtain ⟨-, c1, c2, -, -, -, -⟩ := cells6 hrow
  have hd := h.lt
  have hd' : d ≠ w.heap.size := by omega
  have hplan := h.plan
  clear h hrow
  unfold A.hit at hh
  cases hf : S.a.fall with
  | none =>
    rw [hf] at hplan
    obtain ⟨a, c, hv⟩ := row_form hplan
    rw [hv] at c1
    simp only [flen] at c1
    clear hplan hv
    go_enter Tryz.func106, Tryz.ntmps106
    go_wp2_with (go_at_call 129; refine (idx_zero a c _ _).mono ?_; rintro e w1 ⟨rfl, rfl⟩)
    go_ret
    exact ⟨rfl, (Below.refl _ _).alloc (Nat.le_refl _) _⟩
  | some f =>
    rw [hf] at hplan hh
    have hne : f.on ≠ S.a.changes := fun e => by simp [e] at hh
    simp only [flen, fcells] at hplan
    rcases hplan.2 with ⟨_, h0⟩ | ⟨p, cap, cur, hv, hbp, hg, hle, _, hsz, htk⟩
    · omega
    · rw [hv] at c1
      have hp := block_lt hg
      have hp' : p ≠ w.heap.size := by omega
      have q0 : w.cell? ⟨p, 0, none⟩ = some (.int .i64 f.on) := by rw [cell_of_row _ _ _ _ _ _ hg, ← Array.getElem?_toList]; have : (cur.toList.take (1 * 3))[0]? = some (.int .i64 f.on) := by rw [htk]; rfl
                                                                   rwa [List.getElem?_take_of_lt (by omega)] at this
      have q1 : w.cell? ⟨p, 1, none⟩ = some (.int .i64 f.keep) := by rw [cell_of_row _ _ _ _ _ _ hg, ← Array.getElem?_toList]; have : (cur.toList.take (1 * 3))[1]? = some (.int .i64 f.keep) := by rw [htk]; rfl
                                                                     rwa [List.getElem?_take_of_lt (by omega)] at this
      have q2 : w.cell? ⟨p, 2, none⟩ = some (.int .i64 f.torn) := by rw [cell_of_row _ _ _ _ _ _ hg, ← Array.getElem?_toList]; have : (cur.toList.take (1 * 3))[2]? = some (.int .i64 f.torn) := by rw [htk]; rfl
                                                                     rwa [List.getElem?_take_of_lt (by omega)] at this
      have HI := hide (idx_one p cap w.heap.size d f S.a.changes (w.alloc (.cells #[.pointer (some ⟨d, 0, none⟩)] 23)) (Lib.cell?_alloc_some _ q0) (Lib.cell?_alloc_some _ q1) (Lib.cell?_alloc_some _ q2) (by rw [cell_of_row _ _ _ _ _ _ (heap_alloc_new w _)]; rfl) (Lib.cell?_alloc_some _ c2))
      rw [if_neg hne] at HI
      clear hplan hv hg hsz htk q0 q1 q2 hh
      go_enter Tryz.func106, Tryz.ntmps106
      go_wp2_with (go_at_call 129; refine HI.out.mono ?_; rintro e w1 ⟨rfl, k1⟩)
      go_ret
      exact ⟨rfl, ((Below.refl _ _).alloc (Nat.le_refl _) _).trans (k1.mono (by simp))⟩
end Go.Proofs.YtoineobjmllicaaGreatDoor
/- Contract of a change that no fall hinders: whatever is done. -/
namespace Go.Dk
variable {M : Nat → Prop}
def WD.counted (S : WD) : WD := { S with a := { S.a with changes := S.a.changes + 1 } }
end Go.Dk
namespace Go.Proofs.YtoineobjmllicaaGreatDoor
open Go.RowKit Go.Dk
variable {M : Nat → Prop}
set_option maxHeartbeats 400000 in
theorem change_calm (base K K' d : Nat) (S : WD) (w : World) (h : DiskAt Tryz.prog M base K d w S) (hh : S.a.hit = none) (fn : Nat) (caps : Array Value) (R : WD → Prop) (hK : S.a.changes + 1 ≤ K') (hK' : K' ≤ 5000)
    (eg : ∀ args w, (callFunc fn args).run Tryz.prog w = .ok (.enter fn args) w)
    (hdo : ∀ w1, Below w.heap.size w w1 → Calls Tryz.prog fn caps w1 fun e w2 => e = .returned (.tuple #[]) ∧ ∃ T, R T ∧ T.a.changes = S.a.changes ∧ DiskAt Tryz.prog M base K' d w2 T ∧ Dsk M base w1 w2) :
    Calls Tryz.prog 87 #[.pointer (some ⟨d, 0, none⟩), .func (.func fn) #[] caps] w fun e w' => e = .returned (.int .i64 0) ∧ ∃ T, R T ∧ DiskAt Tryz.prog M base K' d w' T.counted ∧ Dsk M base w w' := by
  have HS := hide (strike_calm base K d S w h hh)
  have HDo := hide hdo
  clear h hh hdo
  generalize S.a.changes = ch at *
  go_enter Tryz.func87, Tryz.ntmps87
  go_wp2_with (first
    | (go_at_call 106; refine HS.out.mono ?_; rintro e w1 ⟨rfl, k1⟩)
    | (go_at_fn fn; refine (HDo.out _ (by exact k1)).mono ?_; rintro e w2 ⟨rfl, T, hR, hch, hD, hk⟩; have c2 : w2.cell? ⟨d, 2, none⟩ = some (.int .i64 ch) := (by rw [← hch]; exact (cells6 hD.row).2.2.1); have f2 := (cells6 hD.row).2.2.2.2.2.2 2))
  go_ret
  obtain ⟨k2, k3⟩ := hD.reset (S' := T.counted) (w' := w2.setCell ⟨d, 2, none⟩ (.int .i64 ((ch : Int) + 1))) (by
    rw [heap_setCell_same _ _ _ _ _ _ hD.row]
    unfold WD.counted drow
    simp only [hch]
    rfl) (.set _ _ _ _ rfl) rfl rfl rfl rfl rfl hD.rm (by show T.a.changes + 1 ≤ K'; rw [hch]; exact hK) (Nat.le_refl _) hK'
  exact ⟨rfl, T, hR, k2, Dsk.trans (Dsk.trans (.of_below k1) hk) k3⟩
end Go.Proofs.YtoineobjmllicaaGreatDoor
/- Contract: bytes are put into a file, and the file has its name. -/
namespace Go.Dk
open Go.RowKit Go.Maps
variable {M : Nat → Prop}
variable {P : Program} {base K d : Nat} {w w1 w2 : World} {S : WD}
theorem box_kept (h : Dsk M base w w1) {g : Nat} {cs : Array Value} {T : TypeId} {fr : Nat × Nat} (hg : w.heap[g]? = some (.cells cs T fr)) (hT : ¬ dkind M g (.cells cs T fr)) : w1.heap[g]? = some (.cells cs T fr) :=
  (h.block g (block_lt hg) fun ⟨_, o, ho, hk⟩ => by rw [hg] at ho; cases ho; exact hT hk).trans hg
theorem DiskAt.stored (h : DiskAt P M base K d w S) {F F' : WF} (hF : FileAt base w F) (hap : ∀ G ∈ S.fs, G.nm ≠ F'.nm → ∀ b, G.foot b → ¬ F.foot b) (t : Tch F.foot w w1) (h' : FileAt base w1 F') (hf : ∀ b, F'.foot b → F.foot b ∨ w.heap.size ≤ b)
    {b n : Nat} (hb : S.mb = some b) (hn : n ≤ K) (hown : w2.ownsMap P 9 Rp b (n + 1) ((Dfs S.fs).put (.string F'.nm) (.lit (.int .i64 F'.blk)))) (tm : w1.mapTurned w2 b) (hs : Small (K + 1) F'.a) (hl : K + 1 ≤ 5000) :
    DiskAt P M base (K + 1) d w2 (S.withF (ins WF.nm F' S.fs)) ∧ Dsk M base w w2 := by
  obtain ⟨h1, h2, h3, h4, h5⟩ := h.turn hF hap t h' hf
  have tt : Tch (· = b) w1 w2 := .turned tm rfl
  obtain ⟨hbase, es, cl, hmb⟩ := h3.kind hb
  rw [Dof_ins (nm := WF.nm) (bk := WF.blk) F' h.files.rises] at hown
  refine ⟨⟨(tt.block d (block_lt h1) fun e => ?_).trans h1, h.ge, h.rm, ownsRow_kept h2 fun g hg => ?_, .inr ⟨b, n + 1, hb, hbase, by omega, hown⟩, ?_, rfl, fun G hG => ?_, ?_, ?_, hl, h.own⟩, Dsk.trans h5 (tt.mono fun c e => e ▸ ⟨hbase, _, hmb, h.own b (.inl hb)⟩)⟩
  · rw [e, hmb] at h1
    cases h1
  · obtain ⟨cur, hc⟩ := ownsRow_tag h2 hg
    refine tt.block g (block_lt hc) fun e => ?_
    rw [e, hmb] at hc
    cases hc
  · exact h4.touch tt fun G hG c hc e => (h4.files G hG).not_map hmb (e ▸ hc)
  · rcases (mem_ins_iff h.files.rises).1 hG with rfl | ⟨hG, _⟩
    · exact hs
    · exact (h.small G hG).mono (Nat.le_succ _)
  · exact Nat.le_trans (length_ins _ _) (Nat.succ_le_succ h.count)
  · exact Nat.le_succ_of_le h.chg
theorem Small.put {f : AF} (h : Small K f) (p : Pt) (hp : p.s.length ≤ 2000) : Small (K + 1) (f.put p) := by
  refine ⟨by show (f.puts ++ [p]).length ≤ _; rw [List.length_append]; exact Nat.succ_le_succ h.puts, fun i => ?_, h.name⟩
  by_cases hi : i ≤ f.puts.length
  · have : (f.put p).after i = f.after i := by
      unfold AF.after AF.put
      simp only
      rw [List.take_append_of_le_length hi]
    rw [this]
    have := h.lens i
    omega
  · have : (f.put p).after i = app f.bytes p := by
      unfold AF.after
      rw [List.take_of_length_le (by show (f.puts ++ [p]).length ≤ i; simp; omega)]
      exact AF.bytes_put f p
    rw [this]
    have := h.bytes
    unfold app
    split
    · omega
    · rw [List.length_append]; omega
/-- A disk that had no map has one without entries. -/
theorem DiskAt.mapped (h : DiskAt P M base K d w S) (hM : M w.heap.size) (hm : S.mb = none) (hbase : base ≤ w.heap.size) {w1 : World} (hb : Below w.heap.size w w1) (hown : w1.ownsMap P 9 Rp w.heap.size 0 (.map [])) (hr : w2.heap[d]? = some (.cells (drow { S with mb := some w.heap.size }) 67 (0, 0))) (t : Tch (· = d) w1 w2) :
    DiskAt P M base K d w2 { S with mb := some w.heap.size } ∧ Dsk M base w w2 := by
  have h1 := h.below hb
  have hfs : S.fs = [] := by
    rcases h.map with ⟨_, e⟩ | ⟨b, n, e, _⟩
    · exact e
    · rw [hm] at e; cases e
  have hne : d ≠ w.heap.size := Nat.ne_of_lt h.lt
  refine ⟨⟨hr, h.ge, h.rm, ownsRow_kept h1.plan fun g hg => ?_, .inr ⟨_, 0, rfl, hbase, Nat.zero_le _, ?_⟩, ?_, h.same, h.small, h.count, h.chg, h.lim, (fun b e => e.elim (fun e => by cases e; exact hM) fun e => h.own b (.inr e))⟩, Dsk.trans (.of_below hb) (t.mono fun c e => e ▸ h1.mine_d)⟩
  · obtain ⟨cur, hc⟩ := ownsRow_tag h1.plan hg
    refine t.block g (block_lt hc) fun e => ?_
    rw [e, h1.row] at hc
    cases hc
  · show w2.ownsMap P 9 Rp w.heap.size 0 (Dfs S.fs)
    rw [hfs]
    obtain ⟨es, cl, k1, k2⟩ := hown
    exact ⟨es, cl, (t.block _ (block_lt k1) fun e => hne e.symm).trans k1, k2⟩
  · show FilesAt base w2 S.fs
    rw [hfs]
    exact FilesAt.nil _ _
/-- The files behind a put. -/
def WD.put (S : WD) (F' : WF) : WD := S.withF (ins WF.nm F' S.fs)
end Go.Dk
namespace Go.Proofs.YtoineobjmllicaaGreatDoor
open Go.RowKit Go.Dk Go.Maps
variable {M : Nat → Prop}
/-- Behind a put into a file: what is there, and what the store into the map leaves. -/
theorem put_core (base K d b : Nat) (S : WD) (w : World) (h : DiskAt Tryz.prog M base K d w S) (hb : S.mb = some b) (hl : K + 1 ≤ 5000) (F : WF) (hF : FileAt base w F) (name s : ByteArray) (hnm : F.nm = name.data.toList)
    (hap : ∀ G ∈ S.fs, G.nm ≠ F.nm → ∀ b, G.foot b → ¬ F.foot b) (hsm : Small K F.a) (hs : s.size ≤ 2000) (whole : Bool)
    (g0 g1 g4 : Nat) (b0 : w.heap[g0]? = some (.cells #[.pointer (some ⟨d, 0, none⟩)] 23 (0, 0))) (b1 : w.heap[g1]? = some (.cells #[.pointer (some ⟨F.blk, 0, none⟩)] 79 (0, 0))) (b4 : w.heap[g4]? = some (.cells #[.string name] 9 (0, 0))) :
    ∀ w1, PutTo base w w1 F ⟨s.data.toList, whole⟩ → ∃ F' : WF, F'.a = F.a.put ⟨s.data.toList, whole⟩ ∧ F'.blk = F.blk ∧ w1.cell? ⟨g0, 0, none⟩ = some (.pointer (some ⟨d, 0, none⟩)) ∧ w1.cell? ⟨g1, 0, none⟩ = some (.pointer (some ⟨F.blk, 0, none⟩)) ∧ w1.cell? ⟨g4, 0, none⟩ = some (.string name) ∧
      w1.cell? ⟨d, 0, none⟩ = some (.map (some b)) ∧ ∃ n, n ≤ K ∧ (∀ q, (w1.drewN q).ownsMap Tryz.prog 9 Rp b n (Dfs S.fs)) ∧ ∀ q w2, w2.ownsMap Tryz.prog 9 Rp b (n + 1) ((Dfs S.fs).put (.string name.data.toList) (.lit (.int .i64 F.blk))) → (w1.drewN q).mapTurned w2 b → DiskAt Tryz.prog M base (K + 1) d w2 (S.put F') ∧ Dsk M base w w2 := by
  rintro w1 ⟨F', e1, e2, h1, t1, f1⟩
  have en : F'.nm = F.nm := by unfold WF.nm; rw [e1]; rfl
  have hap' : ∀ G ∈ S.fs, G.nm ≠ F'.nm → ∀ b, G.foot b → ¬ F.foot b := by rw [en]; exact hap
  obtain ⟨k1, k2, k3, k4, k5⟩ := h.turn hF hap' t1 h1 f1
  have r0 := box_kept k5 b0 (by simp [dkind])
  have r1 := box_kept k5 b1 (by simp [dkind])
  have r4 := box_kept k5 b4 (by simp [dkind])
  unfold drow at k1
  have rd := (cells6 k1).1
  rw [hb] at rd
  refine ⟨F', e1, e2, by rw [cell_of_row _ _ _ _ _ _ r0]; rfl, by rw [cell_of_row _ _ _ _ _ _ r1]; rfl, by rw [cell_of_row _ _ _ _ _ _ r4]; rfl, rd, ?_⟩
  rcases k3 with ⟨e, _⟩ | ⟨b', n, e, _, hn, hown⟩
  · rw [hb] at e; cases e
  · rw [hb] at e
    cases e
    refine ⟨n, hn, fun q => hown, fun q w2 hown2 tm => ?_⟩
    have hown2' : w2.ownsMap Tryz.prog 9 Rp b (n + 1) ((Dfs S.fs).put (.string F'.nm) (.lit (.int .i64 F'.blk))) := by rw [en, hnm, e2]; exact hown2
    exact h.stored hF hap' (t1.drewN q) (h1.kept (w' := w1.drewN q) fun _ _ => rfl) f1 hb hn hown2' tm (by rw [e1]; exact hsm.put _ (by show s.data.toList.length ≤ 2000; simpa using hs)) hl
theorem map_some (b : Nat) (w : World) : (binOp .eql 65 (.map (some b)) (.map none)).run Tryz.prog w = .ok (.bool false) w := by kernel_rfl
theorem map_none (w : World) : (binOp .eql 65 (.map none) (.map none)).run Tryz.prog w = .ok (.bool true) w := by kernel_rfl
set_option maxRecDepth 5000 in
set_option maxHeartbeats 1000000 in
/-- The change that puts, where there is a map. -/
theorem putfn_map (base K d b : Nat) (S : WD) (w : World) (h : DiskAt Tryz.prog M base K d w S) (hbase : base ≤ w.heap.size) (hb : S.mb = some b) (hl : K + 1 ≤ 5000) (F : WF) (hF : FileAt base w F) (name s : ByteArray) (hnm : F.nm = name.data.toList) (hns : name.size ≤ maxLen)
    (hap : ∀ G ∈ S.fs, G.nm ≠ F.nm → ∀ b, G.foot b → ¬ F.foot b) (hsm : Small K F.a) (hs : s.size ≤ 2000) (whole : Bool) (stay : Value) (hstay : (whole = true ∧ stay = .slice none 0 0) ∨ (whole = false ∧ stay = F.nowV))
    (g0 g1 g2 g3 g4 : Nat) (b0 : w.heap[g0]? = some (.cells #[.pointer (some ⟨d, 0, none⟩)] 23 (0, 0))) (b1 : w.heap[g1]? = some (.cells #[.pointer (some ⟨F.blk, 0, none⟩)] 79 (0, 0))) (b2 : w.heap[g2]? = some (.cells #[stay] 100 (0, 0))) (b3 : w.heap[g3]? = some (.cells #[.string s] 9 (0, 0))) (b4 : w.heap[g4]? = some (.cells #[.string name] 9 (0, 0))) :
    Calls Tryz.prog 88 #[.pointer (some ⟨g0, 0, none⟩), .pointer (some ⟨g1, 0, none⟩), .pointer (some ⟨g2, 0, none⟩), .pointer (some ⟨g3, 0, none⟩), .pointer (some ⟨g4, 0, none⟩)] w fun e w' => e = .returned (.tuple #[]) ∧
      ∃ F' : WF, F'.a = F.a.put ⟨s.data.toList, whole⟩ ∧ DiskAt Tryz.prog M base (K + 1) d w' (S.put F') ∧ Dsk M base w w' := by
  have hrow := h.row
  unfold drow at hrow
  obtain ⟨c0, -⟩ := cells6 hrow
  rw [hb] at c0
  have hcl : F.cs.length ≤ 1000000 := by rw [hF.story.length]; have := hsm.puts; have := h.lim; omega
  have hbl : F.a.bytes.length + s.size ≤ 1000000000 := by have := hsm.bytes; have := h.lim; omega
  have HP := hide (fput_any base F w hF hbase whole stay hstay s hcl hbl)
  have q0 : w.cell? ⟨g0, 0, none⟩ = some (.pointer (some ⟨d, 0, none⟩)) := by rw [cell_of_row _ _ _ _ _ _ b0]; rfl
  have q1 : w.cell? ⟨g1, 0, none⟩ = some (.pointer (some ⟨F.blk, 0, none⟩)) := by rw [cell_of_row _ _ _ _ _ _ b1]; rfl
  have q2 : w.cell? ⟨g2, 0, none⟩ = some stay := by rw [cell_of_row _ _ _ _ _ _ b2]; rfl
  have q3 : w.cell? ⟨g3, 0, none⟩ = some (.string s) := by rw [cell_of_row _ _ _ _ _ _ b3]; rfl
  have HX := hide (put_core base K d b S w h hb hl F hF name s hnm hap hsm hs whole g0 g1 g4 b0 b1 b4)
  have hkey : keyOf Tryz.prog 9 (.string name) = some (.string name.data.toList) := WideMaps.keyOf_string_mk Tryz.underlying9 hns
  have hlim := h.lim
  clear h hrow hF hap hsm b0 b1 b2 b3 b4 hb hstay hcl hbl hnm
  obtain ⟨B, hB⟩ : ∃ B, F.blk = B := ⟨_, rfl⟩
  rw [hB] at HP HX q1
  clear hB
  have hms := map_some b w
  go_enter Tryz.func88, Tryz.ntmps88
  go_wp2_with (go_at_call 89; refine HP.out.mono ?_; rintro e w1 ⟨rfl, hput⟩; obtain ⟨F', hF'a, hF'b, r0, r1, r4, rd, n, hnK, hO, hfin⟩ := HX.out w1 hput)
  have HO := hide hO
  have HFin := hide hfin
  clear hO hfin hput HX HP q0 q1 q2 q3 c0
  refine QTail.wp_region_tail (fun w' => ∃ n, w' = w1.drewN n) 6 (by kernel_rfl) (by kernel_rfl) ⟨1, rfl⟩ ?_
  simp only [List.take_succ_cons, List.take_zero, List.drop_succ_cons, List.drop_zero]
  repeat (first | go_big_quiet_step (fail) | quiet_step (fail))
  refine wpQuiet_nil ?_
  rintro _ ⟨nq, rfl⟩
  go_wp2_with (first
    | (at_mapUpdate; refine wpList_mapUpdate_in _ rfl _ _ _ 65 rfl 9 79 law9 Tryz.underlying65 _ b n _ rfl (HO.out nq) (by unfold maxLen; omega) _ _ _ rfl rfl hkey _ [] (Rp_mk B) ?_; intro w2 hown2 hturn2)
    | go_in)
  go_end0
  exact ⟨rfl, F', hF'a, HFin.out nq w2 hown2 hturn2⟩
set_option maxRecDepth 5000 in
set_option maxHeartbeats 1000000 in
/-- The change that puts, where there is none yet. -/
theorem putfn_none (hM : ∀ b, M b) (base K d : Nat) (S : WD) (w : World) (h : DiskAt Tryz.prog M base K d w S) (hbase : base ≤ w.heap.size) (hb : S.mb = none) (hl : K + 1 ≤ 5000) (F : WF) (hF : FileAt base w F) (name s : ByteArray) (hnm : F.nm = name.data.toList) (hns : name.size ≤ maxLen)
    (hap : ∀ G ∈ S.fs, G.nm ≠ F.nm → ∀ b, G.foot b → ¬ F.foot b) (hsm : Small K F.a) (hs : s.size ≤ 2000) (whole : Bool) (stay : Value) (hstay : (whole = true ∧ stay = .slice none 0 0) ∨ (whole = false ∧ stay = F.nowV))
    (g0 g1 g2 g3 g4 : Nat) (b0 : w.heap[g0]? = some (.cells #[.pointer (some ⟨d, 0, none⟩)] 23 (0, 0))) (b1 : w.heap[g1]? = some (.cells #[.pointer (some ⟨F.blk, 0, none⟩)] 79 (0, 0))) (b2 : w.heap[g2]? = some (.cells #[stay] 100 (0, 0))) (b3 : w.heap[g3]? = some (.cells #[.string s] 9 (0, 0))) (b4 : w.heap[g4]? = some (.cells #[.string name] 9 (0, 0))) :
    Calls Tryz.prog 88 #[.pointer (some ⟨g0, 0, none⟩), .pointer (some ⟨g1, 0, none⟩), .pointer (some ⟨g2, 0, none⟩), .pointer (some ⟨g3, 0, none⟩), .pointer (some ⟨g4, 0, none⟩)] w fun e w' => e = .returned (.tuple #[]) ∧
      ∃ F' : WF, F'.a = F.a.put ⟨s.data.toList, whole⟩ ∧ DiskAt Tryz.prog M base (K + 1) d w' (({ S with mb := some w.heap.size } : WD).put F') ∧ Dsk M base w w' := by
  have hrow := h.row
  unfold drow at hrow
  obtain ⟨c0, -, -, -, -, -, fz⟩ := cells6 hrow
  have f0 := fz 0
  rw [hb] at c0
  have hdlt := h.lt
  have hd' : d ≠ w.heap.size := Nat.ne_of_lt hdlt
  obtain ⟨w0, hw0⟩ : ∃ w0, (w.setCell ⟨d, 0, none⟩ (.map (some w.heap.size))).alloc (.map #[] 0) = w0 := ⟨_, rfl⟩
  have hba : Below w.heap.size w (w.alloc (.map #[] 0)) := (Below.refl _ _).alloc (Nat.le_refl _) _
  have hta : Tch (· = d) (w.alloc (.map #[] 0)) w0 := by rw [← hw0, ← World.setCell_alloc_past _ _ _ _ hdlt]; exact .set _ _ _ _ rfl
  obtain ⟨h0, k0⟩ := h.mapped (hM _) hb hbase hba (World.ownsMap_made w _ _ _) (w2 := w0) (by
    rw [← hw0, ← World.setCell_alloc_past _ _ _ _ hdlt, heap_setCell_same _ _ _ _ _ _ (h.below hba).row]
    rfl) hta
  have hF0 : FileAt base w0 F := (hF.touch (X := fun _ => False) (.of_below hba) fun _ _ x => x).touch hta fun c hc e => hF.not_d h.row (e ▸ hc)
  have hcl : F.cs.length ≤ 1000000 := by rw [hF.story.length]; have := hsm.puts; have := h.lim; omega
  have hbl : F.a.bytes.length + s.size ≤ 1000000000 := by have := hsm.bytes; have := h.lim; omega
  have HP := hide (fput_any base F w0 hF0 (Nat.le_trans hbase k0.size) whole stay hstay s hcl hbl)
  have e1 := box_kept k0 b1 (by simp [dkind])
  have e2 := box_kept k0 b2 (by simp [dkind])
  have e3 := box_kept k0 b3 (by simp [dkind])
  have v1 : w0.cell? ⟨g1, 0, none⟩ = some (.pointer (some ⟨F.blk, 0, none⟩)) := by rw [cell_of_row _ _ _ _ _ _ e1]; rfl
  have v2 : w0.cell? ⟨g2, 0, none⟩ = some stay := by rw [cell_of_row _ _ _ _ _ _ e2]; rfl
  have v3 : w0.cell? ⟨g3, 0, none⟩ = some (.string s) := by rw [cell_of_row _ _ _ _ _ _ e3]; rfl
  have u0 : (w.alloc (.map #[] 0)).cell? ⟨g0, 0, none⟩ = some (.pointer (some ⟨d, 0, none⟩)) := by rw [cell_of_row _ _ _ _ _ _ ((hba.block g0 (block_lt b0)).trans b0)]; rfl
  have q0 : w.cell? ⟨g0, 0, none⟩ = some (.pointer (some ⟨d, 0, none⟩)) := by rw [cell_of_row _ _ _ _ _ _ b0]; rfl
  have HX := hide (put_core base K d w.heap.size { S with mb := some w.heap.size } w0 h0 rfl hl F hF0 name s hnm hap hsm hs whole g0 g1 g4 (box_kept k0 b0 (by simp [dkind])) e1 (box_kept k0 b4 (by simp [dkind])))
  have hkey : keyOf Tryz.prog 9 (.string name) = some (.string name.data.toList) := WideMaps.keyOf_string_mk Tryz.underlying9 hns
  have hlim := h.lim
  have HK0 := hide k0
  have HW0 := hide hw0
  have hmk := @run_makeMap Tryz.prog
  clear h hrow hF hF0 hap hsm b0 b1 b2 b3 b4 hb hstay hcl hbl hnm h0 k0 hw0 hta fz e1 e2 e3 hba
  obtain ⟨B, hB⟩ : ∃ B, F.blk = B := ⟨_, rfl⟩
  rw [hB] at HP HX v1
  clear hB
  have hms := map_none w
  go_enter Tryz.func88, Tryz.ntmps88
  go_upto_region 2 with fail
  rw [HW0.out]
  go_wp2_with (go_at_call 89; refine HP.out.mono ?_; rintro e w1 ⟨rfl, hput⟩; obtain ⟨F', hF'a, hF'b, r0, r1, r4, rd, n, hnK, hO, hfin⟩ := HX.out w1 hput)
  have HO := hide hO
  have HFin := hide hfin
  have HE : Hid (w.heap.size = w.heap.size) := rfl
  generalize hZ : w.heap.size = Z at HO HFin rd
  clear hO hfin hput HX HP q0 v1 v2 v3 u0 c0 HE
  refine QTail.wp_region_tail (fun w' => ∃ n, w' = w1.drewN n) 6 (by kernel_rfl) (by kernel_rfl) ⟨1, rfl⟩ ?_
  simp only [List.take_succ_cons, List.take_zero, List.drop_succ_cons, List.drop_zero]
  repeat (first | go_big_quiet_step (fail) | quiet_step (fail))
  refine wpQuiet_nil ?_
  rintro _ ⟨nq, rfl⟩
  go_wp2_with (first
    | (at_mapUpdate; refine wpList_mapUpdate_in _ rfl _ _ _ 65 rfl 9 79 law9 Tryz.underlying65 _ Z n _ rfl (HO.out nq) (by unfold maxLen; omega) _ _ _ rfl rfl hkey _ [] (Rp_mk B) ?_; intro w2 hown2 hturn2)
    | go_in)
  go_end0
  obtain ⟨k1, k2⟩ := HFin.out nq w2 hown2 hturn2
  exact ⟨rfl, F', hF'a, k1, Dsk.trans HK0.out k2⟩
end Go.Proofs.YtoineobjmllicaaGreatDoor
