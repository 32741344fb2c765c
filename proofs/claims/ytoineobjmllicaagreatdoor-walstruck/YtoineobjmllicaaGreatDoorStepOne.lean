/- Several texts in one: DiskStep. -/
import Derived.Test.YtoineobjmllicaaGreatDoorDkFour
import Derived.Test.YtoineobjmllicaaGreatDoorFallOne
/- How a disk in memory goes on: a file that is another one now, a map's entry that comes or goes, a field that is laid; of no program but for the numbers of its types. -/
namespace Go.Dk
open Go.RowKit Go.Maps
variable {M : Nat → Prop}
/-! ### lists -/
theorem map_ins {α β : Type} {na : α → Bs} {nb : β → Bs} (g : α → β) (hg : ∀ x, nb (g x) = na x) (f : α) : ∀ l : List α, (ins na f l).map g = ins nb (g f) (l.map g)
  | [] => rfl
  | x :: l => by
    unfold ins
    simp only [List.map_cons, hg]
    split
    · simp [map_ins g hg f l]
    · split <;> simp
theorem map_del {α β : Type} {na : α → Bs} {nb : β → Bs} (g : α → β) (hg : ∀ x, nb (g x) = na x) (k : Bs) (l : List α) : (del na k l).map g = del nb k (l.map g) := by
  unfold del
  rw [List.filter_map]
  congr 1
  refine List.filter_congr fun x _ => ?_
  simp [hg]
theorem map_seek {α β : Type} {na : α → Bs} {nb : β → Bs} (g : α → β) (hg : ∀ x, nb (g x) = na x) (k : Bs) (l : List α) : (seek na k l).map g = seek nb k (l.map g) := by
  unfold seek
  rw [List.find?_map]
  congr 2
  funext x
  simp [hg]
theorem ins_mid {α : Type} {nm : α → Bs} {F F' : α} (e : nm F' = nm F) : ∀ {gs rest : List α}, Rises nm (gs ++ F :: rest) → ins nm F' (gs ++ F :: rest) = gs ++ F' :: rest
  | [], rest, h => by
    show ins nm F' (F :: rest) = F' :: rest
    unfold ins
    rw [e, WideAt.bytes_irrefl]
    simp
  | g :: gs, rest, h => by
    show ins nm F' (g :: (gs ++ F :: rest)) = _
    unfold ins
    rw [e, (show Rises nm (g :: (gs ++ F :: rest)) from h).head F (by simp)]
    simp only [if_true]
    rw [ins_mid e (Rises.tail h)]
    rfl
theorem del_mid {α : Type} {nm : α → Bs} {F : α} {gs rest : List α} (h : Rises nm (gs ++ F :: rest)) : del nm (nm F) (gs ++ F :: rest) = gs ++ rest := by
  unfold del
  obtain ⟨h1, h2, h3⟩ := List.pairwise_append.1 h
  rw [List.filter_append, List.filter_cons]
  have e1 : gs.filter (fun g => decide (nm g ≠ nm F)) = gs := List.filter_eq_self.2 fun g hg => by
    have := before_ne (h3 g hg F (by simp))
    simpa using this
  have e2 : rest.filter (fun g => decide (nm g ≠ nm F)) = rest := List.filter_eq_self.2 fun g hg => by
    have := before_ne ((List.pairwise_cons.1 h2).1 g hg)
    simpa using fun e => this e.symm
  rw [e1, e2]
  simp
theorem Dfs_ins {F F' : WF} (e : F'.nm = F.nm) (eb : F'.blk = F.blk) {fs : List WF} (h : Rises WF.nm fs) (hF : F ∈ fs) : Dfs (ins WF.nm F' fs) = Dfs fs := by
  obtain ⟨gs, rest, rfl⟩ := List.append_of_mem hF
  rw [ins_mid e h]
  unfold Dfs Dof
  simp [e, eb]
theorem length_ins_mem {F F' : WF} (e : F'.nm = F.nm) {fs : List WF} (h : Rises WF.nm fs) (hF : F ∈ fs) : (ins WF.nm F' fs).length = fs.length := by
  obtain ⟨gs, rest, rfl⟩ := List.append_of_mem hF
  rw [ins_mid e h]
  simp
/-! ### steps -/
variable {P : Program} {base K d : Nat} {w w' : World} {S : WD}
/-- A file, of the list or a new one, is another one now; the disk's own blocks stand. -/
theorem DiskAt.turn (h : DiskAt P M base K d w S) {F F' : WF} (hF : FileAt base w F) (hap : ∀ G ∈ S.fs, G.nm ≠ F'.nm → ∀ b, G.foot b → ¬ F.foot b) (t : Tch F.foot w w') (h' : FileAt base w' F') (hf : ∀ b, F'.foot b → F.foot b ∨ w.heap.size ≤ b) :
    w'.heap[d]? = some (.cells (drow S) 67 (0, 0)) ∧ w'.ownsRow base 34 3 S.pv (flen S.a.fall) (fcells S.a.fall) ∧ MapAt P base K w' S.mb S.fs ∧ FilesAt base w' (ins WF.nm F' S.fs) ∧ Dsk M base w w' := by
  refine ⟨(t.block d h.lt (hF.not_d h.row)).trans h.row, ownsRow_kept h.plan fun g hg => ?_, h.map.kept fun b hb => ?_, h.files.ins hap t h' hf, t.mono fun b hb => hF.mine hb⟩
  · obtain ⟨cur, hc⟩ := ownsRow_tag h.plan hg
    exact t.block g (block_lt hc) (hF.not_fall hc)
  · obtain ⟨_, es, cl, h2⟩ := h.map.kind hb
    exact t.block b (block_lt h2) (hF.not_map h2)
def WD.withF (S : WD) (fs : List WF) : WD := ⟨{ S.a with files := fs.map WF.a }, S.rm, S.mb, S.pv, fs⟩
theorem drow_withF (S : WD) (fs : List WF) : drow (S.withF fs) = drow S := rfl
/-- A file of the disk is another one now, of the same name and block. -/
theorem DiskAt.file (h : DiskAt P M base K d w S) {F F' : WF} (hF : F ∈ S.fs) (e : F'.nm = F.nm) (eb : F'.blk = F.blk) (t : Tch F.foot w w') (h' : FileAt base w' F') (hf : ∀ b, F'.foot b → F.foot b ∨ w.heap.size ≤ b) (hs : Small K F'.a) :
    DiskAt P M base K d w' (S.withF (ins WF.nm F' S.fs)) ∧ Dsk M base w w' := by
  obtain ⟨h1, h2, h3, h4, h5⟩ := h.turn (h.files.files F hF) (F' := F') (fun G hG hne b hb => h.files.apart G hG F hF (by rw [← e]; exact hne) b hb) t h' hf
  refine ⟨⟨h1, h.ge, h.rm, h2, ?_, h4, rfl, fun G hG => ?_, by show (ins WF.nm F' S.fs).length ≤ K; rw [length_ins_mem e h.files.rises hF]; exact h.count, h.chg, h.lim, h.own⟩, h5⟩
  · rcases h3 with ⟨hm, hn⟩ | ⟨b, n, hm, hb, hn, hown⟩
    · rw [hn] at hF; cases hF
    · refine .inr ⟨b, n, hm, hb, hn, ?_⟩
      show w'.ownsMap P 9 Rp b n (Dfs (ins WF.nm F' S.fs))
      rw [Dfs_ins e eb h.files.rises hF]
      exact hown
  · rcases (mem_ins_iff h.files.rises).1 hG with rfl | ⟨hG, _⟩
    · exact hs
    · exact h.small G hG
/-- Fields of the disk's struct are others now. -/
theorem DiskAt.reset {K' : Nat} (h : DiskAt P M base K d w S) {S' : WD} (hrow : w'.heap[d]? = some (.cells (drow S') 67 (0, 0))) (t : Tch (· = d) w w') (hfs : S'.fs = S.fs) (hmb : S'.mb = S.mb) (hpv : S'.pv = S.pv) (hfa : S'.a.fall = S.a.fall) (hfi : S'.a.files = S.a.files)
    (hrm : 0 ≤ S'.a.room → S'.rm = S'.a.room) (hch : S'.a.changes ≤ K') (hK : K ≤ K') (hl : K' ≤ 5000) : DiskAt P M base K' d w' S' ∧ Dsk M base w w' := by
  refine ⟨⟨hrow, h.ge, hrm, ?_, ?_, ?_, ?_, ?_, ?_, hch, hl, by rw [hmb, hpv]; exact h.own⟩, t.mono fun b e => e ▸ h.mine_d⟩
  · rw [hpv, hfa]
    refine ownsRow_kept h.plan fun g hg => ?_
    obtain ⟨cur, hc⟩ := ownsRow_tag h.plan hg
    refine t.block g (block_lt hc) fun e => ?_
    rw [e, h.row] at hc
    cases hc
  · rw [hmb, hfs]
    refine (h.map.mono hK).kept fun b hb => ?_
    obtain ⟨_, es, cl, h2⟩ := h.map.kind hb
    refine t.block b (block_lt h2) fun e => ?_
    rw [e, h.row] at h2
    cases h2
  · rw [hfs]
    exact h.files.touch t fun F hF b hb e => (h.files.files F hF).not_d h.row (e ▸ hb)
  · rw [hfs, hfi]; exact h.same
  · rw [hfs]; exact fun F hF => (h.small F hF).mono hK
  · rw [hfs]; exact Nat.le_trans h.count hK
/-- An entry of the map has gone. -/
theorem DiskAt.gone (h : DiskAt P M base K d w S) {b n : Nat} (hb : S.mb = some b) (hn : n ≤ K) (k : Bs) (hown : w'.ownsMap P 9 Rp b n ((Dfs S.fs).del (.string k))) (t : w.mapTurned w' b) : DiskAt P M base K d w' (S.withF (del WF.nm k S.fs)) ∧ Dsk M base w w' := by
  have tt : Tch (· = b) w w' := .turned t rfl
  obtain ⟨hbase, es, cl, hmb⟩ := h.map.kind hb
  refine ⟨⟨(tt.block d h.lt fun e => ?_).trans h.row, h.ge, h.rm, ownsRow_kept h.plan fun g hg => ?_, .inr ⟨b, n, hb, hbase, hn, ?_⟩, ?_, rfl, fun F hF => h.small F (mem_del.1 hF).1, Nat.le_trans (length_del _ _) h.count, h.chg, h.lim, h.own⟩, tt.mono fun c e => e ▸ h.mine_map hb⟩
  · have := h.row
    rw [e, hmb] at this
    cases this
  · obtain ⟨cur, hc⟩ := ownsRow_tag h.plan hg
    refine tt.block g (block_lt hc) fun e => ?_
    rw [e, hmb] at hc
    cases hc
  · rw [Dof_del] at hown
    exact hown
  · exact (h.files.touch tt fun F hF c hc e => (h.files.files F hF).not_map hmb (e ▸ hc)).del k
end Go.Dk
