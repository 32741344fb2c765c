/- Several texts in one: DiskAt, DiskNow, DiskPut. -/
import Derived.Test.YtoineobjmllicaaGreatDoorLeavesOne
import Derived.Maps.RangeWalk
import Derived.Deep.RegionLaw
import Derived.Deep.DrawnRows
import Derived.Deep.AppendLies
/- A disk as it lies in memory, and what the disk's functions leave alone; of no program but for the numbers of its types. -/
namespace Go.Dk
open Go.RowKit Go.Maps
variable {M : Nat → Prop}
theorem hide {p : Prop} (h : p) : Hid p := h
/-! ### what a disk's functions may turn -/
/-- The kinds of blocks that a disk has. -/
def dkind (M : Nat → Prop) (b : Nat) : Obj → Prop
  | .map _ _ => M b
  | .cells _ t _ => t = 67 ∨ (t = 34 ∧ M b) ∨ t = 118 ∨ t = 120 ∨ t = 5
  | _ => False
def Mine (M : Nat → Prop) (base : Nat) (w : World) (b : Nat) : Prop := base ≤ b ∧ ∃ o, w.heap[b]? = some o ∧ dkind M b o
abbrev Dsk (M : Nat → Prop) (base : Nat) (w w' : World) : Prop := Tch (Mine M base w) w w'
theorem Dsk.trans {base : Nat} {w w' w'' : World} (h : Dsk M base w w') (k : Dsk M base w' w'') : Dsk M base w w'' :=
  ⟨k.os.trans h.os, k.tape.trans h.tape, k.output.trans h.output, Nat.le_trans h.size k.size, fun b hb hx => by
    have e := h.block b hb hx
    refine (k.block b (Nat.lt_of_lt_of_le hb h.size) fun ⟨h1, o, h2, h3⟩ => hx ⟨h1, o, by rw [← e]; exact h2, h3⟩).trans e⟩
theorem Dsk.of_below {base : Nat} {w w' : World} (h : Below w.heap.size w w') : Dsk M base w w' := Tch.of_below h
theorem Dsk.below {base : Nat} {w w' : World} (h : Dsk M base w w') (hb : base ≤ w.heap.size) : Below base w w' := Tch.below h (fun _ x => x.1) hb
theorem Dsk.then {base : Nat} {X : Nat → Prop} {w w' w'' : World} (h : Dsk M base w w') (k : Tch X w' w'') (hX : ∀ b, X b → Mine M base w' b) : Dsk M base w w'' := h.trans (k.mono hX)
/-! ### files -/
def WF.nm (F : WF) : Bs := F.a.name
structure FilesAt (base : Nat) (w : World) (fs : List WF) : Prop where
  files : ∀ F ∈ fs, FileAt base w F
  rises : Rises WF.nm fs
  apart : ∀ F ∈ fs, ∀ G ∈ fs, F.nm ≠ G.nm → ∀ b, F.foot b → ¬ G.foot b
theorem FilesAt.nil (base : Nat) (w : World) : FilesAt base w [] := ⟨fun _ h => (List.not_mem_nil h).elim, List.Pairwise.nil, fun _ h => (List.not_mem_nil h).elim⟩
theorem FilesAt.touch {base : Nat} {X : Nat → Prop} {w w' : World} {fs : List WF} (h : FilesAt base w fs) (t : Tch X w w') (hX : ∀ F ∈ fs, ∀ b, F.foot b → ¬ X b) : FilesAt base w' fs :=
  ⟨fun F hF => (h.files F hF).touch t (hX F hF), h.rises, h.apart⟩
theorem FilesAt.below {base : Nat} {w w' : World} {fs : List WF} (h : FilesAt base w fs) (hb : Below w.heap.size w w') : FilesAt base w' fs :=
  h.touch (X := fun _ => False) (.of_below hb) fun _ _ _ _ x => x
theorem FilesAt.del {base : Nat} {w : World} {fs : List WF} (h : FilesAt base w fs) (k : Bs) : FilesAt base w (Dk.del WF.nm k fs) :=
  ⟨fun F hF => h.files F (mem_del.1 hF).1, h.rises.del, fun F hF G hG => h.apart F (mem_del.1 hF).1 G (mem_del.1 hG).1⟩
/-- A file, of the list or a new one, is another one now. -/
theorem FilesAt.ins {base : Nat} {w w' : World} {fs : List WF} (h : FilesAt base w fs) {F F' : WF} (hap : ∀ G ∈ fs, G.nm ≠ F'.nm → ∀ b, G.foot b → ¬ F.foot b) (t : Tch F.foot w w') (h' : FileAt base w' F')
    (hf : ∀ b, F'.foot b → F.foot b ∨ w.heap.size ≤ b) : FilesAt base w' (Dk.ins WF.nm F' fs) := by
  have key : ∀ G ∈ fs, G.nm ≠ F'.nm → FileAt base w' G ∧ ∀ b, G.foot b → ¬ F'.foot b := fun G hG hne =>
    ⟨(h.files G hG).touch t (hap G hG hne), fun b hb hb' => (hf b hb').elim (hap G hG hne b hb) fun hx => Nat.lt_irrefl _ (Nat.lt_of_lt_of_le ((h.files G hG).foot_lt hb) hx)⟩
  refine ⟨fun G hG => ?_, h.rises.ins, fun G hG H hH hne b hb => ?_⟩
  · rcases (mem_ins_iff h.rises).1 hG with rfl | ⟨hG, hne⟩
    · exact h'
    · exact (key G hG hne).1
  · rcases (mem_ins_iff h.rises).1 hG with eG | ⟨mG, hne1⟩
    · subst eG
      rcases (mem_ins_iff h.rises).1 hH with eH | ⟨mH, hne2⟩
      · exact absurd (by rw [eH]) hne
      · exact fun hb' => (key H mH hne2).2 b hb' hb
    · rcases (mem_ins_iff h.rises).1 hH with eH | ⟨mH, hne2⟩
      · rw [eH]
        exact (key G mG hne1).2 b hb
      · exact h.apart G mG H mH hne b hb
/-! ### the map -/
/-- How an element of the files' map reads: as the number of the file's block. -/
def Rp (v : Value) : Option (DataW Unit × List MemPlace) :=
  match v with
  | .pointer (some ⟨b, 0, none⟩) => some (.lit (.int .i64 b), [])
  | _ => none
def fptr (b : Nat) : Value := .pointer (some ⟨b, 0, none⟩)
theorem Rp_mk (b : Nat) : Rp (fptr b) = some (.lit (.int .i64 b), []) := rfl
theorem Rp_inv {v : Value} {y : DataW Unit × List MemPlace} (h : Rp v = some y) : ∃ b, v = fptr b ∧ y = (.lit (.int .i64 b), []) := by
  unfold Rp at h
  split at h
  · exact ⟨_, rfl, (Option.some.inj h).symm⟩
  · cases h
abbrev Dfs (fs : List WF) : DataW Unit := Dof WF.nm WF.blk fs
def MapAt (P : Program) (base K : Nat) (w : World) (mb : Option Nat) (fs : List WF) : Prop :=
  (mb = none ∧ fs = []) ∨ ∃ b n, mb = some b ∧ base ≤ b ∧ n ≤ K ∧ w.ownsMap P 9 Rp b n (Dfs fs)
theorem MapAt.kept {P : Program} {base K : Nat} {w w' : World} {mb : Option Nat} {fs : List WF} (h : MapAt P base K w mb fs) (hb : ∀ b, mb = some b → w'.heap[b]? = w.heap[b]?) : MapAt P base K w' mb fs := by
  rcases h with h | ⟨b, n, h1, h2, h3, es, cl, h4, h5⟩
  · exact .inl h
  · exact .inr ⟨b, n, h1, h2, h3, es, cl, (hb b h1).trans h4, h5⟩
theorem MapAt.mono {P : Program} {base K K' : Nat} {w : World} {mb : Option Nat} {fs : List WF} (h : MapAt P base K w mb fs) (hK : K ≤ K') : MapAt P base K' w mb fs := by
  rcases h with h | ⟨b, n, h1, h2, h3, h4⟩
  · exact .inl h
  · exact .inr ⟨b, n, h1, h2, Nat.le_trans h3 hK, h4⟩
theorem MapAt.kind {P : Program} {base K : Nat} {w : World} {mb : Option Nat} {fs : List WF} (h : MapAt P base K w mb fs) {b : Nat} (hb : mb = some b) : base ≤ b ∧ ∃ es cl, w.heap[b]? = some (.map es cl) := by
  rcases h with ⟨h, _⟩ | ⟨b', n, h1, h2, h3, es, cl, h4, h5⟩
  · rw [h] at hb; cases hb
  · rw [h1] at hb
    cases hb
    exact ⟨h2, es, cl, h4⟩
/-- m[name]. -/
theorem MapAt.look {P : Program} {base K T E : Nat} {w : World} {mb : Option Nat} {fs : List WF} (h : MapAt P base K w mb fs) (h9 : P.underlying 9 = some .string) (hT : P.underlying T = some (.map 9 E)) (hz : (zeroValue E).run P w = .ok (.pointer none) w)
    (s : ByteArray) (hs : s.size ≤ maxLen) :
    (Instr.lookup T (.map mb) (.string s) false).run P w = .ok (match seek WF.nm s.data.toList fs with | some F => fptr F.blk | none => .pointer none) w := by
  have hkey := WideMaps.keyOf_string_mk h9 hs
  rcases h with ⟨rfl, rfl⟩ | ⟨b, n, rfl, -, -, es, cl, hb, F, -, hD⟩
  · exact Maps.look_nil false (string_keyed h9) hT hz hkey
  · have hat := fun z => Dof_at (nm := WF.nm) (bk := WF.blk) s.data.toList fs z
    have hhas := Dof_has (nm := WF.nm) (bk := WF.blk) s.data.toList fs
    rcases Maps.fit_look false (string_keyed h9) hT hz hb F hkey with ⟨hrun, h0, h1⟩ | ⟨e0, y, h0, h00, hrun, hRv, h1, h2⟩
    · rw [hrun]
      have e1 := h1 .nil
      rw [← hD, hat] at e1
      cases hx : seek WF.nm s.data.toList fs with
      | none => rfl
      | some G => rw [hx] at e1; cases e1
    · rw [hrun]
      obtain ⟨c, hc, rfl⟩ := Rp_inv hRv
      have e1 := h1 .nil
      rw [← hD, hat] at e1
      cases hx : seek WF.nm s.data.toList fs with
      | none => rw [hx] at e1; cases e1
      | some G =>
        rw [hx] at e1
        simp only [DataW.lit.injEq, Lit.int.injEq, true_and] at e1
        have : G.blk = c := by omega
        subst this
        show Result.ok e0.val w = _
        rw [hc]
/-! ### the disk -/
structure WD where
  a : A
  rm : Int
  mb : Option Nat
  pv : Value
  fs : List WF
def fcells : Option Fall → List Value
  | none => []
  | some f => [.int .i64 f.on, .int .i64 f.keep, .int .i64 f.torn]
def flen : Option Fall → Nat
  | none => 0
  | some _ => 1
def drow (S : WD) : Array Value := Go.Proofs.YtoineobjmllicaaGreatDoor.dcells S.mb S.pv S.a.changes (decide (0 ≤ S.a.room)) S.rm S.a.down
structure Small (K : Nat) (f : AF) : Prop where
  puts : f.puts.length ≤ K
  lens : ∀ i, (f.after i).length ≤ 2000 * K
  name : nameOk f.name = true
structure DiskAt (P : Program) (M : Nat → Prop) (base K d : Nat) (w : World) (S : WD) : Prop where
  row : w.heap[d]? = some (.cells (drow S) 67 (0, 0))
  ge : base ≤ d
  rm : 0 ≤ S.a.room → S.rm = S.a.room
  plan : w.ownsRow base 34 3 S.pv (flen S.a.fall) (fcells S.a.fall)
  map : MapAt P base K w S.mb S.fs
  files : FilesAt base w S.fs
  same : S.fs.map WF.a = S.a.files
  small : ∀ F ∈ S.fs, Small K F.a
  count : S.fs.length ≤ K
  chg : S.a.changes ≤ K
  lim : K ≤ 5000
  own : ∀ b, S.mb = some b ∨ S.pv.ownBlock = some b → M b
variable {P : Program} {base K d : Nat} {w w' : World} {S : WD}
theorem Small.mono {K K' : Nat} {f : AF} (h : Small K f) (hK : K ≤ K') : Small K' f := ⟨Nat.le_trans h.puts hK, fun i => Nat.le_trans (h.lens i) (Nat.mul_le_mul_left _ hK), h.name⟩
theorem DiskAt.mono {K' : Nat} (h : DiskAt P M base K d w S) (hK : K ≤ K') (hl : K' ≤ 5000) : DiskAt P M base K' d w S :=
  ⟨h.row, h.ge, h.rm, h.plan, h.map.mono hK, h.files, h.same, fun F hF => (h.small F hF).mono hK, Nat.le_trans h.count hK, Nat.le_trans h.chg hK, hl, h.own⟩
theorem DiskAt.lt (h : DiskAt P M base K d w S) : d < w.heap.size := block_lt h.row
theorem DiskAt.mine_d (h : DiskAt P M base K d w S) : Mine M base w d := ⟨h.ge, _, h.row, .inl rfl⟩
theorem DiskAt.mine_map (h : DiskAt P M base K d w S) {b : Nat} (hb : S.mb = some b) : Mine M base w b := by
  obtain ⟨h1, es, cl, h2⟩ := h.map.kind hb
  exact ⟨h1, _, h2, h.own b (.inl hb)⟩
theorem DiskAt.mine_plan (h : DiskAt P M base K d w S) {b : Nat} (hb : S.pv.ownBlock = some b) : Mine M base w b := by
  obtain ⟨cur, hc⟩ := ownsRow_tag h.plan hb
  exact ⟨ownsRow_ge h.plan hb, _, hc, .inr (.inl ⟨rfl, h.own b (.inr hb)⟩)⟩
theorem FileAt.mine {F : WF} (h : FileAt base w F) {b : Nat} (hb : F.foot b) : Mine M base w b := by
  obtain ⟨cs, t, h1, h2⟩ := h.foot_kind hb
  exact ⟨h.foot_ge hb, _, h1, by rcases h2 with rfl | rfl | rfl <;> simp [dkind]⟩
theorem FileAt.not_d {F : WF} {cs : Array Value} {b : Nat} (h : FileAt base w F) (hd : w.heap[b]? = some (.cells cs 67 (0, 0))) : ¬ F.foot b := fun hb => by
  obtain ⟨cs', t, h1, h2⟩ := h.foot_kind hb
  rw [hd] at h1
  cases h1
  rcases h2 with h2 | h2 | h2 <;> cases h2
theorem FileAt.not_fall {F : WF} {cs : Array Value} {b : Nat} (h : FileAt base w F) (hd : w.heap[b]? = some (.cells cs 34 (0, 0))) : ¬ F.foot b := fun hb => by
  obtain ⟨cs', t, h1, h2⟩ := h.foot_kind hb
  rw [hd] at h1
  cases h1
  rcases h2 with h2 | h2 | h2 <;> cases h2
theorem FileAt.not_map {F : WF} {es : Array MapEntry} {cl b : Nat} (h : FileAt base w F) (hd : w.heap[b]? = some (.map es cl)) : ¬ F.foot b := fun hb => by
  obtain ⟨cs', t, h1, h2⟩ := h.foot_kind hb
  rw [hd] at h1
  cases h1
/-- Nothing that was there has turned. -/
theorem DiskAt.below (h : DiskAt P M base K d w S) (hb : Below w.heap.size w w') : DiskAt P M base K d w' S :=
  ⟨(hb.block d h.lt).trans h.row, h.ge, h.rm, ownsRow_kept h.plan fun g hg => hb.block g (by obtain ⟨cur, hc⟩ := ownsRow_tag h.plan hg; exact block_lt hc),
    h.map.kept fun b e => hb.block b (by obtain ⟨_, es, cl, h2⟩ := h.map.kind e; exact block_lt h2), h.files.below hb, h.same, h.small, h.count, h.chg, h.lim, h.own⟩
/-- Only blocks of no disk's kind have turned. -/
theorem DiskAt.other {X : Nat → Prop} (h : DiskAt P M base K d w S) (t : Tch X w w') (hX : ∀ b, X b → ¬ Mine M base w b) : DiskAt P M base K d w' S :=
  ⟨(t.block d h.lt fun x => hX d x h.mine_d).trans h.row, h.ge, h.rm, ownsRow_kept h.plan fun g hg => t.block g (by obtain ⟨cur, hc⟩ := ownsRow_tag h.plan hg; exact block_lt hc) fun x => hX g x (h.mine_plan hg),
    h.map.kept fun b e => t.block b (by obtain ⟨_, es, cl, h2⟩ := h.map.kind e; exact block_lt h2) fun x => hX b x (h.mine_map e), h.files.touch t fun F hF b hb x => hX b x ((h.files.files F hF).mine hb), h.same, h.small, h.count, h.chg, h.lim, h.own⟩
def ableOf (a : A) (s : Bs) : Int := if a.down = true then 7 else if nameOk s = true then 0 else 60
/-- Bytes of all files. -/
def total (l : List AF) : Nat := (l.map fun f => f.bytes.length).sum
def looseOf (l : List AF) : Nat := (l.map fun f => f.puts.length).sum
theorem Small.bytes {f : AF} (h : Small K f) : f.bytes.length ≤ 2000 * K := by rw [← AF.after_all]; exact h.lens _
theorem DiskAt.pieces (h : DiskAt P M base K d w S) {F : WF} (hF : F ∈ S.fs) : F.cs.length ≤ 1000000 ∧ (∀ c ∈ F.cs, c.all.length ≤ 1000000000) ∧ F.a.bytes.length ≤ 10000000 := by
  have hs := h.small F hF
  have hl := h.lim
  have hst := (h.files.files F hF).story
  refine ⟨by rw [hst.length]; have := hs.puts; omega, fun c hc => ?_, by have := hs.bytes; omega⟩
  obtain ⟨i, hi⟩ := List.getElem?_of_mem hc
  obtain ⟨p, hp, ha, _⟩ := hst.get hi
  have hpl : i < F.a.puts.length := (List.getElem?_eq_some_iff.1 hp).1
  have := hs.lens (i + 1)
  unfold AF.after at this
  rw [List.take_succ_eq_append_getElem hpl, List.foldl_append] at this
  rw [List.getElem?_eq_getElem hpl] at hp
  rw [Option.some.inj hp] at this
  rw [ha]
  show (app _ p).length ≤ _
  simp only [List.foldl_cons, List.foldl_nil] at this
  omega
end Go.Dk
/- Contracts of a file's functions: its bytes now, a settling, what is torn. -/
namespace Go.Dk
open Go.RowKit
theorem flat_at : ∀ (cs : List Pc) (i : Nat) (c : Pc), cs[i]? = some c → (cs.flatMap Pc.cells)[2 * i]? = some c.v ∧ (cs.flatMap Pc.cells)[2 * i + 1]? = some (.int .i64 c.frm)
  | [], _, _, h => by simp at h
  | d :: cs, 0, c, h => by
    simp only [List.getElem?_cons_zero, Option.some.injEq] at h
    subst h
    exact ⟨rfl, rfl⟩
  | d :: cs, i + 1, c, h => by
    simp only [List.getElem?_cons_succ] at h
    obtain ⟨h1, h2⟩ := flat_at cs i c h
    rw [List.flatMap_cons]
    refine ⟨?_, ?_⟩
    · rw [List.getElem?_append_right (by simp [Pc.cells]; omega)]
      rw [← h1]
      congr 1
    · rw [List.getElem?_append_right (by simp [Pc.cells]; omega)]
      rw [← h2]
      congr 1
/-- A piece's two cells. -/
theorem FileAt.piece {base : Nat} {w : World} {F : WF} (h : FileAt base w F) {i : Nat} {c : Pc} (hc : F.cs[i]? = some c) :
    ∃ g cap, F.lv = .slice (some ⟨g, 0, none⟩) F.cs.length cap ∧ F.cs.length ≤ cap ∧ w.cell? ⟨g, i * 2, none⟩ = some c.v ∧ w.cell? ⟨g, i * 2 + 1, none⟩ = some (.int .i64 c.frm) ∧ g < w.heap.size := by
  have hi : i < F.cs.length := (List.getElem?_eq_some_iff.1 hc).1
  rcases h.loose.2 with ⟨_, h0⟩ | ⟨g, cap, cur, h1, h2, h3, h4, h5, h6, h7⟩
  · omega
  · obtain ⟨e1, e2⟩ := flat_at F.cs i c hc
    rw [← h7] at e1 e2
    refine ⟨g, cap, h1, h4, ?_, ?_, block_lt h3⟩
    · rw [cell_of_row _ _ _ _ _ _ h3, ← Array.getElem?_toList]
      rw [List.getElem?_take_of_lt (by omega)] at e1
      rw [← e1]
      congr 1
      omega
    · rw [cell_of_row _ _ _ _ _ _ h3, ← Array.getElem?_toList]
      rw [List.getElem?_take_of_lt (by omega)] at e2
      rw [← e2]
      congr 1
      omega
end Go.Dk
namespace Go.Proofs.YtoineobjmllicaaGreatDoor
open Go.RowKit Go.Dk
set_option maxHeartbeats 400000 in
theorem now_any (base : Nat) (F : WF) (w : World) (h : FileAt base w F) (hn : F.cs.length ≤ 1000000) :
    Calls Tryz.prog 63 #[.pointer (some ⟨F.blk, 0, none⟩)] w fun e w' => e = .returned F.nowV ∧ w' = w := by
  obtain ⟨c0, c1, c2, -⟩ := cells3 h.row
  unfold WF.nowV
  cases hl : F.cs.getLast? with
  | none =>
    have hz : F.cs = [] := by simpa using hl
    have hv : ∃ a c, F.lv = .slice a 0 c := by
      have := h.loose
      rw [hz] at this
      rcases this.2 with ⟨e, _⟩ | ⟨g, cap, cur, e, _⟩
      · exact ⟨_, _, e⟩
      · exact ⟨_, _, e⟩
    obtain ⟨a, c, hv⟩ := hv
    rw [hv] at c2
    simp only
    clear h
    go_enter Tryz.func63, Tryz.ntmps63
    go_wp2
    go_ret
    exact ⟨rfl, rfl⟩
  | some c =>
    simp only
    rw [List.getLast?_eq_getElem?] at hl
    have hpos : F.cs.length - 1 < F.cs.length := (List.getElem?_eq_some_iff.1 hl).1
    obtain ⟨g, cap, hv, hcap, hc, -, -⟩ := h.piece hl
    rw [hv] at c2
    generalize F.cs.length = n at *
    obtain ⟨k, rfl⟩ : ∃ k, n = k + 1 := ⟨n - 1, by omega⟩
    simp only [Nat.add_sub_cancel] at hc
    clear h hl
    go_enter Tryz.func63, Tryz.ntmps63
    go_wp2
    go_ret
    exact ⟨rfl, rfl⟩
set_option maxHeartbeats 400000 in
theorem settle_any (b : Nat) (s v l : Value) (x : Value) (w : World) (h : w.heap[b]? = some (.cells #[s, v, l] 118 (0, 0))) (hx : ∃ a n c, x = .slice a n c) :
    Calls Tryz.prog 62 #[.pointer (some ⟨b, 0, none⟩), x] w fun e w' => e = .returned (.tuple #[]) ∧ w'.heap[b]? = some (.cells #[.bool true, x, .slice none 0 0] 118 (0, 0)) ∧ Tch (· = b) w w' ∧ w'.heap.size = w.heap.size := by
  obtain ⟨a, n, c, rfl⟩ := hx
  obtain ⟨c0, c1, c2, fz⟩ := cells3 h
  have f0 := fz 0
  have f1 := fz 1
  have f2 := fz 2
  clear fz
  go_enter Tryz.func62, Tryz.ntmps62
  go_wp2
  go_end0
  have h1 : (w.setCell ⟨b, 0, none⟩ (.bool true)).heap[b]? = some (.cells #[.bool true, v, l] 118 (0, 0)) := by rw [heap_setCell_same _ _ _ _ _ _ h]; rfl
  have h2 : ((w.setCell ⟨b, 0, none⟩ (.bool true)).setCell ⟨b, 1, none⟩ (.slice a n c)).heap[b]? = some (.cells #[.bool true, .slice a n c, l] 118 (0, 0)) := by rw [heap_setCell_same _ _ _ _ _ _ h1]; rfl
  exact ⟨rfl, by rw [heap_setCell_same _ _ _ _ _ _ h2]; rfl, ((Tch.set (· = b) w _ _ rfl).and (.set (· = b) _ _ _ rfl)).and (.set (· = b) _ _ _ rfl), by simp⟩
set_option maxHeartbeats 400000 in
theorem torn_all (a : Option Addr) (n c f : Nat) (t : Int) (w : World) (hf : f ≤ n) (hn : n ≤ 1000000000) (ht : ((n - f : Nat) : Int) / 8 < t) :
    Calls Tryz.prog 79 #[.agg #[.slice a n c, .int .i64 f], .int .i64 t] w fun e w' => e = .returned (.slice a n c) ∧ Below w.heap.size w w' := by
  have hq : ((n : Int) - f).tdiv 8 = ((n - f : Nat) : Int) / 8 := by
    rw [Int.tdiv_eq_ediv_of_nonneg (by omega)]
    congr 1
    omega
  have hlt : decide ((((n - f : Nat) : Int) / 8) < t) = true := decide_eq_true ht
  go_enter Tryz.func79, Tryz.ntmps79
  go_wp2
  go_ret
  exact ⟨rfl, (Below.refl _ _).alloc (Nat.le_refl _) _⟩
set_option maxHeartbeats 400000 in
theorem torn_some (g n c f : Nat) (t : Int) (w : World) (hf : f ≤ n) (hn : n ≤ 1000000000) (hc : n ≤ c) (ht0 : 0 < t) (ht : ¬ ((n - f : Nat) : Int) / 8 < t) :
    Calls Tryz.prog 79 #[.agg #[.slice (some ⟨g, 0, none⟩) n c, .int .i64 f], .int .i64 t] w fun e w' => e = .returned (.slice (some ⟨g, 0, none⟩) (f + 8 * t.toNat) c) ∧ Below w.heap.size w w' := by
  have hq : ((n : Int) - f).tdiv 8 = ((n - f : Nat) : Int) / 8 := by
    rw [Int.tdiv_eq_ediv_of_nonneg (by omega)]
    congr 1
    omega
  have hlt : decide ((((n - f : Nat) : Int) / 8) < t) = false := decide_eq_false ht
  obtain ⟨k, rfl⟩ : ∃ k : Nat, t = k := ⟨t.toNat, by omega⟩
  have hk : f + 8 * k ≤ n := by omega
  go_enter Tryz.func79, Tryz.ntmps79
  go_wp2
  go_ret
  refine ⟨?_, (Below.refl _ _).alloc (Nat.le_refl _) _⟩
  simp
  omega
end Go.Proofs.YtoineobjmllicaaGreatDoor
/- Contract of what puts bytes into a file. -/
namespace Go.Dk
/-- What a put leaves of a file. -/
def PutTo (base : Nat) (w w' : World) (F : WF) (p : Pt) : Prop := ∃ F' : WF, F'.a = F.a.put p ∧ F'.blk = F.blk ∧ FileAt base w' F' ∧ Tch F.foot w w' ∧ ∀ b, F'.foot b → F.foot b ∨ w.heap.size ≤ b
end Go.Dk
namespace Go.Proofs.YtoineobjmllicaaGreatDoor
open Go.RowKit Go.Dk
theorem infoB : (Tryz.prog.info? 5).map (fun i => (i.zero, i.size, i.bytes)) = some (some (.int .u8 0), 1, 1) := by kernel_rfl
theorem infoP : (Tryz.prog.info? 120).map (fun i => (i.zero, i.size, i.bytes)) = some (some (.agg #[.slice none 0 0, .int .i64 0]), 2, 32) := by kernel_rfl
attribute [local go_sem ↓] Go.wp_at_zero Go.wp_at_succ
set_option maxHeartbeats 2000000 in
theorem fput_any (base : Nat) (F : WF) (w : World) (h : FileAt base w F) (hbase : base ≤ w.heap.size) (whole : Bool) (stay : Value) (hstay : (whole = true ∧ stay = .slice none 0 0) ∨ (whole = false ∧ stay = F.nowV)) (s : ByteArray)
    (hn : F.cs.length ≤ 1000000) (hl : F.a.bytes.length + s.size ≤ 1000000000) :
    Calls Tryz.prog 89 #[.pointer (some ⟨F.blk, 0, none⟩), stay, .string s] w fun e w' => e = .returned (.tuple #[]) ∧ PutTo base w w' F ⟨s.data.toList, whole⟩ := by
  obtain ⟨i0, hi, hz0, hz1, hz2⟩ := info_parts infoB
  obtain ⟨i1, hj, hy0, hy1, hy2⟩ := info_parts infoP
  have hrow : Row base w stay (if whole = true then [] else F.a.bytes) := by
    rcases hstay with ⟨rfl, rfl⟩ | ⟨rfl, rfl⟩
    · exact Row.nil _ _
    · exact h.now
  have hfin : ∀ (v lv : Value) (w1 w2 w' : World), Row base w1 v ((if whole = true then [] else F.a.bytes) ++ s.data.toList) → w.grownBy w1 stay.ownBlock → (v.ownBlock = stay.ownBlock ∨ v.ownBlock = none ∨ v.ownBlock = some w.heap.size) →
      (∀ u l, Row base w u l → u.ownBlock = stay.ownBlock → l.length ≤ (if whole = true then [] else F.a.bytes).length → Row base w1 u l) → Tch (fun _ => False) w1 w2 → Tch (fun b => F.lv.ownBlock = some b ∨ b = F.blk) w2 w' →
      w'.ownsRow base 120 2 lv (F.cs.length + 1) (F.cs.flatMap Pc.cells ++ [v, .int .i64 (((if whole = true then [] else F.a.bytes).length : Nat) : Int)]) → (lv.ownBlock = F.lv.ownBlock ∨ ∃ g, lv.ownBlock = some g ∧ w.heap.size ≤ g) →
      w'.heap[F.blk]? = some (.cells #[.bool F.a.settled, F.sv, lv] 118 (0, 0)) → PutTo base w w' F ⟨s.data.toList, whole⟩ := by
    intro v lv w1 w2 w' hv g1 l1 k1 t12 t2 hl l2 hr
    have e1 : (if whole = true then [] else F.a.bytes) ++ s.data.toList = app F.a.bytes ⟨s.data.toList, whole⟩ := by cases whole <;> rfl
    have e2 : (if whole = true then [] else F.a.bytes).length = if whole = true then 0 else F.a.bytes.length := by cases whole <;> rfl
    rw [e1] at hv
    rw [e2] at hl
    exact h.put ⟨s.data.toList, whole⟩ stay hstay v lv hv g1 (l1.imp id (Or.imp id fun e => ⟨_, e, Nat.le_refl _⟩)) (fun u l hu e hl => k1 u l hu e (by rw [e2]; exact hl)) t12 t2 hl l2 hr
  have hlen : (if whole = true then [] else F.a.bytes).length + s.size ≤ 1000000000 := by cases whole <;> simp_all; omega
  obtain ⟨c0, c1, c2, fz⟩ := cells3 h.row
  have f2 := fz 2
  have HF : Hid (w.heap[F.blk]? = some (.cells #[.bool F.a.settled, F.sv, F.lv] 118 (0, 0))) := h.row
  have HL : Hid (w.ownsRow base 120 2 F.lv F.cs.length (F.cs.flatMap Pc.cells)) := h.loose
  have HB : Hid (∀ g, stay.ownBlock = some g → g ≠ F.blk ∧ F.lv.ownBlock ≠ some g) := by
    intro g hg
    obtain ⟨cur, hc⟩ := ownsRow_tag hrow hg
    refine ⟨fun e => ?_, fun e => ?_⟩
    · rw [e, h.row] at hc; cases hc
    · obtain ⟨cur', hc'⟩ := ownsRow_tag h.loose e
      rw [hc] at hc'; cases hc'
  have HLB : Hid (F.lv.ownBlock ≠ some F.blk) := fun e => by
    obtain ⟨cur', hc'⟩ := ownsRow_tag h.loose e
    rw [h.row] at hc'; cases hc'
  have hfb : F.blk < w.heap.size := block_lt h.row
  obtain ⟨L, hL⟩ : ∃ L, (if whole = true then [] else F.a.bytes) = L := ⟨_, rfl⟩
  rw [hL] at hrow hfin hlen
  have HFin := (show Hid _ from hfin)
  have HR : Hid (Row base w stay L) := hrow
  clear hfin hrow hL fz hstay h hl c0 c1
  obtain ⟨a0, k0, hst⟩ := HR.out.form
  obtain ⟨lv, hlv⟩ : ∃ lv, F.lv = lv := ⟨_, rfl⟩
  rw [hlv] at c2 HF HL HB HLB HFin
  subst hst
  generalize F.a.settled = st at *
  generalize F.sv = sv at *
  generalize F.cs.flatMap Pc.cells = xs at *
  generalize F.cs.length = m at *
  generalize F.blk = B at *
  obtain ⟨N, hN⟩ : ∃ N, (L ++ s.data.toList).length = N := ⟨_, rfl⟩
  have HN := (show Hid _ from hN)
  clear hN
  have HX : Hid (∀ w1 : World, w.grownBy w1 (Value.slice a0 L.length k0).ownBlock → w1.cell? ⟨B, 2, none⟩ = some lv ∧ (∀ o, (w1.alloc o).ownsRow base 120 2 lv m xs) ∧ w.heap.size ≤ w1.heap.size) := fun w1 g1 =>
    ⟨g1.cell (a := ⟨B, 2, none⟩) c2 (fun e => (HB.out B e.symm).1 rfl), fun o => (ownsRow_kept HL.out (fun g hg => g1.block g (by obtain ⟨cur, hc⟩ := ownsRow_tag HL.out hg; exact block_lt hc) (fun e => (HB.out g e.symm).2 hg))).alloc o, g1.size⟩
  have HY : Hid (∀ (w1 : World) (o : Obj) (w2 : World), w.grownBy w1 (Value.slice a0 L.length k0).ownBlock → (w1.alloc o).grownBy w2 lv.ownBlock → w2.heap[B]? = some (.cells #[.bool st, sv, lv] 118 (0, 0))) := fun w1 o w2 g1 g2 => by
    have e1 := g1.block B hfb (fun e => (HB.out B e.symm).1 rfl)
    have e2 := heap_alloc_old w1 o (Nat.lt_of_lt_of_le hfb g1.size)
    rw [g2.block B (by simp; have := g1.size; omega) (fun e => HLB.out e.symm), e2, e1]
    exact HF.out
  go_enter Tryz.func89, Tryz.ntmps89
  go_region_law
    (first
      | (refine step_append_str _ (by rfl) _ _ 100 9 (by rfl) i0 Tryz.underlying100 Tryz.underlying9 hi hz0 hz1 hz2 base _ L (by rfl) HR.out s (by rfl) (by omega) hbase ?_
         intro v1 w1 r1 g1 l1 k1
         obtain ⟨a1, k9, hv1⟩ := r1.form
         rw [HN.out] at hv1
         subst hv1
         have g1' : w.grownBy w1 (Value.slice a0 L.length k0).ownBlock := ⟨g1.os, g1.tape, g1.output, g1.size, g1.block⟩
         obtain ⟨c21, HL1, hsz1⟩ := HX.out w1 g1'
         have c2a : ∀ o, (w1.alloc o).cell? ⟨B, 2, none⟩ = some lv := fun o => (((Below.refl _ w1).alloc (Nat.le_refl _) o).cell (p := ⟨B, 2, none⟩) (Nat.lt_of_lt_of_le hfb hsz1)).trans c21
         have HG := (show Hid _ from And.intro r1 (And.intro g1' (And.intro l1 k1)))
         clear r1 g1 g1' l1 k1)
      | (refine step_append_lies _ (by rfl) _ _ 116 (by rfl) base 120 i1 (.agg #[.slice none 0 0, .int .i64 0]) 2 32 Tryz.underlying116 hj hy0 hy1 hy2 rfl (by decide) lv m xs (by rfl) (HL1 _) ⟨w1.heap.size, 0, none⟩ 1 1 [.slice a1 N k9, .int .i64 L.length] (by rfl) (by rfl) (World.news_of_block (heap_alloc_new w1 _)) (by simp [Value.oneCell']) (by decide) (by unfold maxLen; omega) (by omega) (by simp; omega) _ rfl ?_
         intro g cap w2 hown2 hgrow2 hat2 hlt2
         have h2B := (show Hid _ from HY.out w1 _ w2 HG.out.2.1 hgrow2)
         have c22 := (cells3 h2B.out).2.2.1
         have f22 := (cells3 h2B.out).2.2.2 2
         have HG2 := (show Hid _ from And.intro hown2 (And.intro hgrow2 hat2))
         clear hown2 hgrow2 hat2 HL1))
  all_goals
    go_end0
    have hgB : g ≠ B := fun e => by
      obtain ⟨cur, hc⟩ := ownsRow_tag HG2.out.1 (g := g) rfl
      have h2 := h2B.out
      rw [← e, hc] at h2
      cases h2
    refine ⟨rfl, HFin.out _ (.slice (some ⟨g, 0, none⟩) (m + 1) cap) w1 _ _ HG.out.1 HG.out.2.1 HG.out.2.2.1 HG.out.2.2.2 (.alloc _ _ _) ((Tch.of_grown HG2.out.2.1 (fun b e => .inl e)).and (.set _ _ _ _ (.inr rfl))) (ownsRow_kept HG2.out.1 fun g' e => ?_) (HG2.out.2.2.imp (fun e => e.symm) fun e => ⟨g, rfl, ?_⟩) ?_⟩
    · cases e
      exact Deep.blk_setCell_other _ _ _ _ hgB
    · rw [e]
      simp
      omega
    · rw [heap_setCell_same _ _ _ _ _ _ h2B.out]
      rfl
end Go.Proofs.YtoineobjmllicaaGreatDoor
