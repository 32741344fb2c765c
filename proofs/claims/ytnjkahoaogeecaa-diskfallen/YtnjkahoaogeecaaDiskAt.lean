/- A disk as it lies in memory, and what the disk's functions leave alone; of no program but for the numbers of its types. -/
import Derived.Test.YtnjkahoaogeecaaDiskLeaves
import Derived.Maps.RangeWalk
namespace Go.Dk
open Go.RowKit Go.Maps
theorem hide {p : Prop} (h : p) : Hid p := h
/-! ### what a disk's functions may turn -/
/-- The kinds of blocks that a disk has. -/
def dkind : Obj → Prop
  | .map _ _ => True
  | .cells _ t _ => t = 74 ∨ t = 34 ∨ t = 82 ∨ t = 101 ∨ t = 5
  | _ => False
def Mine (base : Nat) (w : World) (b : Nat) : Prop := base ≤ b ∧ ∃ o, w.heap[b]? = some o ∧ dkind o
abbrev Dsk (base : Nat) (w w' : World) : Prop := Tch (Mine base w) w w'
theorem Dsk.trans {base : Nat} {w w' w'' : World} (h : Dsk base w w') (k : Dsk base w' w'') : Dsk base w w'' :=
  ⟨k.os.trans h.os, k.tape.trans h.tape, k.output.trans h.output, Nat.le_trans h.size k.size, fun b hb hx => by
    have e := h.block b hb hx
    refine (k.block b (Nat.lt_of_lt_of_le hb h.size) fun ⟨h1, o, h2, h3⟩ => hx ⟨h1, o, by rw [← e]; exact h2, h3⟩).trans e⟩
theorem Dsk.of_below {base : Nat} {w w' : World} (h : Below w.heap.size w w') : Dsk base w w' := Tch.of_below h
theorem Dsk.below {base : Nat} {w w' : World} (h : Dsk base w w') (hb : base ≤ w.heap.size) : Below base w w' := Tch.below h (fun _ x => x.1) hb
theorem Dsk.then {base : Nat} {X : Nat → Prop} {w w' w'' : World} (h : Dsk base w w') (k : Tch X w' w'') (hX : ∀ b, X b → Mine base w' b) : Dsk base w w'' := h.trans (k.mono hX)
/-! ### files -/
def WF.nm (F : WF) : Bs := F.a.name
structure FilesAt (base : Nat) (w : World) (fs : List WF) : Prop where
  files : ∀ F ∈ fs, FileAt base w F
  rises : Rises WF.nm fs
  apart : ∀ F ∈ fs, ∀ G ∈ fs, F.nm ≠ G.nm → ∀ b, F.foot b → ¬ G.foot b
theorem FilesAt.nil (base : Nat) (w : World) : FilesAt base w [] := ⟨fun _ h => (List.not_mem_nil h).elim, List.Pairwise.nil, fun _ h => (List.not_mem_nil h).elim⟩
theorem FilesAt.touch {base : Nat} {X : Nat → Prop} {w w' : World} {fs : List WF} (h : FilesAt base w fs) (t : Tch X w w') (hX : ∀ F ∈ fs, ∀ b, F.foot b → ¬ X b) : FilesAt base w' fs :=
  ⟨fun F hF => (h.files F hF).touch t (hX F hF), h.rises, h.apart⟩
theorem FilesAt.below {base : Nat} {w w' : World} {fs : List WF} (h : FilesAt base w fs) (hb : Below w.heap.size w w') : FilesAt base w' fs :=
  h.touch (X := fun _ => False) (.of_below hb) fun _ _ _ _ x => x
theorem FilesAt.del {base : Nat} {w : World} {fs : List WF} (h : FilesAt base w fs) (k : Bs) : FilesAt base w (Dk.del WF.nm k fs) :=
  ⟨fun F hF => h.files F (mem_del.1 hF).1, h.rises.del, fun F hF G hG => h.apart F (mem_del.1 hF).1 G (mem_del.1 hG).1⟩
/-- A file, of the list or a new one, is another one now. -/
theorem FilesAt.ins {base : Nat} {w w' : World} {fs : List WF} (h : FilesAt base w fs) {F F' : WF} (hap : ∀ G ∈ fs, G.nm ≠ F'.nm → ∀ b, G.foot b → ¬ F.foot b) (t : Tch F.foot w w') (h' : FileAt base w' F')
    (hf : ∀ b, F'.foot b → F.foot b ∨ w.heap.size ≤ b) : FilesAt base w' (Dk.ins WF.nm F' fs) := by
  have key : ∀ G ∈ fs, G.nm ≠ F'.nm → FileAt base w' G ∧ ∀ b, G.foot b → ¬ F'.foot b := fun G hG hne =>
    ⟨(h.files G hG).touch t (hap G hG hne), fun b hb hb' => (hf b hb').elim (hap G hG hne b hb) fun hx => Nat.lt_irrefl _ (Nat.lt_of_lt_of_le ((h.files G hG).foot_lt hb) hx)⟩
  refine ⟨fun G hG => ?_, h.rises.ins, fun G hG H hH hne b hb => ?_⟩
  · rcases (mem_ins_iff h.rises).1 hG with rfl | ⟨hG, hne⟩
    · exact h'
    · exact (key G hG hne).1
  · rcases (mem_ins_iff h.rises).1 hG with eG | ⟨mG, hne1⟩
    · subst eG
      rcases (mem_ins_iff h.rises).1 hH with eH | ⟨mH, hne2⟩
      · exact absurd (by rw [eH]) hne
      · exact fun hb' => (key H mH hne2).2 b hb' hb
    · rcases (mem_ins_iff h.rises).1 hH with eH | ⟨mH, hne2⟩
      · rw [eH]
        exact (key G mG hne1).2 b hb
      · exact h.apart G mG H mH hne b hb
/-! ### the map -/
/-- How an element of the files' map reads: as the number of the file's block. -/
def Rp (v : Value) : Option (DataW Unit × List MemPlace) :=
  match v with
  | .pointer (some ⟨b, 0, none⟩) => some (.lit (.int .i64 b), [])
  | _ => none
def fptr (b : Nat) : Value := .pointer (some ⟨b, 0, none⟩)
theorem Rp_mk (b : Nat) : Rp (fptr b) = some (.lit (.int .i64 b), []) := rfl
theorem Rp_inv {v : Value} {y : DataW Unit × List MemPlace} (h : Rp v = some y) : ∃ b, v = fptr b ∧ y = (.lit (.int .i64 b), []) := by
  unfold Rp at h
  split at h
  · exact ⟨_, rfl, (Option.some.inj h).symm⟩
  · cases h
abbrev Dfs (fs : List WF) : DataW Unit := Dof WF.nm WF.blk fs
def MapAt (P : Program) (base K : Nat) (w : World) (mb : Option Nat) (fs : List WF) : Prop :=
  (mb = none ∧ fs = []) ∨ ∃ b n, mb = some b ∧ base ≤ b ∧ n ≤ K ∧ w.ownsMap P 9 Rp b n (Dfs fs)
theorem MapAt.kept {P : Program} {base K : Nat} {w w' : World} {mb : Option Nat} {fs : List WF} (h : MapAt P base K w mb fs) (hb : ∀ b, mb = some b → w'.heap[b]? = w.heap[b]?) : MapAt P base K w' mb fs := by
  rcases h with h | ⟨b, n, h1, h2, h3, es, cl, h4, h5⟩
  · exact .inl h
  · exact .inr ⟨b, n, h1, h2, h3, es, cl, (hb b h1).trans h4, h5⟩
theorem MapAt.mono {P : Program} {base K K' : Nat} {w : World} {mb : Option Nat} {fs : List WF} (h : MapAt P base K w mb fs) (hK : K ≤ K') : MapAt P base K' w mb fs := by
  rcases h with h | ⟨b, n, h1, h2, h3, h4⟩
  · exact .inl h
  · exact .inr ⟨b, n, h1, h2, Nat.le_trans h3 hK, h4⟩
theorem MapAt.kind {P : Program} {base K : Nat} {w : World} {mb : Option Nat} {fs : List WF} (h : MapAt P base K w mb fs) {b : Nat} (hb : mb = some b) : base ≤ b ∧ ∃ es cl, w.heap[b]? = some (.map es cl) := by
  rcases h with ⟨h, _⟩ | ⟨b', n, h1, h2, h3, es, cl, h4, h5⟩
  · rw [h] at hb; cases hb
  · rw [h1] at hb
    cases hb
    exact ⟨h2, es, cl, h4⟩
/-- m[name]. -/
theorem MapAt.look {P : Program} {base K T E : Nat} {w : World} {mb : Option Nat} {fs : List WF} (h : MapAt P base K w mb fs) (h9 : P.underlying 9 = some .string) (hT : P.underlying T = some (.map 9 E)) (hz : (zeroValue E).run P w = .ok (.pointer none) w)
    (s : ByteArray) (hs : s.size ≤ maxLen) :
    (Instr.lookup T (.map mb) (.string s) false).run P w = .ok (match seek WF.nm s.data.toList fs with | some F => fptr F.blk | none => .pointer none) w := by
  have hkey := WideMaps.keyOf_string_mk h9 hs
  rcases h with ⟨rfl, rfl⟩ | ⟨b, n, rfl, -, -, es, cl, hb, F, -, hD⟩
  · exact Maps.look_nil false (string_keyed h9) hT hz hkey
  · have hat := fun z => Dof_at (nm := WF.nm) (bk := WF.blk) s.data.toList fs z
    have hhas := Dof_has (nm := WF.nm) (bk := WF.blk) s.data.toList fs
    rcases Maps.fit_look false (string_keyed h9) hT hz hb F hkey with ⟨hrun, h0, h1⟩ | ⟨e0, y, h0, h00, hrun, hRv, h1, h2⟩
    · rw [hrun]
      have e1 := h1 .nil
      rw [← hD, hat] at e1
      cases hx : seek WF.nm s.data.toList fs with
      | none => rfl
      | some G => rw [hx] at e1; cases e1
    · rw [hrun]
      obtain ⟨c, hc, rfl⟩ := Rp_inv hRv
      have e1 := h1 .nil
      rw [← hD, hat] at e1
      cases hx : seek WF.nm s.data.toList fs with
      | none => rw [hx] at e1; cases e1
      | some G =>
        rw [hx] at e1
        simp only [DataW.lit.injEq, Lit.int.injEq, true_and] at e1
        have : G.blk = c := by omega
        subst this
        show Result.ok e0.val w = _
        rw [hc]
/-! ### the disk -/
structure WD where
  a : A
  rm : Int
  mb : Option Nat
  pv : Value
  fs : List WF
def fcells : Option Fall → List Value
  | none => []
  | some f => [.int .i64 f.on, .int .i64 f.keep, .int .i64 f.torn]
def flen : Option Fall → Nat
  | none => 0
  | some _ => 1
def drow (S : WD) : Array Value := Go.Proofs.Ytnjkahoaogeecaa.dcells S.mb S.pv S.a.changes (decide (0 ≤ S.a.room)) S.rm S.a.down
structure Small (K : Nat) (f : AF) : Prop where
  puts : f.puts.length ≤ K
  lens : ∀ i, (f.after i).length ≤ 100 * K
  name : nameOk f.name = true
structure DiskAt (P : Program) (base K d : Nat) (w : World) (S : WD) : Prop where
  row : w.heap[d]? = some (.cells (drow S) 74 (0, 0))
  ge : base ≤ d
  rm : 0 ≤ S.a.room → S.rm = S.a.room
  plan : w.ownsRow base 34 3 S.pv (flen S.a.fall) (fcells S.a.fall)
  map : MapAt P base K w S.mb S.fs
  files : FilesAt base w S.fs
  same : S.fs.map WF.a = S.a.files
  small : ∀ F ∈ S.fs, Small K F.a
  count : S.fs.length ≤ K
  chg : S.a.changes ≤ K
  lim : K ≤ 100000
variable {P : Program} {base K d : Nat} {w w' : World} {S : WD}
theorem Small.mono {K K' : Nat} {f : AF} (h : Small K f) (hK : K ≤ K') : Small K' f := ⟨Nat.le_trans h.puts hK, fun i => Nat.le_trans (h.lens i) (Nat.mul_le_mul_left _ hK), h.name⟩
theorem DiskAt.mono {K' : Nat} (h : DiskAt P base K d w S) (hK : K ≤ K') (hl : K' ≤ 100000) : DiskAt P base K' d w S :=
  ⟨h.row, h.ge, h.rm, h.plan, h.map.mono hK, h.files, h.same, fun F hF => (h.small F hF).mono hK, Nat.le_trans h.count hK, Nat.le_trans h.chg hK, hl⟩
theorem DiskAt.lt (h : DiskAt P base K d w S) : d < w.heap.size := block_lt h.row
theorem DiskAt.mine_d (h : DiskAt P base K d w S) : Mine base w d := ⟨h.ge, _, h.row, .inl rfl⟩
theorem DiskAt.mine_map (h : DiskAt P base K d w S) {b : Nat} (hb : S.mb = some b) : Mine base w b := by
  obtain ⟨h1, es, cl, h2⟩ := h.map.kind hb
  exact ⟨h1, _, h2, trivial⟩
theorem DiskAt.mine_plan (h : DiskAt P base K d w S) {b : Nat} (hb : S.pv.ownBlock = some b) : Mine base w b := by
  obtain ⟨cur, hc⟩ := ownsRow_tag h.plan hb
  exact ⟨ownsRow_ge h.plan hb, _, hc, .inr (.inl rfl)⟩
theorem FileAt.mine {F : WF} (h : FileAt base w F) {b : Nat} (hb : F.foot b) : Mine base w b := by
  obtain ⟨cs, t, h1, h2⟩ := h.foot_kind hb
  exact ⟨h.foot_ge hb, _, h1, by rcases h2 with rfl | rfl | rfl <;> simp [dkind]⟩
theorem FileAt.not_d {F : WF} {cs : Array Value} {b : Nat} (h : FileAt base w F) (hd : w.heap[b]? = some (.cells cs 74 (0, 0))) : ¬ F.foot b := fun hb => by
  obtain ⟨cs', t, h1, h2⟩ := h.foot_kind hb
  rw [hd] at h1
  cases h1
  rcases h2 with h2 | h2 | h2 <;> cases h2
theorem FileAt.not_fall {F : WF} {cs : Array Value} {b : Nat} (h : FileAt base w F) (hd : w.heap[b]? = some (.cells cs 34 (0, 0))) : ¬ F.foot b := fun hb => by
  obtain ⟨cs', t, h1, h2⟩ := h.foot_kind hb
  rw [hd] at h1
  cases h1
  rcases h2 with h2 | h2 | h2 <;> cases h2
theorem FileAt.not_map {F : WF} {es : Array MapEntry} {cl b : Nat} (h : FileAt base w F) (hd : w.heap[b]? = some (.map es cl)) : ¬ F.foot b := fun hb => by
  obtain ⟨cs', t, h1, h2⟩ := h.foot_kind hb
  rw [hd] at h1
  cases h1
/-- Nothing that was there has turned. -/
theorem DiskAt.below (h : DiskAt P base K d w S) (hb : Below w.heap.size w w') : DiskAt P base K d w' S :=
  ⟨(hb.block d h.lt).trans h.row, h.ge, h.rm, ownsRow_kept h.plan fun g hg => hb.block g (by obtain ⟨cur, hc⟩ := ownsRow_tag h.plan hg; exact block_lt hc),
    h.map.kept fun b e => hb.block b (by obtain ⟨_, es, cl, h2⟩ := h.map.kind e; exact block_lt h2), h.files.below hb, h.same, h.small, h.count, h.chg, h.lim⟩
/-- Only blocks of no disk's kind have turned. -/
theorem DiskAt.other {X : Nat → Prop} (h : DiskAt P base K d w S) (t : Tch X w w') (hX : ∀ b, X b → ¬ Mine base w b) : DiskAt P base K d w' S :=
  ⟨(t.block d h.lt fun x => hX d x h.mine_d).trans h.row, h.ge, h.rm, ownsRow_kept h.plan fun g hg => t.block g (by obtain ⟨cur, hc⟩ := ownsRow_tag h.plan hg; exact block_lt hc) fun x => hX g x (h.mine_plan hg),
    h.map.kept fun b e => t.block b (by obtain ⟨_, es, cl, h2⟩ := h.map.kind e; exact block_lt h2) fun x => hX b x (h.mine_map e), h.files.touch t fun F hF b hb x => hX b x ((h.files.files F hF).mine hb), h.same, h.small, h.count, h.chg, h.lim⟩
def ableOf (a : A) (s : Bs) : Int := if a.down = true then 7 else if nameOk s = true then 0 else 60
/-- Bytes of all files. -/
def total (l : List AF) : Nat := (l.map fun f => f.bytes.length).sum
def looseOf (l : List AF) : Nat := (l.map fun f => f.puts.length).sum
theorem Small.bytes {f : AF} (h : Small K f) : f.bytes.length ≤ 100 * K := by rw [← AF.after_all]; exact h.lens _
theorem DiskAt.pieces (h : DiskAt P base K d w S) {F : WF} (hF : F ∈ S.fs) : F.cs.length ≤ 1000000 ∧ (∀ c ∈ F.cs, c.all.length ≤ 1000000000) ∧ F.a.bytes.length ≤ 10000000 := by
  have hs := h.small F hF
  have hl := h.lim
  have hst := (h.files.files F hF).story
  refine ⟨by rw [hst.length]; have := hs.puts; omega, fun c hc => ?_, by have := hs.bytes; omega⟩
  obtain ⟨i, hi⟩ := List.getElem?_of_mem hc
  obtain ⟨p, hp, ha, _⟩ := hst.get hi
  have hpl : i < F.a.puts.length := (List.getElem?_eq_some_iff.1 hp).1
  have := hs.lens (i + 1)
  unfold AF.after at this
  rw [List.take_succ_eq_append_getElem hpl, List.foldl_append] at this
  rw [List.getElem?_eq_getElem hpl] at hp
  rw [Option.some.inj hp] at this
  rw [ha]
  show (app _ p).length ≤ _
  simp only [List.foldl_cons, List.foldl_nil] at this
  omega
end Go.Dk
