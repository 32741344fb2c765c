/- A file as it lies in memory: its pieces and what was put into it; what stays, what a settling and a put leave; of no program but for the numbers of its types. -/
import Derived.Test.YtnjkahoaogeecaaDiskRows
namespace Go.Dk
open Go.RowKit
/-- A piece: its slice, the bytes, where its own begin. -/
structure Pc where
  v : Value
  all : Bs
  frm : Nat
def Pc.cells (c : Pc) : List Value := [c.v, .int .i64 c.frm]
/-- The pieces tell what was put. -/
def Story : Bs → List Pt → List Pc → Prop
  | _, [], [] => True
  | s, p :: ps, c :: cs => c.all = app s p ∧ c.frm = (if p.whole = true then 0 else s.length) ∧ Story (app s p) ps cs
  | _, _, _ => False
theorem Story.length : ∀ {s : Bs} {ps : List Pt} {cs : List Pc}, Story s ps cs → cs.length = ps.length
  | _, [], [], _ => rfl
  | _, _ :: _, _ :: _, h => by simp [Story.length h.2.2]
  | _, [], _ :: _, h => h.elim
  | _, _ :: _, [], h => h.elim
theorem Story.snoc : ∀ {s : Bs} {ps : List Pt} {cs : List Pc}, Story s ps cs → ∀ (p : Pt) (v : Value), Story s (ps ++ [p]) (cs ++ [⟨v, app (ps.foldl app s) p, if p.whole = true then 0 else (ps.foldl app s).length⟩])
  | _, [], [], _, _, _ => ⟨rfl, rfl, trivial⟩
  | _, _ :: _, _ :: _, h, p, v => ⟨h.1, h.2.1, h.2.2.snoc p v⟩
  | _, [], _ :: _, h, _, _ => h.elim
  | _, _ :: _, [], h, _, _ => h.elim
theorem Story.get : ∀ {s : Bs} {ps : List Pt} {cs : List Pc}, Story s ps cs → ∀ {i : Nat} {c : Pc}, cs[i]? = some c → ∃ p, ps[i]? = some p ∧ c.all = app ((ps.take i).foldl app s) p ∧ c.frm = if p.whole = true then 0 else ((ps.take i).foldl app s).length
  | _, [], [], _, _, _, hc => by simp at hc
  | _, p :: ps, c :: cs, h, 0, c', hc => by
    simp only [List.getElem?_cons_zero, Option.some.injEq] at hc
    subst hc
    exact ⟨p, rfl, h.1, h.2.1⟩
  | _, p :: ps, c :: cs, h, i + 1, c', hc => by
    simp only [List.getElem?_cons_succ] at hc
    simpa using h.2.2.get hc
  | _, [], _ :: _, h, _, _, _ => h.elim
  | _, _ :: _, [], h, _, _, _ => h.elim
theorem Story.last {s : Bs} {ps : List Pt} {cs : List Pc} (h : Story s ps cs) {c : Pc} (hc : cs.getLast? = some c) : c.all = ps.foldl app s := by
  rw [List.getLast?_eq_getElem?] at hc
  obtain ⟨p, hp, ha, _⟩ := h.get hc
  have hl := h.length
  have hi : cs.length - 1 < ps.length := (List.getElem?_eq_some_iff.1 hp).1
  have : ps = ps.take (cs.length - 1) ++ [p] := by
    have e := List.take_append_drop (cs.length - 1) ps
    have e2 : ps.drop (cs.length - 1) = [p] := by
      rw [List.drop_eq_getElem_cons hi, List.drop_eq_nil_of_le (by omega)]
      rw [List.getElem?_eq_getElem hi] at hp
      rw [Option.some.inj hp]
    rw [e2] at e
    exact e.symm
  rw [ha]
  conv => rhs; rw [this]
  simp
/-- A file in memory. -/
structure WF where
  a : AF
  blk : Nat
  sv : Value
  lv : Value
  cs : List Pc
def WF.alls (F : WF) : List (Value × Bs) := (F.sv, F.a.sure) :: F.cs.map fun c => (c.v, c.all)
def WF.nowV (F : WF) : Value := match F.cs.getLast? with | some c => c.v | none => F.sv
def WF.foot (F : WF) (b : Nat) : Prop := b = F.blk ∨ F.lv.ownBlock = some b ∨ ∃ q ∈ F.alls, q.1.ownBlock = some b
structure FileAt (base : Nat) (w : World) (F : WF) : Prop where
  row : w.heap[F.blk]? = some (.cells #[.bool F.a.settled, F.sv, F.lv] 82 (0, 0))
  ge : base ≤ F.blk
  all : ∀ q ∈ F.alls, Row base w q.1 q.2
  loose : w.ownsRow base 101 2 F.lv F.cs.length (F.cs.flatMap Pc.cells)
  story : Story F.a.sure F.a.puts F.cs
  safe : ∀ q ∈ F.alls, q.1.ownBlock = F.nowV.ownBlock → q.2.length ≤ F.a.bytes.length
theorem WF.now_mem {F : WF} (h : Story F.a.sure F.a.puts F.cs) : (F.nowV, F.a.bytes) ∈ F.alls := by
  unfold WF.nowV WF.alls
  cases hc : F.cs.getLast? with
  | none =>
    have : F.cs = [] := by simpa using hc
    have hl := h.length
    rw [this] at hl
    have : F.a.puts = [] := List.eq_nil_of_length_eq_zero hl.symm
    simp [AF.bytes, this]
  | some c =>
    refine List.mem_cons_of_mem _ (List.mem_map.2 ⟨c, List.mem_of_getLast? hc, ?_⟩)
    rw [h.last hc]
    rfl
theorem FileAt.now {base : Nat} {w : World} {F : WF} (h : FileAt base w F) : Row base w F.nowV F.a.bytes := h.all _ (WF.now_mem h.story)
theorem FileAt.foot_lt {base : Nat} {w : World} {F : WF} (h : FileAt base w F) {b : Nat} (hb : F.foot b) : b < w.heap.size := by
  rcases hb with rfl | hb | ⟨q, hq, hb⟩
  · exact block_lt h.row
  · obtain ⟨cur, hc⟩ := ownsRow_tag h.loose hb
    exact block_lt hc
  · obtain ⟨cur, hc⟩ := ownsRow_tag (h.all q hq) hb
    exact block_lt hc
theorem FileAt.foot_ge {base : Nat} {w : World} {F : WF} (h : FileAt base w F) {b : Nat} (hb : F.foot b) : base ≤ b := by
  rcases hb with rfl | hb | ⟨q, hq, hb⟩
  · exact h.ge
  · exact ownsRow_ge h.loose hb
  · exact ownsRow_ge (h.all q hq) hb
/-- What kinds of blocks a file has. -/
theorem FileAt.foot_kind {base : Nat} {w : World} {F : WF} (h : FileAt base w F) {b : Nat} (hb : F.foot b) : ∃ cs t, w.heap[b]? = some (.cells cs t (0, 0)) ∧ (t = 82 ∨ t = 101 ∨ t = 5) := by
  rcases hb with rfl | hb | ⟨q, hq, hb⟩
  · exact ⟨_, _, h.row, .inl rfl⟩
  · obtain ⟨cur, hc⟩ := ownsRow_tag h.loose hb
    exact ⟨_, _, hc, .inr (.inl rfl)⟩
  · obtain ⟨cur, hc⟩ := ownsRow_tag (h.all q hq) hb
    exact ⟨_, _, hc, .inr (.inr rfl)⟩
theorem FileAt.kept {base : Nat} {w w' : World} {F : WF} (h : FileAt base w F) (hb : ∀ b, F.foot b → w'.heap[b]? = w.heap[b]?) : FileAt base w' F :=
  ⟨(hb _ (.inl rfl)).trans h.row, h.ge, fun q hq => ownsRow_kept (h.all q hq) fun g hg => hb g (.inr (.inr ⟨q, hq, hg⟩)), ownsRow_kept h.loose fun g hg => hb g (.inr (.inl hg)), h.story, h.safe⟩
theorem FileAt.touch {base : Nat} {X : Nat → Prop} {w w' : World} {F : WF} (h : FileAt base w F) (t : Tch X w w') (hX : ∀ b, F.foot b → ¬ X b) : FileAt base w' F :=
  h.kept fun b hb => t.block b (h.foot_lt hb) (hX b hb)
/-- A file that was settled at bytes of its own. -/
theorem FileAt.settled {base : Nat} {w w' : World} {F : WF} (h : FileAt base w F) (v : Value) (l : Bs) (hv : Row base w v l) (hown : ∀ g, v.ownBlock = some g → F.foot g)
    (hrow : w'.heap[F.blk]? = some (.cells #[.bool true, v, .slice none 0 0] 82 (0, 0))) (t : Tch (· = F.blk) w w') :
    FileAt base w' ⟨F.a.settle l, F.blk, v, .slice none 0 0, []⟩ ∧ ∀ b, (WF.mk (F.a.settle l) F.blk v (.slice none 0 0) []).foot b → F.foot b := by
  refine ⟨⟨hrow, h.ge, ?_, World.ownsRow_nil _ _ _ _, trivial, ?_⟩, ?_⟩
  · intro q hq
    simp only [WF.alls, List.map_nil, List.mem_singleton] at hq
    subst hq
    refine ownsRow_kept hv fun g hg => ?_
    obtain ⟨cur, hc⟩ := ownsRow_tag hv hg
    refine t.block g (block_lt hc) fun e => ?_
    subst e
    rw [h.row] at hc
    cases hc
  · intro q hq _
    simp only [WF.alls, List.map_nil, List.mem_singleton] at hq
    subst hq
    exact Nat.le_refl _
  · rintro b (rfl | hb | ⟨q, hq, hb⟩)
    · exact .inl rfl
    · cases hb
    · simp only [WF.alls, List.map_nil, List.mem_singleton] at hq
      subst hq
      exact hown b hb
/-- A file that is not there yet. -/
theorem FileAt.fresh {base : Nat} {w : World} {b : Nat} (name : Bs) (hb : base ≤ b) (h : w.heap[b]? = some (.cells #[.bool false, .slice none 0 0, .slice none 0 0] 82 (0, 0))) :
    FileAt base w ⟨⟨name, [], false, []⟩, b, .slice none 0 0, .slice none 0 0, []⟩ := by
  refine ⟨h, hb, ?_, World.ownsRow_nil _ _ _ _, trivial, ?_⟩
  · intro q hq
    simp only [WF.alls, List.map_nil, List.mem_singleton] at hq
    subst hq
    exact Row.nil _ _
  · intro q hq _
    simp only [WF.alls, List.map_nil, List.mem_singleton] at hq
    subst hq
    exact Nat.le_refl _
/-- A file behind a put: 'v', the bytes' new slice, lies where the last one lay, or is new. -/
theorem FileAt.put {base : Nat} {w w1 w2 w' : World} {F : WF} (h : FileAt base w F) (p : Pt) (stay : Value) (hstay : (p.whole = true ∧ stay = .slice none 0 0) ∨ (p.whole = false ∧ stay = F.nowV))
    (v lv : Value) (hv : Row base w1 v (app F.a.bytes p)) (g1 : w.grownBy w1 stay.ownBlock) (l1 : v.ownBlock = stay.ownBlock ∨ v.ownBlock = none ∨ ∃ g, v.ownBlock = some g ∧ w.heap.size ≤ g)
    (k1 : ∀ u l, Row base w u l → u.ownBlock = stay.ownBlock → l.length ≤ (if p.whole = true then 0 else F.a.bytes.length) → Row base w1 u l)
    (t12 : Tch (fun _ => False) w1 w2) (t2 : Tch (fun b => F.lv.ownBlock = some b ∨ b = F.blk) w2 w')
    (hl : w'.ownsRow base 101 2 lv (F.cs.length + 1) (F.cs.flatMap Pc.cells ++ [v, .int .i64 ((if p.whole = true then 0 else F.a.bytes.length : Nat) : Int)]))
    (l2 : lv.ownBlock = F.lv.ownBlock ∨ ∃ g, lv.ownBlock = some g ∧ w.heap.size ≤ g)
    (hrow : w'.heap[F.blk]? = some (.cells #[.bool F.a.settled, F.sv, lv] 82 (0, 0))) :
    ∃ F' : WF, F'.a = F.a.put p ∧ F'.blk = F.blk ∧ FileAt base w' F' ∧ Tch F.foot w w' ∧ ∀ b, F'.foot b → F.foot b ∨ w.heap.size ≤ b := by
  have hstayfoot : ∀ b, stay.ownBlock = some b → F.foot b := by
    intro b hb
    rcases hstay with ⟨_, rfl⟩ | ⟨_, rfl⟩
    · cases hb
    · exact .inr (.inr ⟨_, WF.now_mem h.story, hb⟩)
  have hbyte : ∀ u l, Row base w u l → ∀ g, u.ownBlock = some g → ¬ (F.lv.ownBlock = some g ∨ g = F.blk) := by
    intro u l hu g hg hx
    obtain ⟨cur, hc⟩ := ownsRow_tag hu hg
    rcases hx with hx | rfl
    · obtain ⟨cur', hc'⟩ := ownsRow_tag h.loose hx
      rw [hc] at hc'
      cases hc'
    · have := h.row
      rw [hc] at this
      cases this
  have t1 : Tch (fun b => stay.ownBlock = some b) w w1 := .of_grown g1 fun _ e => e
  have keep : ∀ u l, Row base w u l → (u.ownBlock = stay.ownBlock → l.length ≤ (if p.whole = true then 0 else F.a.bytes.length)) → Row base w' u l := by
    intro u l hu hlen
    have h1 : Row base w1 u l := by
      by_cases e : u.ownBlock = stay.ownBlock
      · exact k1 u l hu e (hlen e)
      · refine ownsRow_kept hu fun g hg => ?_
        obtain ⟨cur, hc⟩ := ownsRow_tag hu hg
        exact t1.block g (block_lt hc) fun e' => e (hg.trans e'.symm)
    refine ownsRow_kept h1 fun g hg => ?_
    obtain ⟨cur, hc⟩ := ownsRow_tag h1 hg
    have e2 := t12.block g (block_lt hc) fun x => x
    exact (t2.block g (Nat.lt_of_lt_of_le (block_lt hc) t12.size) (hbyte u l hu g hg)).trans e2
  have hv' : Row base w' v (app F.a.bytes p) := by
    refine ownsRow_kept hv fun g hg => ?_
    obtain ⟨cur, hc⟩ := ownsRow_tag hv hg
    have e2 := t12.block g (block_lt hc) fun x => x
    refine (t2.block g (Nat.lt_of_lt_of_le (block_lt hc) t12.size) fun hx => ?_).trans e2
    have hgf : F.foot g := hx.elim (fun e => .inr (.inl e)) .inl
    have hgw := h.foot_lt hgf
    rcases l1 with e | e | ⟨g', e, hg'⟩
    · rw [hg] at e
      rcases hstay with ⟨_, rfl⟩ | ⟨_, rfl⟩
      · cases e
      · exact hbyte _ _ h.now g e.symm hx
    · rw [hg] at e; cases e
    · rw [hg] at e; cases e; omega
  refine ⟨⟨F.a.put p, F.blk, F.sv, lv, F.cs ++ [⟨v, app F.a.bytes p, if p.whole = true then 0 else F.a.bytes.length⟩]⟩, rfl, rfl, ⟨hrow, h.ge, ?_, ?_, (by exact h.story.snoc p v), ?_⟩, ?_, ?_⟩
  · intro q hq
    simp only [WF.alls, List.map_append, List.map_cons, List.map_nil, List.mem_cons, List.mem_append, List.not_mem_nil, or_false] at hq
    have hold : q ∈ F.alls → Row base w' q.1 q.2 := fun hq => keep _ _ (h.all q hq) fun e => by
      rcases hstay with ⟨h1, rfl⟩ | ⟨h1, rfl⟩
      · have hr := h.all q hq
        rcases hr.2 with ⟨_, hn⟩ | ⟨g, cap, cur, hg, _⟩
        · rw [if_pos h1, hn]; exact Nat.le_refl _
        · rw [hg] at e; cases e
      · rw [if_neg (by simp [h1])]
        exact h.safe q hq e
    rcases hq with rfl | hq | rfl
    · exact hold (List.mem_cons_self ..)
    · exact hold (List.mem_cons_of_mem _ hq)
    · exact hv'
  · rw [List.flatMap_append, List.length_append]
    exact hl
  · intro q hq e
    have hnv : (WF.mk (F.a.put p) F.blk F.sv lv (F.cs ++ [⟨v, app F.a.bytes p, if p.whole = true then 0 else F.a.bytes.length⟩])).nowV = v := by simp [WF.nowV]
    rw [hnv] at e
    show q.2.length ≤ (F.a.put p).bytes.length
    rw [AF.bytes_put]
    simp only [WF.alls, List.map_append, List.map_cons, List.map_nil, List.mem_cons, List.mem_append, List.not_mem_nil, or_false] at hq
    have hold : q ∈ F.alls → q.2.length ≤ (app F.a.bytes p).length := fun hq => by
      have hr := h.all q hq
      rcases hr.2 with ⟨_, hn⟩ | ⟨g, cap, cur, hg, _, hc, _⟩
      · omega
      · have hqg : q.1.ownBlock = some g := by rw [hg]; rfl
        rw [hqg] at e
        rcases l1 with e1 | e1 | ⟨g', e1, hg'⟩
        · rw [← e] at e1
          rcases hstay with ⟨_, rfl⟩ | ⟨h1, rfl⟩
          · cases e1
          · have := h.safe q hq (hqg.trans e1)
            unfold app
            rw [if_neg (by simp [h1]), List.length_append]
            omega
        · rw [← e] at e1; cases e1
        · rw [← e] at e1
          cases e1
          have := block_lt hc
          omega
    rcases hq with rfl | hq | rfl
    · exact hold (List.mem_cons_self ..)
    · exact hold (List.mem_cons_of_mem _ hq)
    · exact Nat.le_refl _
  · refine (t1.trans (t12.trans t2 (Z := fun b => F.lv.ownBlock = some b ∨ b = F.blk) (fun _ x => x.elim) (fun _ _ x => x)) hstayfoot fun b _ hb => ?_)
    exact hb.elim (fun e => .inr (.inl e)) .inl
  · rintro b (rfl | hb | ⟨q, hq, hb⟩)
    · exact .inl (.inl rfl)
    · rcases l2 with e | ⟨g, e, hg⟩
      · exact .inl (.inr (.inl (e.symm.trans hb)))
      · have hb' : lv.ownBlock = some b := hb
        rw [hb'] at e; cases e; exact .inr hg
    · simp only [WF.alls, List.map_append, List.map_cons, List.map_nil, List.mem_cons, List.mem_append, List.not_mem_nil, or_false] at hq
      rcases hq with rfl | hq | rfl
      · exact .inl (.inr (.inr ⟨_, List.mem_cons_self .., hb⟩))
      · exact .inl (.inr (.inr ⟨_, List.mem_cons_of_mem _ hq, hb⟩))
      · rcases l1 with e | e | ⟨g, e, hg⟩
        · exact .inl (hstayfoot b (e.symm.trans hb))
        · have hb' : v.ownBlock = some b := hb
          rw [hb'] at e; cases e
        · have hb' : v.ownBlock = some b := hb
          rw [hb'] at e; cases e; exact .inr hg
end Go.Dk
