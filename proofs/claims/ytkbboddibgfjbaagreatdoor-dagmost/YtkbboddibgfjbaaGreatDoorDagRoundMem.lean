/- While it is gone over those that wait: the Dag, and two rows of one's own. -/
import Derived.Test.YtkbboddibgfjbaaGreatDoorDagTake
namespace Go.Dag
open Go.RowKit Go.Nod Go.MapFun
/-- tv holds what was taken, sv what still waits. -/
structure Rn (P : Program) (S base : Nat) (F0 F : Fp) (ks : List ByteArray) (sl : ByteArray → Sl) (r : Rw) (tv : Value) (O : List ByteArray) (sv : Value) (L : List ByteArray) (w0 w : World) : Prop where
  d : DagR P S base F ks sl r w
  tak : w.ownsRow w0.heap.size 9 1 tv O.length (O.map Value.string)
  stl : w.ownsRow w0.heap.size 9 1 sv L.length (L.map Value.string)
  ap : ∀ x, tv.ownBlock = some x → sv.ownBlock ≠ some x
  o1 : ∀ x, tv.ownBlock = some x → ¬ F.has x
  o2 : ∀ x, sv.ownBlock = some x → ¬ F.has x
  par0 : ∀ x ∈ r.N ++ r.W, ∀ a, (sl x.1).a = some a → a < w0.heap.size
  tn : Tn F0 w0 w
  nw : F0.to F w0
variable {P : Program} {S base : Nat} {F0 F : Fp} {ks : List ByteArray} {sl : ByteArray → Sl} {r : Rw} {tv sv : Value} {O L : List ByteArray} {w0 w w' : World}
theorem Rn.start (h : DagR P S base F ks sl r w) : Rn P S base F F ks sl r (.slice none 0 0) [] (.slice none 0 0) [] w w :=
  ⟨h, World.ownsRow_nil _ _ _ _, World.ownsRow_nil _ _ _ _, (fun x h => by cases h), (fun x h => by cases h), (fun x h => by cases h), fun x hx a ha => (h.par.out x hx a ha).1, Tn.refl _ _, F.to_refl _⟩
theorem Rn.step (h : Rn P S base F0 F ks sl r tv O sv L w0 w) (k : Below w.heap.size w w') : Rn P S base F0 F ks sl r tv O sv L w0 w' :=
  ⟨h.d.below k, own_low h.tak fun j hj => k.block j (h.tak.lt j hj).2, own_low h.stl fun j hj => k.block j (h.stl.lt j hj).2, h.ap, h.o1, h.o2, h.par0, h.tn.trans (.of_below k (F := F)) h.nw, h.nw⟩
/-- The Dag has turned. -/
theorem Rn.turn {F2 : Fp} {r2 : Rw} (h : Rn P S base F0 F ks sl r tv O sv L w0 w) (k : DagR P S base F2 ks sl r2 w' ∧ Tn F w w' ∧ F.to F2 w) (hp : ∀ x ∈ r2.N ++ r2.W, ∀ a, (sl x.1).a = some a → a < w0.heap.size) : Rn P S base F0 F2 ks sl r2 tv O sv L w0 w' := by
  have ho : ∀ {v : Value} {M : List ByteArray}, w.ownsRow w0.heap.size 9 1 v M.length (M.map Value.string) → (∀ x, v.ownBlock = some x → ¬ F.has x) → ∀ x, v.ownBlock = some x → ¬ F2.has x := fun hv h1 x hx e => by
    rcases k.2.2 x e with e | e
    · exact h1 x hx e
    · have := (hv.lt x hx).2; omega
  exact ⟨k.1, own_low h.tak fun j hj => k.2.1.block j (h.tak.lt j hj).2 (h.o1 j hj), own_low h.stl fun j hj => k.2.1.block j (h.stl.lt j hj).2 (h.o2 j hj), h.ap, ho h.tak h.o1, ho h.stl h.o2, hp, h.tn.trans k.2.1 h.nw, Fp.to_trans h.nw k.2.2 h.tn.size⟩
/-- A row that is none of the Dag's grows. -/
theorem grown_tn {w1 : World} {v : Value} (hg : w1.grownBy w' v.ownBlock) (h : DagR P S base F ks sl r w1) (ho : ∀ x, v.ownBlock = some x → ¬ F.has x ∧ w0.heap.size ≤ x) (hp : ∀ x ∈ r.N ++ r.W, ∀ a, (sl x.1).a = some a → a < w0.heap.size) (h0 : w0.heap.size ≤ w1.heap.size) (hb : base ≤ w0.heap.size) : DagR P S base F ks sl r w' where
  row := (hg.block _ (h.lt _ (.inl rfl)) fun e => (ho _ e.symm).1 (.inl rfl)).trans h.row
  ring := h.ring.kept hg.size fun x hx => hg.block x (by omega) fun e => by have := (ho _ e.symm).2; omega
  nodes := h.nodes.kept (hg.block _ h.nodes.lt fun e => (ho _ e.symm).1 (.inr (.inl rfl)))
  order := own_low h.order fun g hgo => hg.block g (h.order.lt g hgo).2 fun e => (ho _ e.symm).1 (.inr (.inr (.inr (.inr (.inl hgo)))))
  heads := h.heads.kept (hg.block _ h.heads.lt fun e => (ho _ e.symm).1 (.inr (.inr (.inl rfl))))
  waiting := h.waiting.kept (hg.block _ h.waiting.lt fun e => (ho _ e.symm).1 (.inr (.inr (.inr (.inl rfl)))))
  came := own_low h.came fun g hgo => hg.block g (h.came.lt g hgo).2 fun e => (ho _ e.symm).1 (.inr (.inr (.inr (.inr (.inr hgo)))))
  par := ⟨fun x hx => reads_kept (h.par.reads x hx) hg.size fun a ha hl => hg.block a hl fun e => by
      have h1 := hp x hx a (by rw [← Sl.own]; exact ha)
      have h2 := (ho _ e.symm).2
      omega, fun x hx a ha => ⟨Nat.lt_of_lt_of_le (h.par.out x hx a ha).1 hg.size, (h.par.out x hx a ha).2⟩⟩
  ne1 := h.ne1
  ne2 := h.ne2
  ne3 := h.ne3
  ne4 := h.ne4
  nine := h.nine
  base1 := h.base1
theorem tn_grown {w1 : World} {v : Value} (hg : w1.grownBy w' v.ownBlock) (ho : ∀ x, v.ownBlock = some x → w0.heap.size ≤ x) (h : Tn F0 w0 w1) : Tn F0 w0 w' :=
  ⟨hg.os.trans h.os, hg.tape.trans h.tape, hg.output.trans h.output, Nat.le_trans h.size hg.size, fun k hk hf => (hg.block k (Nat.lt_of_lt_of_le hk h.size) fun e => by have := ho k e.symm; omega).trans (h.block k hk hf)⟩
theorem Rn.addS {v' : Value} {x : ByteArray} (h : Rn P S base F0 F ks sl r tv O sv L w0 w) (hb : base ≤ w0.heap.size) (hg : w.grownBy w' sv.ownBlock) (ho : w'.ownsRow w0.heap.size 9 1 v' (L.length + 1) (L.map Value.string ++ [.string x])) (hw : v'.ownBlock = sv.ownBlock ∨ v'.ownBlock = some w.heap.size) : Rn P S base F0 F ks sl r tv O v' (L ++ [x]) w0 w' := by
  have hs : ∀ x, sv.ownBlock = some x → ¬ F.has x ∧ w0.heap.size ≤ x := fun x hx => ⟨h.o2 x hx, (h.stl.lt x hx).1⟩
  refine ⟨grown_tn hg h.d hs h.par0 h.tn.size hb, own_low h.tak fun j hj => hg.block j (h.tak.lt j hj).2 fun e => h.ap j hj e.symm, by rw [List.length_append, List.map_append]; exact ho, fun y hy e => ?_, h.o1, fun y hy e => ?_, h.par0, tn_grown hg (fun x hx => (hs x hx).2) h.tn, h.nw⟩
  · rcases hw with e1 | e1
    · rw [e1] at e; exact h.ap y hy e
    · rw [e1] at e; cases e; exact Nat.lt_irrefl _ (h.tak.lt _ hy).2
  · rcases hw with e1 | e1
    · rw [e1] at hy; exact h.o2 y hy e
    · rw [e1] at hy; cases hy; exact Nat.lt_irrefl _ (h.d.lt _ e)
theorem Rn.addT {v' : Value} {x : ByteArray} (h : Rn P S base F0 F ks sl r tv O sv L w0 w) (hb : base ≤ w0.heap.size) (hg : w.grownBy w' tv.ownBlock) (ho : w'.ownsRow w0.heap.size 9 1 v' (O.length + 1) (O.map Value.string ++ [.string x])) (hw : v'.ownBlock = tv.ownBlock ∨ v'.ownBlock = some w.heap.size) : Rn P S base F0 F ks sl r v' (O ++ [x]) sv L w0 w' := by
  have hs : ∀ x, tv.ownBlock = some x → ¬ F.has x ∧ w0.heap.size ≤ x := fun x hx => ⟨h.o1 x hx, (h.tak.lt x hx).1⟩
  refine ⟨grown_tn hg h.d hs h.par0 h.tn.size hb, by rw [List.length_append, List.map_append]; exact ho, own_low h.stl fun j hj => hg.block j (h.stl.lt j hj).2 fun e => h.ap j e.symm hj, fun y hy e => ?_, fun y hy e => ?_, h.o2, h.par0, tn_grown hg (fun x hx => (hs x hx).2) h.tn, h.nw⟩
  · rcases hw with e1 | e1
    · rw [e1] at hy; exact h.ap y hy e
    · rw [e1] at hy; cases hy; exact Nat.lt_irrefl _ (h.stl.lt _ e).2
  · rcases hw with e1 | e1
    · rw [e1] at hy; exact h.o1 y hy e
    · rw [e1] at hy; cases hy; exact Nat.lt_irrefl _ (h.d.lt _ e)
/-- What still waits is laid into the Dag's block. -/
theorem Rn.lay (h : Rn P S base F0 F ks sl r tv O sv L w0 w) (hb : base ≤ w0.heap.size) :
    DagR P S base { F with cv := sv } ks sl ⟨r.N, r.O, r.H, r.W, L⟩ (w.setCell ⟨F.b, 5, none⟩ sv) ∧ Tn F0 w0 (w.setCell ⟨F.b, 5, none⟩ sv) ∧ F0.to { F with cv := sv } w0 ∧ (w.setCell ⟨F.b, 5, none⟩ sv).ownsRow w0.heap.size 9 1 tv O.length (O.map Value.string) ∧ ∀ x, tv.ownBlock = some x → ¬ ({ F with cv := sv } : Fp).has x := by
  have hd := h.d
  have hr := hd.rowNe
  have t : Tn F w (w.setCell ⟨F.b, 5, none⟩ sv) := .of_set w 5 sv
  have hset : ∀ x, x ≠ F.b → (w.setCell ⟨F.b, 5, none⟩ sv).heap[x]? = w.heap[x]? := fun x hx => Below.heap_setCell w _ sv x hx
  have hto : F0.to { F with cv := sv } w0 := by
    rintro x (e | e | e | e | e | e)
    · exact h.nw x (.inl e)
    · exact h.nw x (.inr (.inl e))
    · exact h.nw x (.inr (.inr (.inl e)))
    · exact h.nw x (.inr (.inr (.inr (.inl e))))
    · exact h.nw x (.inr (.inr (.inr (.inr (.inl e)))))
    · exact .inr (h.stl.lt x e).1
  refine ⟨⟨?_, hd.ring.kept t.size fun x hx => t.block x (Nat.lt_of_lt_of_le hx hd.size) (fun e => by have := hd.hasBase x e; omega), hd.nodes.kept (hset _ (hd.apart hd.nodes.kind).1), own_low hd.order fun g hg => hset g (fun e => hr.1 (e ▸ hg)), hd.heads.kept (hset _ (hd.apart hd.heads.kind).1), hd.waiting.kept (hset _ (hd.apart hd.waiting.kind).1), ?_, ?_, hd.ne1, hd.ne2, hd.ne3, ?_, hd.nine, hd.base1⟩, h.tn.trans t h.nw, hto, ?_, ?_⟩
  · rw [heap_setCell_same _ _ _ _ _ _ hd.row]; rfl
  · refine own_low (nd_own_mono h.stl hb) fun g hg => hset g fun e => h.o2 g hg (.inl e)
  · refine ⟨(hd.par.kept t).reads, fun x hx a ha => ⟨((hd.par.kept t).out x hx a ha).1, fun e => ?_⟩⟩
    have h1 := (hd.par.out x hx a ha).2
    rcases e with e | e | e | e | e | e
    · exact h1 (.inl e)
    · exact h1 (.inr (.inl e))
    · exact h1 (.inr (.inr (.inl e)))
    · exact h1 (.inr (.inr (.inr (.inl e))))
    · exact h1 (.inr (.inr (.inr (.inr (.inl e)))))
    · have := (h.stl.lt a e).1
      have := h.par0 x hx a ha
      omega
  · intro x hx e
    exact h.o2 x e (.inr (.inr (.inr (.inr (.inl hx)))))
  · exact own_low h.tak fun g hg => hset g fun e => h.o1 g hg (.inl e)
  · intro x hx e
    have h1 := h.o1 x hx
    rcases e with e | e | e | e | e | e
    · exact h1 (.inl e)
    · exact h1 (.inr (.inl e))
    · exact h1 (.inr (.inr (.inl e)))
    · exact h1 (.inr (.inr (.inr (.inl e))))
    · exact h1 (.inr (.inr (.inr (.inr (.inl e)))))
    · exact h.ap x hx e
end Go.Dag
