/- Nodes behind one another in memory: a block, three maps, two rows; no program text is named here. -/
import Derived.Test.YtkbboddibgfjbaaGreatDoorDagPure
namespace Go.Dag
open Go.RowKit Go.Nod Go.MapFun
/-- Where a slice lies. -/
structure Sl where
  a : Option Nat
  n : Nat
  c : Nat
def Sl.v (x : Sl) : Value := .slice (x.a.map fun b => ⟨b, 0, none⟩) x.n x.c
theorem Sl.form (x : Sl) : ∃ a n c, x.v = .slice a n c := ⟨_, _, _, rfl⟩
def Sl.num (a : Option Nat) : Int := match a with | some b => b | none => -1
theorem Sl.num_inj {a b : Option Nat} (h : Sl.num a = Sl.num b) : a = b := by
  unfold Sl.num at h
  cases a <;> cases b <;> simp at h ⊢ <;> omega
theorem Sl.of_own {w : World} {base e : Nat} {v : Value} {k : Nat} {xs : List Value} (h : w.ownsRow base e 1 v k xs) : ∃ s : Sl, s.v = v ∧ ∀ a, s.a = some a → v.ownBlock = some a := by
  rcases h.2 with ⟨rfl, _⟩ | ⟨g, cap, cur, rfl, _⟩
  · exact ⟨⟨none, 0, 0⟩, rfl, fun a h => by cases h⟩
  · exact ⟨⟨some g, k, cap⟩, rfl, fun a h => by cases h; rfl⟩
/-- A node as it lies in a map. -/
structure Nx where
  au : Int
  sl : Sl
  op : Opn.Ob
  tg : ByteArray
def dNx (x : Nx) : DataW Unit := .agg [.lit (.int .i64 x.au), .lit (.int .i64 (Sl.num x.sl.a)), .lit (.int .i64 x.sl.n), .lit (.int .i64 x.sl.c), .lit (.int .i64 x.op.kind), .lit (.int .u64 x.op.tm.c), .lit (.int .i64 x.op.tm.k), .lit (.int .u64 x.op.thing), .lit (.int .u64 x.op.par), .lit (.string x.op.name.data.toList), .lit (.bool x.op.dir), .lit (.string x.op.dg.data.toList), .lit (.int .i64 x.op.size), .lit (.string x.tg.data.toList)]
def Nx.v (x : Nx) : Value := (Nd.mk x.au [] x.op x.tg).v x.sl.v
def rNx (v : Value) : Option (DataW Unit × List MemPlace) :=
  match v with
  | .agg cs => match cs.toList with
    | [.int .i64 au, .slice none n c, .int .i64 kd, .int .u64 tc, .int .i64 tk, .int .u64 th, .int .u64 pa, .string nm, .bool dr, .string dg, .int .i64 sz, .string tg] => some (dNx ⟨au, ⟨none, n, c⟩, ⟨kd, ⟨tc, tk⟩, th, pa, nm, dr, dg, sz⟩, tg⟩, [])
    | [.int .i64 au, .slice (some ⟨b, 0, none⟩) n c, .int .i64 kd, .int .u64 tc, .int .i64 tk, .int .u64 th, .int .u64 pa, .string nm, .bool dr, .string dg, .int .i64 sz, .string tg] => some (dNx ⟨au, ⟨some b, n, c⟩, ⟨kd, ⟨tc, tk⟩, th, pa, nm, dr, dg, sz⟩, tg⟩, [])
    | _ => none
  | _ => none
theorem list_inj {a b : ByteArray} (h : a.data.toList = b.data.toList) : a = b := ByteArray.ext (Array.toList_inj.1 h)
def ndE : Enc Nx where
  R := rNx
  v := Nx.v
  d := dNx
  reads x := by
    obtain ⟨au, ⟨a, n, c⟩, ⟨kd, ⟨tc, tk⟩, th, pa, nm, dr, dg, sz⟩, tg⟩ := x
    cases a <;> rfl
  inv x y h := by
    unfold rNx at h
    split at h
    · rename_i cs
      split at h
      · rename_i e
        obtain ⟨l⟩ := cs
        dsimp only at e
        subst e
        exact ⟨⟨_, ⟨none, _, _⟩, ⟨_, ⟨_, _⟩, _, _, _, _, _, _⟩, _⟩, rfl, (Option.some.inj h).symm⟩
      · rename_i e
        obtain ⟨l⟩ := cs
        dsimp only at e
        subst e
        exact ⟨⟨_, ⟨some _, _, _⟩, ⟨_, ⟨_, _⟩, _, _, _, _, _, _⟩, _⟩, rfl, (Option.some.inj h).symm⟩
      · cases h
    · cases h
  inj a b h := by
    obtain ⟨au, ⟨a, n, c⟩, ⟨kd, ⟨tc, tk⟩, th, pa, nm, dr, dg, sz⟩, tg⟩ := a
    obtain ⟨au', ⟨a', n', c'⟩, ⟨kd', ⟨tc', tk'⟩, th', pa', nm', dr', dg', sz'⟩, tg'⟩ := b
    simp only [dNx, DataW.agg.injEq, List.cons.injEq, DataW.lit.injEq, Lit.int.injEq, Lit.string.injEq, Lit.bool.injEq, true_and, and_true] at h
    obtain ⟨rfl, h2, h3, h4, rfl, rfl, rfl, rfl, rfl, h10, rfl, h12, rfl, h14⟩ := h
    obtain rfl := Sl.num_inj h2
    obtain rfl : n = n' := by omega
    obtain rfl : c = c' := by omega
    obtain rfl := list_inj h10
    obtain rfl := list_inj h12
    obtain rfl := list_inj h14
    rfl
  ne a h := by unfold dNx at h; cases h
def rU (v : Value) : Option (DataW Unit × List MemPlace) :=
  match v with
  | .int .u64 a => some (.lit (.int .u64 a), [])
  | _ => none
def u64E : Enc Int where
  R := rU
  v a := .int .u64 a
  d a := .lit (.int .u64 a)
  reads _ := rfl
  inv x y h := by
    unfold rU at h
    split at h
    · exact ⟨_, rfl, (Option.some.inj h).symm⟩
    · cases h
  inj a b h := by
    simp only [DataW.lit.injEq, Lit.int.injEq, true_and] at h
    exact h
  ne a h := by cases h
/-- A node's place in a map; sl: where its parents lie. -/
def nx (sl : ByteArray → Sl) (h : ByteArray) (n : Nd) : Nx := ⟨n.au, sl h, n.op, n.tg⟩
def told (sl : ByteArray → Sl) (l : Ns) : List (ByteArray × Nx) := l.map fun x => (x.1, nx sl x.1 x.2)
theorem nx_v (sl : ByteArray → Sl) (h : ByteArray) (n : Nd) : (nx sl h n).v = n.v (sl h).v := rfl
theorem lk_told (sl : ByteArray → Sl) (s : ByteArray) : ∀ l : Ns, lk (told sl l) s = (lk l s).map (nx sl s)
  | [] => rfl
  | x :: r => by
    show (if s = x.1 then some (nx sl x.1 x.2) else lk (told sl r) s) = (if s = x.1 then some x.2 else lk r s).map (nx sl s)
    by_cases e : s = x.1
    · subst e; simp
    · rw [if_neg e, if_neg e, lk_told sl s r]
theorem told_keys (sl : ByteArray → Sl) (l : Ns) : (told sl l).map (·.1) = l.map (·.1) := by simp [told, Function.comp_def]
theorem told_append (sl : ByteArray → Sl) (l r : Ns) : told sl (l ++ r) = told sl l ++ told sl r := by simp [told]
theorem told_length (sl : ByteArray → Sl) (l : Ns) : (told sl l).length = l.length := by simp [told]
theorem told_cut (sl : ByteArray → Sl) (s : ByteArray) : ∀ l : Ns, cut (told sl l) s = told sl (cut l s)
  | [] => rfl
  | x :: r => by
    have ih := told_cut sl s r
    unfold cut told at *
    simp only [List.map_cons, List.filter_cons]
    by_cases e : x.1 = s <;> simp [e, ih]
theorem told_sl {sl sl' : ByteArray → Sl} {l : Ns} (h : ∀ x ∈ l, sl' x.1 = sl x.1) : told sl' l = told sl l := by
  unfold told
  refine List.map_congr_left fun x hx => ?_
  unfold nx
  rw [h x hx]
/-- What is a Dag's own in memory. -/
structure Fp where
  b : Nat
  nm : Nat
  hm : Nat
  wm : Nat
  rv : Value
  ov : Value
  cv : Value
def Fp.has (F : Fp) (x : Nat) : Prop := x = F.b ∨ x = F.nm ∨ x = F.hm ∨ x = F.wm ∨ F.ov.ownBlock = some x ∨ F.cv.ownBlock = some x
/-- Nothing that was there has turned but what is F's. -/
structure Tn (F : Fp) (w w' : World) : Prop where
  os : w'.os = w.os
  tape : w'.tape = w.tape
  output : w'.output = w.output
  size : w.heap.size ≤ w'.heap.size
  block : ∀ k, k < w.heap.size → ¬ F.has k → w'.heap[k]? = w.heap[k]?
/-- What is F2's was F's, or is new. -/
def Fp.to (F F2 : Fp) (w : World) : Prop := ∀ x, F2.has x → F.has x ∨ w.heap.size ≤ x
theorem Fp.to_refl (F : Fp) (w : World) : F.to F w := fun _ h => .inl h
theorem Tn.refl (F : Fp) (w : World) : Tn F w w := ⟨rfl, rfl, rfl, Nat.le_refl _, fun _ _ _ => rfl⟩
theorem Tn.trans {F F2 : Fp} {w w' w'' : World} (h : Tn F w w') (k : Tn F2 w' w'') (hn : F.to F2 w) : Tn F w w'' :=
  ⟨k.os.trans h.os, k.tape.trans h.tape, k.output.trans h.output, Nat.le_trans h.size k.size, fun i hi hf => (k.block i (Nat.lt_of_lt_of_le hi h.size) (fun e => by
    rcases hn i e with e | e
    · exact hf e
    · omega)).trans (h.block i hi hf)⟩
theorem Fp.to_trans {F F2 F3 : Fp} {w w' : World} (h : F.to F2 w) (k : F2.to F3 w') (hs : w.heap.size ≤ w'.heap.size) : F.to F3 w := fun x hx => by
  rcases k x hx with h1 | h1
  · exact h x h1
  · exact .inr (Nat.le_trans hs h1)
theorem Tn.of_below {F : Fp} {w w' : World} (h : Below w.heap.size w w') : Tn F w w' := ⟨h.os, h.tape, h.output, h.size, fun k hk _ => h.block k hk⟩
theorem Tn.of_grown {F : Fp} {w w' : World} {b : Nat} (h : w.grownBy w' (some b)) (hb : F.has b) : Tn F w w' := ⟨h.os, h.tape, h.output, h.size, fun k hk hf => h.block k hk fun e => hf (by cases e; exact hb)⟩
theorem Tn.of_set {F : Fp} (w : World) (i : Nat) (v : Value) : Tn F w (w.setCell ⟨F.b, i, none⟩ v) :=
  have k := (Below.refl F.b w).setCell (p := ⟨F.b, i, none⟩) (Nat.le_refl _) v
  ⟨k.os, k.tape, k.output, k.size, fun x _ hx => Below.heap_setCell w _ v x (fun e => hx (.inl e))⟩
theorem Tn.below {F : Fp} {w w' : World} {base : Nat} (h : Tn F w w') (hb : ∀ x, F.has x → base ≤ x) (hs : base ≤ w.heap.size) : Below base w w' :=
  ⟨h.os, h.tape, h.output, h.size, fun k hk => h.block k (by omega) fun e => by have := hb k e; omega⟩
/-- Where the parents of nodes lie: outside of F. -/
structure Par (F : Fp) (sl : ByteArray → Sl) (l : Ns) (w : World) : Prop where
  reads : ∀ x ∈ l, StrRow.Reads w (sl x.1).v x.2.ps
  out : ∀ x ∈ l, ∀ a, (sl x.1).a = some a → a < w.heap.size ∧ ¬ F.has a
/-- A slice of texts that lies below base. -/
def Low (base : Nat) (w : World) (v : Value) (ks : List ByteArray) : Prop := ∀ w' : World, (∀ x, x < base → w'.heap[x]? = w.heap[x]?) → w.heap.size ≤ w'.heap.size → StrRow.Reads w' v ks
theorem Low.reads {base : Nat} {w : World} {v : Value} {ks : List ByteArray} (h : Low base w v ks) : StrRow.Reads w v ks := h w (fun _ _ => rfl) (Nat.le_refl _)
theorem Low.kept {base : Nat} {w w' : World} {v : Value} {ks : List ByteArray} (h : Low base w v ks) (hs : w.heap.size ≤ w'.heap.size) (hb : ∀ x, x < base → w'.heap[x]? = w.heap[x]?) : Low base w' v ks := fun w2 h1 h2 => h w2 (fun x hx => (h1 x hx).trans (hb x hx)) (Nat.le_trans hs h2)
/-- What a Dag holds, piece by piece: the nodes' map, the order, the heads, those that wait, in which order they came. -/
structure Rw where
  N : Ns
  O : List ByteArray
  H : List (ByteArray × Int)
  W : Ns
  C : List ByteArray
/-- A Dag in memory: S its type, base: all that is its own lies from there on. -/
structure DagR (P : Program) (S base : Nat) (F : Fp) (ks : List ByteArray) (sl : ByteArray → Sl) (r : Rw) (w : World) : Prop where
  row : w.heap[F.b]? = some (.cells #[F.rv, .map (some F.nm), F.ov, .map (some F.hm), .map (some F.wm), F.cv] S (0, 0))
  ring : Low base w F.rv ks
  nodes : MapL P ndE w F.nm (told sl r.N)
  order : w.ownsRow base 9 1 F.ov r.O.length (r.O.map Value.string)
  heads : MapL P u64E w F.hm r.H
  waiting : MapL P ndE w F.wm (told sl r.W)
  came : w.ownsRow base 9 1 F.cv r.C.length (r.C.map Value.string)
  par : Par F sl (r.N ++ r.W) w
  ne1 : F.nm ≠ F.hm
  ne2 : F.nm ≠ F.wm
  ne3 : F.hm ≠ F.wm
  ne4 : ∀ x, F.ov.ownBlock = some x → F.cv.ownBlock ≠ some x
  nine : S ≠ 9
  base1 : base ≤ F.b ∧ base ≤ F.nm ∧ base ≤ F.hm ∧ base ≤ F.wm
variable {P : Program} {S base : Nat} {F : Fp} {ks : List ByteArray} {sl : ByteArray → Sl} {r : Rw} {d : Dg} {w w' : World}
theorem reads_kept {v : Value} {xs : List ByteArray} (h : StrRow.Reads w v xs) (hs : w.heap.size ≤ w'.heap.size) (hb : ∀ a, v.ownBlock = some a → a < w.heap.size → w'.heap[a]? = w.heap[a]?) : StrRow.Reads w' v xs := by
  rcases h with h | ⟨b, off, cap, h1, h2, h3, h4⟩
  · exact .inl h
  · refine .inr ⟨b, off, cap, h1, Nat.lt_of_lt_of_le h2 hs, h3, fun j s hj => ?_⟩
    have e := hb b (by rw [h1]; rfl) h2
    have := h4 j s hj
    unfold World.cell? at this ⊢
    rw [← this]
    simp only [e]
theorem low_of {v : Value} {xs : List ByteArray} (h : StrRow.Reads w v xs) (k : Below w.heap.size w w') : Low w.heap.size w' v xs := fun _ h1 h2 => reads_kept h (Nat.le_trans k.size h2) fun a _ hl => (h1 a hl).trans (k.block a hl)
theorem Sl.own (s : Sl) : s.v.ownBlock = s.a := by
  obtain ⟨a, n, c⟩ := s
  cases a <;> rfl
theorem Par.kept {l : Ns} (h : Par F sl l w) (k : Tn F w w') : Par F sl l w' :=
  ⟨fun x hx => reads_kept (h.reads x hx) k.size fun a ha hl => k.block a hl (h.out x hx a (by rw [← Sl.own]; exact ha)).2, fun x hx a ha => ⟨Nat.lt_of_lt_of_le (h.out x hx a ha).1 k.size, (h.out x hx a ha).2⟩⟩
theorem Par.to {l : Ns} {F2 : Fp} (h : Par F sl l w) (k : F.to F2 w) : Par F2 sl l w :=
  ⟨h.reads, fun x hx a ha => ⟨(h.out x hx a ha).1, fun e => by
    rcases k a e with e | e
    · exact (h.out x hx a ha).2 e
    · have := (h.out x hx a ha).1
      omega⟩⟩
theorem Par.sub {l r : Ns} (h : Par F sl l w) (hs : ∀ x ∈ r, x ∈ l) : Par F sl r w := ⟨fun x hx => h.reads x (hs x hx), fun x hx => h.out x (hs x hx)⟩
theorem DagR.hasBase (h : DagR P S base F ks sl r w) : ∀ x, F.has x → base ≤ x := by
  rintro x (rfl | rfl | rfl | rfl | e | e)
  · exact h.base1.1
  · exact h.base1.2.1
  · exact h.base1.2.2.1
  · exact h.base1.2.2.2
  · exact (h.order.lt x e).1
  · exact (h.came.lt x e).1
theorem DagR.lt (h : DagR P S base F ks sl r w) : ∀ x, F.has x → x < w.heap.size := by
  rintro x (rfl | rfl | rfl | rfl | e | e)
  · exact (Array.getElem?_eq_some_iff.1 h.row).1
  · exact h.nodes.lt
  · exact h.heads.lt
  · exact h.waiting.lt
  · exact (h.order.lt x e).2
  · exact (h.came.lt x e).2
theorem DagR.size (h : DagR P S base F ks sl r w) : base ≤ w.heap.size := Nat.le_trans h.base1.1 (Nat.le_of_lt (h.lt _ (.inl rfl)))
theorem own_low {base e : Nat} {v : Value} {k : Nat} {xs : List Value} (h : w.ownsRow base e 1 v k xs) (hb : ∀ g, v.ownBlock = some g → w'.heap[g]? = w.heap[g]?) : w'.ownsRow base e 1 v k xs := by
  refine ⟨h.1, ?_⟩
  rcases h.2 with h | ⟨g, cap, cur, rfl, h2, h3, h4⟩
  · exact .inl h
  · exact .inr ⟨g, cap, cur, rfl, h2, (hb g rfl).trans h3, h4⟩
/-- Nothing of F has turned. -/
theorem DagR.below (h : DagR P S base F ks sl r w) (k : Below w.heap.size w w') : DagR P S base F ks sl r w' where
  row := (k.block _ (h.lt _ (.inl rfl))).trans h.row
  ring := h.ring.kept k.size fun x hx => k.block x (Nat.lt_of_lt_of_le hx h.size)
  nodes := h.nodes.below k
  order := own_low h.order fun g hg => k.block g (h.lt _ (.inr (.inr (.inr (.inr (.inl hg))))))
  heads := h.heads.below k
  waiting := h.waiting.below k
  came := own_low h.came fun g hg => k.block g (h.lt _ (.inr (.inr (.inr (.inr (.inr hg))))))
  par := h.par.kept (.of_below k)
  ne1 := h.ne1
  ne2 := h.ne2
  ne3 := h.ne3
  ne4 := h.ne4
  nine := h.nine
  base1 := h.base1
theorem DagR.cells (h : DagR P S base F ks sl r w) :
    w.cell? ⟨F.b, 0, none⟩ = some F.rv ∧ w.cell? ⟨F.b, 1, none⟩ = some (.map (some F.nm)) ∧ w.cell? ⟨F.b, 2, none⟩ = some F.ov ∧ w.cell? ⟨F.b, 3, none⟩ = some (.map (some F.hm)) ∧ w.cell? ⟨F.b, 4, none⟩ = some (.map (some F.wm)) ∧ w.cell? ⟨F.b, 5, none⟩ = some F.cv := by
  refine ⟨?_, ?_, ?_, ?_, ?_, ?_⟩ <;> (rw [cell_of_row _ _ _ _ _ _ h.row]; rfl)
theorem DagR.frozen (h : DagR P S base F ks sl r w) (i : Nat) : w.frozen? ⟨F.b, i, none⟩ = false := frozen_of_row _ _ _ _ _ h.row
theorem DagR.ringAt (h : DagR P S base F ks sl r w) : Mac.RingAt w (.pointer (some ⟨F.b, 0, none⟩)) ks := ⟨F.b, F.rv, rfl, h.cells.1, h.ring.reads⟩
theorem own_isrow {base e k n g : Nat} {v : Value} {xs : List Value} (h : w.ownsRow base e k v n xs) (hg : v.ownBlock = some g) : ∃ cs, w.heap[g]? = some (.cells cs e (0, 0)) := by
  obtain ⟨_, ⟨rfl, _⟩ | ⟨g', cap, cur, rfl, _, h3, _⟩⟩ := h
  · cases hg
  · cases hg
    exact ⟨_, h3⟩
/-- A map's block is none of the rows. -/
theorem DagR.apart (h : DagR P S base F ks sl r w) {x : Nat} (hx : ∃ es cl, w.heap[x]? = some (.map es cl)) : x ≠ F.b ∧ F.ov.ownBlock ≠ some x ∧ F.cv.ownBlock ≠ some x := by
  obtain ⟨es, cl, hx⟩ := hx
  refine ⟨fun e => ?_, fun e => ?_, fun e => ?_⟩
  · rw [e, h.row] at hx; cases hx
  · obtain ⟨cs, e⟩ := own_isrow h.order e; rw [e] at hx; cases hx
  · obtain ⟨cs, e⟩ := own_isrow h.came e; rw [e] at hx; cases hx
theorem DagR.rowNe (h : DagR P S base F ks sl r w) : F.ov.ownBlock ≠ some F.b ∧ F.cv.ownBlock ≠ some F.b := by
  refine ⟨fun e => ?_, fun e => ?_⟩
  · obtain ⟨cs, e⟩ := own_isrow h.order e; rw [h.row] at e; cases e; exact h.nine rfl
  · obtain ⟨cs, e⟩ := own_isrow h.came e; rw [h.row] at e; cases e; exact h.nine rfl
/-- The nodes' map has turned. -/
theorem DagR.setN (h : DagR P S base F ks sl r w) {N : Ns} (hg : w.grownBy w' (some F.nm)) (hm : MapL P ndE w' F.nm (told sl N)) (hp : Par F sl (N ++ r.W) w) : DagR P S base F ks sl ⟨N, r.O, r.H, r.W, r.C⟩ w' ∧ Tn F w w' := by
  have t : Tn F w w' := .of_grown hg (.inr (.inl rfl))
  have ha := h.apart h.nodes.kind
  have hb : ∀ x, x < w.heap.size → x ≠ F.nm → w'.heap[x]? = w.heap[x]? := fun x hx hn => hg.block x hx fun e => hn (by cases e; rfl)
  refine ⟨⟨(hb _ (h.lt _ (.inl rfl)) ha.1.symm).trans h.row, h.ring.kept t.size fun x hx => hb x (Nat.lt_of_lt_of_le hx h.size) (fun e => by have := h.base1.2.1; omega), hm, own_low h.order fun g hg => hb g (h.lt _ (.inr (.inr (.inr (.inr (.inl hg)))))) fun e => ha.2.1 (e ▸ hg), h.heads.kept (hb _ h.heads.lt h.ne1.symm), h.waiting.kept (hb _ h.waiting.lt h.ne2.symm), own_low h.came fun g hg => hb g (h.lt _ (.inr (.inr (.inr (.inr (.inr hg)))))) fun e => ha.2.2 (e ▸ hg), hp.kept t, h.ne1, h.ne2, h.ne3, h.ne4, h.nine, h.base1⟩, t⟩
/-- The heads' map has turned. -/
theorem DagR.setH (h : DagR P S base F ks sl r w) {H : List (ByteArray × Int)} (hg : w.grownBy w' (some F.hm)) (hm : MapL P u64E w' F.hm H) : DagR P S base F ks sl ⟨r.N, r.O, H, r.W, r.C⟩ w' ∧ Tn F w w' := by
  have t : Tn F w w' := .of_grown hg (.inr (.inr (.inl rfl)))
  have ha := h.apart h.heads.kind
  have hb : ∀ x, x < w.heap.size → x ≠ F.hm → w'.heap[x]? = w.heap[x]? := fun x hx hn => hg.block x hx fun e => hn (by cases e; rfl)
  refine ⟨⟨(hb _ (h.lt _ (.inl rfl)) ha.1.symm).trans h.row, h.ring.kept t.size fun x hx => hb x (Nat.lt_of_lt_of_le hx h.size) (fun e => by have := h.base1.2.2.1; omega), h.nodes.kept (hb _ h.nodes.lt h.ne1), own_low h.order fun g hg => hb g (h.lt _ (.inr (.inr (.inr (.inr (.inl hg)))))) fun e => ha.2.1 (e ▸ hg), hm, h.waiting.kept (hb _ h.waiting.lt h.ne3.symm), own_low h.came fun g hg => hb g (h.lt _ (.inr (.inr (.inr (.inr (.inr hg)))))) fun e => ha.2.2 (e ▸ hg), h.par.kept t, h.ne1, h.ne2, h.ne3, h.ne4, h.nine, h.base1⟩, t⟩
/-- The map of those that wait has turned. -/
theorem DagR.setW (h : DagR P S base F ks sl r w) {W : Ns} (hg : w.grownBy w' (some F.wm)) (hm : MapL P ndE w' F.wm (told sl W)) (hp : Par F sl (r.N ++ W) w) : DagR P S base F ks sl ⟨r.N, r.O, r.H, W, r.C⟩ w' ∧ Tn F w w' := by
  have t : Tn F w w' := .of_grown hg (.inr (.inr (.inr (.inl rfl))))
  have ha := h.apart h.waiting.kind
  have hb : ∀ x, x < w.heap.size → x ≠ F.wm → w'.heap[x]? = w.heap[x]? := fun x hx hn => hg.block x hx fun e => hn (by cases e; rfl)
  refine ⟨⟨(hb _ (h.lt _ (.inl rfl)) ha.1.symm).trans h.row, h.ring.kept t.size fun x hx => hb x (Nat.lt_of_lt_of_le hx h.size) (fun e => by have := h.base1.2.2.2; omega), h.nodes.kept (hb _ h.nodes.lt h.ne2), own_low h.order fun g hg => hb g (h.lt _ (.inr (.inr (.inr (.inr (.inl hg)))))) fun e => ha.2.1 (e ▸ hg), h.heads.kept (hb _ h.heads.lt h.ne3), hm, own_low h.came fun g hg => hb g (h.lt _ (.inr (.inr (.inr (.inr (.inr hg)))))) fun e => ha.2.2 (e ▸ hg), hp.kept t, h.ne1, h.ne2, h.ne3, h.ne4, h.nine, h.base1⟩, t⟩
/-- Another order's row, grown out of the old one or new, is laid into the Dag's block. -/
theorem DagR.setO (h : DagR P S base F ks sl r w) {O : List ByteArray} {v : Value} (hg : w.grownBy w' F.ov.ownBlock) (ho : w'.ownsRow base 9 1 v O.length (O.map Value.string)) (hv : ∀ x, v.ownBlock = some x → F.ov.ownBlock = some x ∨ w.heap.size ≤ x) :
    DagR P S base { F with ov := v } ks sl ⟨r.N, O, r.H, r.W, r.C⟩ (w'.setCell ⟨F.b, 2, none⟩ v) ∧ Tn F w (w'.setCell ⟨F.b, 2, none⟩ v) ∧ F.to { F with ov := v } w := by
  have t1 : Tn F w w' := ⟨hg.os, hg.tape, hg.output, hg.size, fun k hk hf => hg.block k hk fun e => hf (.inr (.inr (.inr (.inr (.inl e.symm)))))⟩
  have t : Tn F w (w'.setCell ⟨F.b, 2, none⟩ v) := t1.trans (.of_set w' 2 v) (F.to_refl w)
  have hto : F.to { F with ov := v } w := by
    rintro x (e | e | e | e | e | e)
    · exact .inl (.inl e)
    · exact .inl (.inr (.inl e))
    · exact .inl (.inr (.inr (.inl e)))
    · exact .inl (.inr (.inr (.inr (.inl e))))
    · rcases hv x e with e | e
      · exact .inl (.inr (.inr (.inr (.inr (.inl e)))))
      · exact .inr e
    · exact .inl (.inr (.inr (.inr (.inr (.inr e)))))
  have hr := h.rowNe
  have hb : ∀ x, x < w.heap.size → x ≠ F.b → F.ov.ownBlock ≠ some x → (w'.setCell ⟨F.b, 2, none⟩ v).heap[x]? = w.heap[x]? := fun x hx h1 h2 => (Below.heap_setCell w' _ v x h1).trans (hg.block x hx fun e => h2 e.symm)
  have h0 : w'.heap[F.b]? = some (.cells #[F.rv, .map (some F.nm), F.ov, .map (some F.hm), .map (some F.wm), F.cv] S (0, 0)) := (hg.block _ (h.lt _ (.inl rfl)) fun e => hr.1 e.symm).trans h.row
  have hvb : v.ownBlock ≠ some F.b := fun e => by
    obtain ⟨cs, e⟩ := own_isrow ho e
    rw [h0] at e
    cases e
    exact h.nine rfl
  refine ⟨⟨?_, h.ring.kept t.size fun x hx => t.block x (Nat.lt_of_lt_of_le hx h.size) (fun e => by have := h.hasBase x e; omega), h.nodes.kept (hb _ h.nodes.lt (h.apart h.nodes.kind).1 (h.apart h.nodes.kind).2.1), ?_, h.heads.kept (hb _ h.heads.lt (h.apart h.heads.kind).1 (h.apart h.heads.kind).2.1), h.waiting.kept (hb _ h.waiting.lt (h.apart h.waiting.kind).1 (h.apart h.waiting.kind).2.1), ?_, ?_, h.ne1, h.ne2, h.ne3, ?_, h.nine, h.base1⟩, t, hto⟩
  · rw [heap_setCell_same _ _ _ _ _ _ h0]; rfl
  · exact own_low ho fun g hg => Below.heap_setCell w' _ v g fun e => hvb (by rw [hg]; exact congrArg some e)
  · refine own_low h.came fun g hg => hb g (h.lt _ (.inr (.inr (.inr (.inr (.inr hg)))))) (fun e => hr.2 (e ▸ hg)) fun e => h.ne4 g e hg
  · exact ⟨(h.par.kept t).reads, fun x hx a ha => ⟨((h.par.kept t).out x hx a ha).1, ((h.par.to hto).out x hx a ha).2⟩⟩
  · intro x hx e
    rcases hv x hx with e2 | e2
    · exact h.ne4 x e2 e
    · have := (h.came.lt x e).2; omega
/-- The like for those that came. -/
theorem DagR.setC (h : DagR P S base F ks sl r w) {C : List ByteArray} {v : Value} (hg : w.grownBy w' F.cv.ownBlock) (ho : w'.ownsRow base 9 1 v C.length (C.map Value.string)) (hv : ∀ x, v.ownBlock = some x → F.cv.ownBlock = some x ∨ w.heap.size ≤ x) :
    DagR P S base { F with cv := v } ks sl ⟨r.N, r.O, r.H, r.W, C⟩ (w'.setCell ⟨F.b, 5, none⟩ v) ∧ Tn F w (w'.setCell ⟨F.b, 5, none⟩ v) ∧ F.to { F with cv := v } w := by
  have t1 : Tn F w w' := ⟨hg.os, hg.tape, hg.output, hg.size, fun k hk hf => hg.block k hk fun e => hf (.inr (.inr (.inr (.inr (.inr e.symm)))))⟩
  have t : Tn F w (w'.setCell ⟨F.b, 5, none⟩ v) := t1.trans (.of_set w' 5 v) (F.to_refl w)
  have hto : F.to { F with cv := v } w := by
    rintro x (e | e | e | e | e | e)
    · exact .inl (.inl e)
    · exact .inl (.inr (.inl e))
    · exact .inl (.inr (.inr (.inl e)))
    · exact .inl (.inr (.inr (.inr (.inl e))))
    · exact .inl (.inr (.inr (.inr (.inr (.inl e)))))
    · rcases hv x e with e | e
      · exact .inl (.inr (.inr (.inr (.inr (.inr e)))))
      · exact .inr e
  have hr := h.rowNe
  have hb : ∀ x, x < w.heap.size → x ≠ F.b → F.cv.ownBlock ≠ some x → (w'.setCell ⟨F.b, 5, none⟩ v).heap[x]? = w.heap[x]? := fun x hx h1 h2 => (Below.heap_setCell w' _ v x h1).trans (hg.block x hx fun e => h2 e.symm)
  have h0 : w'.heap[F.b]? = some (.cells #[F.rv, .map (some F.nm), F.ov, .map (some F.hm), .map (some F.wm), F.cv] S (0, 0)) := (hg.block _ (h.lt _ (.inl rfl)) fun e => hr.2 e.symm).trans h.row
  have hvb : v.ownBlock ≠ some F.b := fun e => by
    obtain ⟨cs, e⟩ := own_isrow ho e
    rw [h0] at e
    cases e
    exact h.nine rfl
  refine ⟨⟨?_, h.ring.kept t.size fun x hx => t.block x (Nat.lt_of_lt_of_le hx h.size) (fun e => by have := h.hasBase x e; omega), h.nodes.kept (hb _ h.nodes.lt (h.apart h.nodes.kind).1 (h.apart h.nodes.kind).2.2), ?_, h.heads.kept (hb _ h.heads.lt (h.apart h.heads.kind).1 (h.apart h.heads.kind).2.2), h.waiting.kept (hb _ h.waiting.lt (h.apart h.waiting.kind).1 (h.apart h.waiting.kind).2.2), ?_, ?_, h.ne1, h.ne2, h.ne3, ?_, h.nine, h.base1⟩, t, hto⟩
  · rw [heap_setCell_same _ _ _ _ _ _ h0]; rfl
  · refine own_low h.order fun g hg => hb g (h.lt _ (.inr (.inr (.inr (.inr (.inl hg)))))) (fun e => hr.1 (e ▸ hg)) fun e => h.ne4 g hg e
  · exact own_low ho fun g hg => Below.heap_setCell w' _ v g fun e => hvb (by rw [hg]; exact congrArg some e)
  · exact ⟨(h.par.kept t).reads, fun x hx a ha => ⟨((h.par.kept t).out x hx a ha).1, ((h.par.to hto).out x hx a ha).2⟩⟩
  · intro x hx e
    rcases hv x e with e2 | e2
    · exact h.ne4 x hx e2
    · have := (h.order.lt x hx).2; omega
/-- What a Dag that is whole holds. -/
def Dg.raw (d : Dg) : Rw := ⟨d.taken, d.taken.map (·.1), hds d.taken, d.waits, d.waits.map (·.1)⟩
structure DagAt (P : Program) (S base : Nat) (F : Fp) (ks : List ByteArray) (sl : ByteArray → Sl) (d : Dg) (w : World) : Prop where
  r : DagR P S base F ks sl d.raw w
  ok : d.Ok
theorem DagAt.below (h : DagAt P S base F ks sl d w) (k : Below w.heap.size w w') : DagAt P S base F ks sl d w' := ⟨h.r.below k, h.ok⟩
/-- A call's end: the Dag is another, in its place. -/
def Goes (P : Program) (S base : Nat) (F : Fp) (ks : List ByteArray) (d : Dg) (w w' : World) : Prop :=
  ∃ F2 sl, F2.b = F.b ∧ DagAt P S base F2 ks sl d w' ∧ Tn F w w' ∧ F.to F2 w
theorem Goes.trans {F2 : Fp} {w'' : World} {d2 : Dg} (hb : F2.b = F.b) (k : Tn F w w') (hn : F.to F2 w) (h : Goes P S base F2 ks d2 w' w'') : Goes P S base F ks d2 w w'' := by
  obtain ⟨F3, sl3, e, h3, k3, n3⟩ := h
  exact ⟨F3, sl3, e.trans hb, h3, k.trans k3 hn, Fp.to_trans hn n3 k.size⟩
theorem DagAt.goes (h : DagAt P S base F ks sl d w) (k : Below w.heap.size w w') : Goes P S base F ks d w w' := ⟨F, sl, rfl, h.below k, .of_below k, F.to_refl w⟩
end Go.Dag
