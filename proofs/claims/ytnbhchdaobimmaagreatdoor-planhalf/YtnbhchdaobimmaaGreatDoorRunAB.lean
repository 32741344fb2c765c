/- Several texts in one: MoveMem, Tail. -/
import Derived.Test.YtnbhchdaobimmaaGreatDoorRows
import Derived.Test.YtnbhchdaobimmaaGreatDoorMovPure
import Derived.StillTail
import Derived.Deep.Quiet
/- A tree of things in memory: a block, a map, a row of what was done. -/
namespace Go.Mov
open Go.RowKit Go.Opn Go.Stamp Go.MapInt Go.Maps
open Go.MapFun (Enc got)
def dTh (x : Th) : DataW Unit := .agg [.lit (.int .u64 x.id), .lit (.int .u64 x.par), .lit (.string x.name.data.toList), .lit (.bool x.dir), .lit (.string x.dg.data.toList), .lit (.int .i64 x.size)]
def rTh (v : Value) : Option (DataW Unit × List MemPlace) :=
 match v with
 | .agg cs => match cs.toList with
  | [.int .u64 i, .int .u64 p, .string nm, .bool d, .string g, .int .i64 z] => some (dTh ⟨i, p, nm, d, g, z⟩, [])
  | _ => none
 | _ => none
def thE : Enc Th where
 R := rTh
 v := Th.v
 d := dTh
 reads _ := rfl
 inv x y h := by
  unfold rTh at h
  split at h
  ·rename_i cs
   split at h
   ·rename_i e
    obtain ⟨l⟩ := cs
    dsimp only at e
    subst e
    exact ⟨⟨_, _, _, _, _, _⟩, rfl, (Option.some.inj h).symm⟩
   ·cases h
  ·cases h
 inj a b h := by
  obtain ⟨i, p, nm, d, g, z⟩ := a
  obtain ⟨i', p', nm', d', g', z'⟩ := b
  simp only [dTh, DataW.agg.injEq, List.cons.injEq, DataW.lit.injEq, Lit.int.injEq, Lit.string.injEq, Lit.bool.injEq, true_and, and_true] at h
  obtain ⟨rfl, rfl, h3, rfl, h5, rfl⟩ := h
  obtain rfl := list_inj h3
  obtain rfl := list_inj h5
  rfl
 ne a h := by unfold dTh at h; cases h
def pr (x : Th) : Int × Th := (x.id, x)
theorem lk_pr (k : Int) : ∀ l : Ths, lk (l.map pr) k = look l k
 | [] => rfl
 | x :: r => by
  show (if k = x.id then some x else lk (r.map pr) k) = if k = x.id then some x else look r k
  rw [lk_pr k r]
theorem nodup_pr {l : Ths} (h : Rises l) : ((l.map pr).map (·.1)).Nodup := by
 rw [List.map_map]
 refine List.pairwise_map.2 (h.imp ?_)
 intro a b hab (e : a.id = b.id)
 omega
theorem cut_pr (k : Int) : ∀ l : Ths, cut (l.map pr) k = (del l k).map pr
 | [] => rfl
 | x :: r => by
  have ih := cut_pr k r
  unfold cut del at *
  simp only [List.map_cons, List.filter_cons]
  have e1 : (pr x).1 = x.id := rfl
  rw [e1]
  by_cases e : x.id = k <;> simp [e, ih]
variable {P : Program} {kt T X : Nat} {w w' : World} {mb : Option Nat} {t : Ths}
/-- The map mb (or nil) holds these things. -/
def MapAt (P : Program) (kt : Nat) (w : World) (mb : Option Nat) (t : Ths) : Prop := (mb = none ∧ t = []) ∨ ∃ b, mb = some b ∧ MapL P kt thE w b (t.map pr)
theorem MapAt.lt (h : MapAt P kt w mb t) {b : Nat} (hb : mb = some b) : b < w.heap.size := by
 rcases h with ⟨h, _⟩ | ⟨b', h1, h2⟩
 ·rw [h] at hb; cases hb
 ·rw [h1] at hb; cases hb; exact h2.lt
theorem MapAt.kind (h : MapAt P kt w mb t) {b : Nat} (hb : mb = some b) : ∃ es cl, w.heap[b]? = some (.map es cl) := by
 rcases h with ⟨h, _⟩ | ⟨b', h1, h2⟩
 ·rw [h] at hb; cases hb
 ·rw [h1] at hb; cases hb; exact h2.kind
theorem MapAt.kept (h : MapAt P kt w mb t) (hb : ∀ b, mb = some b → w'.heap[b]? = w.heap[b]?) : MapAt P kt w' mb t := by
 rcases h with h | ⟨b, h1, h2⟩
 ·exact .inl h
 ·exact .inr ⟨b, h1, h2.kept (hb b h1)⟩
theorem MapAt.below (h : MapAt P kt w mb t) (k : Below w.heap.size w w') : MapAt P kt w' mb t := h.kept fun _ hb => k.block _ (h.lt hb)
theorem MapAt.look (h : MapAt P kt w mb t) (h9 : P.underlying kt = some (.int .u64)) (hT : P.underlying T = some (.map kt X)) {z : Value} (hz : (zeroValue X).run P w = .ok z w) (c : Bool) (k : Int) (hk : Num k) :
  (Instr.lookup T (.map mb) (.int .u64 k) c).run P w = .ok (got c z thE (Mov.look t k)) w := by
 rcases h with ⟨rfl, rfl⟩ | ⟨b, rfl, h2⟩
 ·rw [MapInt.look_none h9 hT hz c k hk]; rfl
 ·rw [h2.look h9 hT hz c k hk, lk_pr]
theorem MapAt.put {b : Nat} (h : MapAt P kt w (some b) t) (h9 : P.underlying kt = some (.int .u64)) (hT : P.underlying T = some (.map kt X)) (hr : Rises t) (hf : ∀ x ∈ t, x.Fits) (hK : t.length < maxLen) (x : Th) (hx : x.Fits) :
  ∃ w', (Instr.mapUpdate T (.map (some b)) (.int .u64 x.id) x.v).run P w = .ok () w' ∧ MapAt P kt w' (some b) (put t x) ∧ w.grownBy w' (some b) := by
 rcases h with ⟨h, _⟩ | ⟨b', e, h⟩
 ·cases h
 ·cases e
  have hkey := keyOf_int_mk h9 (Num.wf hx.id)
  obtain ⟨h1, h2, D, h3, h4, h5⟩ := h
  have hm := h3.isMap
  have hty := h3.tidy (int_keyed h9)
  obtain ⟨w', hrun, ho', hg⟩ := h3.update (int_keyed h9) hT (by rw [List.length_map]; exact hK) hkey (thE.reads x)
  have hhas := Tells.has h5 hx.id
  rw [lk_pr] at hhas
  have hsz : Maps.size (D.put (.int .u64 x.id) (thE.d x)) = ((Mov.put t x).map pr).length := by
   rw [size_put hty, hhas, h4, List.length_map, List.length_map]
   cases e : Mov.look t x.id with
   | none => rw [length_put_new e]; simp
   | some y => rw [length_put_old hr (by rw [e]; simp)]; simp
  refine ⟨w', hrun, .inr ⟨b, rfl, nodup_pr (rises_put hr), ?_, _, ?_, hsz, fun s hs z => ?_⟩, hg⟩
  ·intro z hz
   obtain ⟨y, hy, rfl⟩ := List.mem_map.1 hz
   rcases (mem_put hr).1 hy with rfl | hy
   ·exact hx.id
   ·exact (hf y hy.1).id
  ·obtain ⟨es, cl, k1, k2, k3, k4⟩ := ho'
   refine ⟨es, cl, k1, k2, ?_, k4⟩
   rw [← hsz, k4]
   simp [Maps.size, length_sorted]
  ·rw [lk_pr]
   by_cases e : s = x.id
   ·subst e
    rw [look_put_same hr]
    exact atKey_put_same hm (by trivial) _ _
   ·rw [look_put_other hr e, atKey_put_other (fun h => e (by injection h)), h5 s hs z, lk_pr]
theorem MapAt.del {b : Nat} (h : MapAt P kt w (some b) t) (h9 : P.underlying kt = some (.int .u64)) (hT : P.underlying T = some (.map kt X)) (k : Int) (hk : Num k) (ty : TypeId) :
  ∃ w', (Builtin.delete_ #[T, kt] ty #[.map (some b), .int .u64 k]).run P w = .ok (.tuple #[]) w' ∧ MapAt P kt w' (some b) (del t k) ∧ w.grownBy w' (some b) := by
 rcases h with ⟨h, _⟩ | ⟨b', e, h⟩
 ·cases h
 ·cases e
  obtain ⟨w', h1, h2, h3⟩ := h.del h9 hT k hk ty
  rw [cut_pr] at h2
  exact ⟨w', h1, .inr ⟨b, rfl, h2⟩, h3⟩
theorem MapAt.made (P : Program) (kt : Nat) (w : World) : MapAt P kt (w.alloc (.map #[] 0)) (some w.heap.size) [] := .inr ⟨_, rfl, MapL.made P kt thE w⟩
/-- The things of the tree in block b. -/
structure ThsAt (P : Program) (kt b : Nat) (mb : Option Nat) (t : Ths) (w : World) : Prop where
 cell : w.cell? ⟨b, 0, none⟩ = some (.map mb)
 map : MapAt P kt w mb t
theorem ThsAt.lt {b : Nat} (h : ThsAt P kt b mb t w) : b < w.heap.size := by
 rcases Nat.lt_or_ge b w.heap.size with k | k
 ·exact k
 ·have := h.cell; simp [World.cell?, Array.getElem?_eq_none k] at this
theorem ThsAt.below {b : Nat} (h : ThsAt P kt b mb t w) (k : Below w.heap.size w w') : ThsAt P kt b mb t w' := ⟨(k.cell (p := ⟨b, 0, none⟩) h.lt).trans h.cell, h.map.below k⟩
/-- What is a tree's own in memory. -/
structure Ft where
 b : Nat
 mb : Option Nat
 lv : Value
def Ft.has (F : Ft) (x : Nat) : Prop := x = F.b ∨ F.mb = some x ∨ F.lv.ownBlock = some x
/-- Nothing that was there has turned but what is F's. -/
structure Tn (F : Ft) (w w' : World) : Prop where
 os : w'.os = w.os
 tape : w'.tape = w.tape
 output : w'.output = w.output
 size : w.heap.size ≤ w'.heap.size
 block : ∀ k, k < w.heap.size → ¬ F.has k → w'.heap[k]? = w.heap[k]?
/-- What is F2's was F's, or is new. -/
def Ft.to (F F2 : Ft) (w : World) : Prop := ∀ x, F2.has x → F.has x ∨ w.heap.size ≤ x
theorem Ft.to_refl (F : Ft) (w : World) : F.to F w := fun _ h => .inl h
theorem Tn.trans {F F2 : Ft} {w w' w'' : World} (h : Tn F w w') (k : Tn F2 w' w'') (hn : F.to F2 w) : Tn F w w'' :=
 ⟨k.os.trans h.os, k.tape.trans h.tape, k.output.trans h.output, Nat.le_trans h.size k.size, fun i hi hf => (k.block i (Nat.lt_of_lt_of_le hi h.size) (fun e => by
  rcases hn i e with e | e
  ·exact hf e
  ·omega)).trans (h.block i hi hf)⟩
theorem Ft.to_trans {F F2 F3 : Ft} {w w' : World} (h : F.to F2 w) (k : F2.to F3 w') (hs : w.heap.size ≤ w'.heap.size) : F.to F3 w := fun x hx => by
 rcases k x hx with e | e
 ·exact h x e
 ·exact .inr (by omega)
theorem Tn.of_below {F : Ft} {w w' : World} (k : Below w.heap.size w w') : Tn F w w' := ⟨k.os, k.tape, k.output, k.size, fun i hi _ => k.block i hi⟩
/-- All from some block on: what was there stands. -/
theorem Tn.below {F : Ft} {w w' : World} {n : Nat} (k : Tn F w w') (hF : ∀ x, F.has x → n ≤ x) (hn : n ≤ w.heap.size) : Below n w w' :=
 ⟨k.os, k.tape, k.output, k.size, fun i hi => k.block i (by omega) fun e => by have := hF i e; omega⟩
/-- The cells of what was done. -/
def rowOf (l : List En) : List Value := (sps [] l).flatMap Sp.cs
/-- A tree in block b: operations l, u taken back. -/
structure TreeAt (P : Program) (kt Tt Ts base : Nat) (F : Ft) (l : List En) (u : Int) (w : World) : Prop where
 blk : w.heap[F.b]? = some (.cells #[.map F.mb, F.lv, .int .i64 u] Tt (0, 0))
 map : MapAt P kt w F.mb (ths [] l)
 row : w.ownsRow base Ts 17 F.lv l.length (rowOf l)
 low : ∀ x, F.has x → base ≤ x
 fits : ∀ e ∈ l, e.Fits
 ord : Ord l
end Go.Mov
/- A region that draws its order, whose first n operations only read or call functions that stay within a class of worlds, and whose last operations are forced to come behind them in their order: one walk of the text's order serves every order; what is told of a store in the last part is told in the world behind the first part. -/
namespace Go.QTail
variable {P : Program} {ops : Array Oper} {md : Region.Mode} {C : World → Prop}
/-- The first part in whatever order: only its operations come up, each is quiet; then L. -/
def Head (P : Program) (md : Region.Mode) (ops : Array Oper) (C : World → Prop) (n : Nat) (L : Array Bool → Act → Prop) : Nat → Array Bool → Act → Prop
 | 0, listed, a => L listed a
 | f + 1, listed, a => Region.ready md ops listed ≠ [] ∧ ∀ i ∈ Region.ready md ops listed, i < n ∧ qOp P ops C i (Head P md ops C n L f (listed.setIfInBounds i true)) a
theorem Head.any {n g : Nat} {L : Array Bool → Act → Prop} {Q : Exit → Act → World → Prop} (hL : ∀ listed a w, C w → L listed a → wpAny P md ops Q g listed a w) :
  ∀ (f : Nat) (listed : Array Bool) (a : Act) (w : World), C w → Head P md ops C n L f listed a → wpAny P md ops Q (f + g) listed a w := by
 intro f
 induction f with
 | zero => intro listed a w hw h; rw [Nat.zero_add]; exact hL _ _ _ hw h
 | succ f ih =>
  intro listed a w hw h
  have e : f + 1 + g = (f + g) + 1 := by omega
  rw [e]
  exact ⟨fun h0 => absurd h0 h.1, fun i hi => wpOp_of_qOp hw (fun a' w' hw' h' => ih _ a' w' hw' h') (h.2 i hi).2⟩
theorem Head.first {n i : Nat} {oi : Oper} {v : Value} {L : Array Bool → Act → Prop} (hi : ops[i]? = some oi) (hsel : ∀ (j : Nat) (o : Oper) cs b, ops[j]? = some o → o.op ≠ .select cs b)
  (hs : Region.sinkB md ops n = true) (hc : Region.chainB md ops n = true) (hn : n < ops.size) (hin : i < n) (hdone : ∀ listed a, L listed a → ∀ j ∈ Region.ready md ops listed, n ≤ j) :
  ∀ (f : Nat) (listed : Array Bool) (a : Act), HeadInv md ops n listed →
   (∀ j oj, ops[j]? = some oj → j ≠ i → listed.getD j true = false → (∀ e ∈ oj.after, Region.binds md e = true → e.on ≠ i) → oi.apart ops oj = true) →
   i ∈ Region.ready md ops listed → YieldsIn P ops C oi v a →
   Head P md ops C n L f (listed.setIfInBounds i true) (a.put oi.dst v) → Head P md ops C n L (f + 1) listed a := by
 intro f
 induction f with
 | zero =>
  intro listed a inv _ hr hy H
  refine ⟨fun h => (by rw [h] at hr; cases hr), fun j hj => ?_⟩
  have hjn : j < n := Nat.lt_of_not_le fun h => tail_waits hs hc hn inv _ i rfl hin (mem_ready.1 hr).1 j h hj
  refine ⟨hjn, ?_⟩
  by_cases hji : j = i
  ·subst hji; exact hy.qOp hi H
  ·have := hdone _ _ H j (ready_mono hj hji); omega
 | succ f ih =>
  intro listed a inv hfree hr hy H
  have hun := (mem_ready.1 hr).1
  refine ⟨fun h => (by rw [h] at hr; cases hr), fun j hj => ?_⟩
  have hjn : j < n := Nat.lt_of_not_le fun h => tail_waits hs hc hn inv _ i rfl hin hun j h hj
  refine ⟨hjn, ?_⟩
  by_cases hji : j = i
  ·subst hji; exact hy.qOp hi H
  ·obtain ⟨hjun, oj, hoj, hall⟩ := mem_ready.1 hj
   have hnot : ∀ e ∈ oj.after, Region.binds md e = true → e.on ≠ i := fun e he hb heq => by
    have h1 := hall e he hb
    rw [heq, getD_both hun] at h1
    cases h1
   have h2 := qOp_put hoj (hfree j oj hoj hji hjun hnot) (fun cs b => hsel i oi cs b hi) (fun cs b => hsel j oj cs b hoj) hy (H.2 j (ready_mono hj hji)).2
   refine qOp_mono (fun a' h3 => ih (listed.setIfInBounds j true) a' (inv.set hj hjn) (fun k ok hk hki hkun hno => hfree k ok hk hki ?_ hno) (ready_mono hr (Ne.symm hji)) h3.1 ?_) h2
   ·by_cases hjk : j = k
    ·subst hjk; exact hjun
    ·rw [getD_set_ne true hjk] at hkun; exact hkun
   ·rw [Array.setIfInBounds_comm _ _ hji]; exact h3.2
theorem Head.lex {n g : Nat} {Lq : Act → Prop} (hsel : Region.noSelect ops = true) (hs : Region.sinkB md ops n = true) (hc : Region.chainB md ops n = true) (hn : n < ops.size) :
  ∀ (l : List Oper) (k : Nat) (listed : Array Bool) (a : Act), (∀ j, j < l.length → l[j]? = ops[k + j]?) → k + l.length = n → HeadInv md ops n listed →
  Region.lexHead md ops g l.length k listed = true → wpQuiet P ops C Lq l a →
  Head P md ops C n (fun listed' a' => Region.seqB md ops g n listed' = true ∧ Lq a') l.length listed a := by
 intro l
 induction l with
 | nil =>
  intro k listed a _ hk _ hB h
  have hk' : k = n := by simpa using hk
  subst hk'
  exact ⟨by simpa [Region.lexHead] using hB, h⟩
 | cons o l ih =>
  intro k listed a hl hk inv hB h
  have h0 : ops[k]? = some o := by simpa using (hl 0 (by simp)).symm
  simp only [List.length_cons, Region.lexHead, Bool.and_eq_true] at hB
  obtain ⟨⟨hr, hf⟩, hB'⟩ := hB
  have hkn : k < n := by simp only [List.length_cons] at hk; omega
  have hr' : k ∈ Region.ready md ops listed := by simpa using hr
  have hq : qOp P ops C k (wpQuiet P ops C Lq l) a := by unfold qOp; simp only [h0]; exact h
  obtain ⟨v, hy, hK⟩ := yieldsIn_of_qOp h0 hq
  refine Head.first h0 (Region.noSelect_spec hsel) hs hc hn hkn (fun listed' a' hL => seqB_ready hL.1) l.length listed a inv (Region.free_spec h0 hf) hr' hy (ih (k + 1) _ _ (fun j hj => ?_) ?_ (inv.set hr' hkn) hB' hK)
  ·have := hl (j + 1) (by simp; omega)
   simpa [Nat.add_assoc, Nat.add_comm 1 j] using this
  ·simp only [List.length_cons] at hk; omega
/-- The region: its first n operations quiet in the class C, the rest in its order. -/
theorem wp_region_tail {id : Nat} {Q : Exit → Act → World → Prop} {a : Act} {w : World} {l : List Oper} (C : World → Prop) (n : Nat) (hm : P.follows .mixedOrders = true) (hB : Region.lexTailB .any l.toArray n = true)
  (hC : C { w with drawn := w.drawn + 1 })
  (h : wpQuiet P l.toArray C (fun a' => ∀ w', C w' → wpList P l.toArray Q (l.drop n) a' w') (l.take n) a) : (Code.region id l.toArray true).wp P Q a w := by
 simp only [Region.lexTailB, Bool.and_eq_true, decide_eq_true_eq] at hB
 obtain ⟨⟨⟨⟨hsel, hn⟩, hs⟩, hc⟩, hlex⟩ := hB
 have htl : (l.take n).length = n := by simp at hn ⊢; omega
 have hdl : (l.drop n).length = l.toArray.size - n := by simp
 have inv0 : HeadInv .any l.toArray n (Array.replicate l.toArray.size false) :=
  ⟨by simp, fun j oj _ hl => (by rw [getD_replicate_false] at hl; cases hl), fun t _ ht => getD_in (by simpa using ht) (getD_replicate_false _ _)⟩
 have H := Head.lex (md := .any) (g := l.toArray.size - n) hsel hs hc hn (l.take n) 0 _ a (fun j hj => by
  have hj' : j < n := by rw [htl] at hj; exact hj
  simp [hj']) (by simpa using htl) inv0 (by rw [htl]; exact hlex) h
 refine wp_region_any hm ?_
 have K := Head.any (Q := Q) (g := l.toArray.size - n) (fun listed a' w' hw' hL => by
  have := wpAny_of_seq (md := .any) (Q' := Q) (l.drop n) n listed a' w' (fun j => by simp [List.getElem?_drop]) (by rw [hdl]; exact hL.1) (hL.2 w' hw')
  rwa [hdl] at this) _ _ _ _ hC H
 rw [htl, show n + (l.toArray.size - n) = l.toArray.size by omega] at K
 exact K
end Go.QTail
