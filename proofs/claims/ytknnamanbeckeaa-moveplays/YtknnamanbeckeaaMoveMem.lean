/- A tree of things in memory: a block, a map, a row of what was done. -/
import Derived.Test.YtknnamanbeckeaaRows
import Derived.Test.YtknnamanbeckeaaMovPure
namespace Go.Mov
open Go.RowKit Go.Opn Go.Stamp Go.MapInt Go.Maps
open Go.MapFun (Enc got)
def dTh (x : Th) : DataW Unit := .agg [.lit (.int .u64 x.id), .lit (.int .u64 x.par), .lit (.string x.name.data.toList), .lit (.bool x.dir), .lit (.string x.dg.data.toList), .lit (.int .i64 x.size)]
def rTh (v : Value) : Option (DataW Unit × List MemPlace) :=
  match v with
  | .agg cs => match cs.toList with
    | [.int .u64 i, .int .u64 p, .string nm, .bool d, .string g, .int .i64 z] => some (dTh ⟨i, p, nm, d, g, z⟩, [])
    | _ => none
  | _ => none
def thE : Enc Th where
  R := rTh
  v := Th.v
  d := dTh
  reads _ := rfl
  inv x y h := by
    unfold rTh at h
    split at h
    · rename_i cs
      split at h
      · rename_i e
        obtain ⟨l⟩ := cs
        dsimp only at e
        subst e
        exact ⟨⟨_, _, _, _, _, _⟩, rfl, (Option.some.inj h).symm⟩
      · cases h
    · cases h
  inj a b h := by
    obtain ⟨i, p, nm, d, g, z⟩ := a
    obtain ⟨i', p', nm', d', g', z'⟩ := b
    simp only [dTh, DataW.agg.injEq, List.cons.injEq, DataW.lit.injEq, Lit.int.injEq, Lit.string.injEq, Lit.bool.injEq, true_and, and_true] at h
    obtain ⟨rfl, rfl, h3, rfl, h5, rfl⟩ := h
    obtain rfl := list_inj h3
    obtain rfl := list_inj h5
    rfl
  ne a h := by unfold dTh at h; cases h
def pr (x : Th) : Int × Th := (x.id, x)
theorem lk_pr (k : Int) : ∀ l : Ths, lk (l.map pr) k = look l k
  | [] => rfl
  | x :: r => by
    show (if k = x.id then some x else lk (r.map pr) k) = if k = x.id then some x else look r k
    rw [lk_pr k r]
theorem nodup_pr {l : Ths} (h : Rises l) : ((l.map pr).map (·.1)).Nodup := by
  rw [List.map_map]
  refine List.pairwise_map.2 (h.imp ?_)
  intro a b hab (e : a.id = b.id)
  omega
theorem num_pr {l : Ths} (h : ∀ x ∈ l, x.Fits) : ∀ z ∈ l.map pr, Num z.1 := by
  intro z hz
  obtain ⟨x, hx, rfl⟩ := List.mem_map.1 hz
  exact (h x hx).id
theorem cut_pr (k : Int) : ∀ l : Ths, cut (l.map pr) k = (del l k).map pr
  | [] => rfl
  | x :: r => by
    have ih := cut_pr k r
    unfold cut del at *
    simp only [List.map_cons, List.filter_cons]
    have e1 : (pr x).1 = x.id := rfl
    rw [e1]
    by_cases e : x.id = k <;> simp [e, ih]
variable {P : Program} {kt T X : Nat} {w w' : World} {mb : Option Nat} {t : Ths}
/-- The map mb (or nil) holds these things. -/
def MapAt (P : Program) (kt : Nat) (w : World) (mb : Option Nat) (t : Ths) : Prop := (mb = none ∧ t = []) ∨ ∃ b, mb = some b ∧ MapL P kt thE w b (t.map pr)
theorem MapAt.lt (h : MapAt P kt w mb t) {b : Nat} (hb : mb = some b) : b < w.heap.size := by
  rcases h with ⟨h, _⟩ | ⟨b', h1, h2⟩
  · rw [h] at hb; cases hb
  · rw [h1] at hb; cases hb; exact h2.lt
theorem MapAt.kind (h : MapAt P kt w mb t) {b : Nat} (hb : mb = some b) : ∃ es cl, w.heap[b]? = some (.map es cl) := by
  rcases h with ⟨h, _⟩ | ⟨b', h1, h2⟩
  · rw [h] at hb; cases hb
  · rw [h1] at hb; cases hb; exact h2.kind
theorem MapAt.kept (h : MapAt P kt w mb t) (hb : ∀ b, mb = some b → w'.heap[b]? = w.heap[b]?) : MapAt P kt w' mb t := by
  rcases h with h | ⟨b, h1, h2⟩
  · exact .inl h
  · exact .inr ⟨b, h1, h2.kept (hb b h1)⟩
theorem MapAt.below (h : MapAt P kt w mb t) (k : Below w.heap.size w w') : MapAt P kt w' mb t := h.kept fun _ hb => k.block _ (h.lt hb)
theorem MapAt.look (h : MapAt P kt w mb t) (h9 : P.underlying kt = some (.int .u64)) (hT : P.underlying T = some (.map kt X)) {z : Value} (hz : (zeroValue X).run P w = .ok z w) (c : Bool) (k : Int) (hk : Num k) :
    (Instr.lookup T (.map mb) (.int .u64 k) c).run P w = .ok (got c z thE (Mov.look t k)) w := by
  rcases h with ⟨rfl, rfl⟩ | ⟨b, rfl, h2⟩
  · rw [MapInt.look_none h9 hT hz c k hk]; rfl
  · rw [h2.look h9 hT hz c k hk, lk_pr]
theorem MapAt.put {b : Nat} (h : MapAt P kt w (some b) t) (h9 : P.underlying kt = some (.int .u64)) (hT : P.underlying T = some (.map kt X)) (hr : Rises t) (hf : ∀ x ∈ t, x.Fits) (hK : t.length < maxLen) (x : Th) (hx : x.Fits) :
    ∃ w', (Instr.mapUpdate T (.map (some b)) (.int .u64 x.id) x.v).run P w = .ok () w' ∧ MapAt P kt w' (some b) (put t x) ∧ w.grownBy w' (some b) := by
  rcases h with ⟨h, _⟩ | ⟨b', e, h⟩
  · cases h
  · cases e
    have hkey := keyOf_int_mk h9 (Num.wf hx.id)
    obtain ⟨h1, h2, D, h3, h4, h5⟩ := h
    have hm := h3.isMap
    have hty := h3.tidy (int_keyed h9)
    obtain ⟨w', hrun, ho', hg⟩ := h3.update (int_keyed h9) hT (by rw [List.length_map]; exact hK) hkey (thE.reads x)
    have hhas := Tells.has h5 hx.id
    rw [lk_pr] at hhas
    have hsz : Maps.size (D.put (.int .u64 x.id) (thE.d x)) = ((Mov.put t x).map pr).length := by
      rw [size_put hty, hhas, h4, List.length_map, List.length_map]
      cases e : Mov.look t x.id with
      | none => rw [length_put_new e]; simp
      | some y => rw [length_put_old hr (by rw [e]; simp)]; simp
    refine ⟨w', hrun, .inr ⟨b, rfl, nodup_pr (rises_put hr), ?_, _, ?_, hsz, fun s hs z => ?_⟩, hg⟩
    · intro z hz
      obtain ⟨y, hy, rfl⟩ := List.mem_map.1 hz
      rcases (mem_put hr).1 hy with rfl | hy
      · exact hx.id
      · exact (hf y hy.1).id
    · obtain ⟨es, cl, k1, k2, k3, k4⟩ := ho'
      refine ⟨es, cl, k1, k2, ?_, k4⟩
      rw [← hsz, k4]
      simp [Maps.size, length_sorted]
    · rw [lk_pr]
      by_cases e : s = x.id
      · subst e
        rw [look_put_same hr]
        exact atKey_put_same hm (by trivial) _ _
      · rw [look_put_other hr e, atKey_put_other (fun h => e (by injection h)), h5 s hs z, lk_pr]
theorem MapAt.del {b : Nat} (h : MapAt P kt w (some b) t) (h9 : P.underlying kt = some (.int .u64)) (hT : P.underlying T = some (.map kt X)) (k : Int) (hk : Num k) (ty : TypeId) :
    ∃ w', (Builtin.delete_ #[T, kt] ty #[.map (some b), .int .u64 k]).run P w = .ok (.tuple #[]) w' ∧ MapAt P kt w' (some b) (del t k) ∧ w.grownBy w' (some b) := by
  rcases h with ⟨h, _⟩ | ⟨b', e, h⟩
  · cases h
  · cases e
    obtain ⟨w', h1, h2, h3⟩ := h.del h9 hT k hk ty
    rw [cut_pr] at h2
    exact ⟨w', h1, .inr ⟨b, rfl, h2⟩, h3⟩
theorem MapAt.made (P : Program) (kt : Nat) (w : World) : MapAt P kt (w.alloc (.map #[] 0)) (some w.heap.size) [] := .inr ⟨_, rfl, MapL.made P kt thE w⟩
/-- The things of the tree in block b. -/
structure ThsAt (P : Program) (kt b : Nat) (mb : Option Nat) (t : Ths) (w : World) : Prop where
  cell : w.cell? ⟨b, 0, none⟩ = some (.map mb)
  map : MapAt P kt w mb t
theorem ThsAt.lt {b : Nat} (h : ThsAt P kt b mb t w) : b < w.heap.size := by
  rcases Nat.lt_or_ge b w.heap.size with k | k
  · exact k
  · have := h.cell; simp [World.cell?, Array.getElem?_eq_none k] at this
theorem ThsAt.below {b : Nat} (h : ThsAt P kt b mb t w) (k : Below w.heap.size w w') : ThsAt P kt b mb t w' := ⟨(k.cell (p := ⟨b, 0, none⟩) h.lt).trans h.cell, h.map.below k⟩
/-- What is a tree's own in memory. -/
structure Ft where
  b : Nat
  mb : Option Nat
  lv : Value
def Ft.has (F : Ft) (x : Nat) : Prop := x = F.b ∨ F.mb = some x ∨ F.lv.ownBlock = some x
/-- Nothing that was there has turned but what is F's. -/
structure Tn (F : Ft) (w w' : World) : Prop where
  os : w'.os = w.os
  tape : w'.tape = w.tape
  output : w'.output = w.output
  size : w.heap.size ≤ w'.heap.size
  block : ∀ k, k < w.heap.size → ¬ F.has k → w'.heap[k]? = w.heap[k]?
/-- What is F2's was F's, or is new. -/
def Ft.to (F F2 : Ft) (w : World) : Prop := ∀ x, F2.has x → F.has x ∨ w.heap.size ≤ x
theorem Ft.to_refl (F : Ft) (w : World) : F.to F w := fun _ h => .inl h
theorem Tn.refl (F : Ft) (w : World) : Tn F w w := ⟨rfl, rfl, rfl, Nat.le_refl _, fun _ _ _ => rfl⟩
theorem Tn.trans {F F2 : Ft} {w w' w'' : World} (h : Tn F w w') (k : Tn F2 w' w'') (hn : F.to F2 w) : Tn F w w'' :=
  ⟨k.os.trans h.os, k.tape.trans h.tape, k.output.trans h.output, Nat.le_trans h.size k.size, fun i hi hf => (k.block i (Nat.lt_of_lt_of_le hi h.size) (fun e => by
    rcases hn i e with e | e
    · exact hf e
    · omega)).trans (h.block i hi hf)⟩
theorem Ft.to_trans {F F2 F3 : Ft} {w w' : World} (h : F.to F2 w) (k : F2.to F3 w') (hs : w.heap.size ≤ w'.heap.size) : F.to F3 w := fun x hx => by
  rcases k x hx with e | e
  · exact h x e
  · exact .inr (by omega)
theorem Tn.of_below {F : Ft} {w w' : World} (k : Below w.heap.size w w') : Tn F w w' := ⟨k.os, k.tape, k.output, k.size, fun i hi _ => k.block i hi⟩
/-- All from some block on: what was there stands. -/
theorem Tn.below {F : Ft} {w w' : World} {n : Nat} (k : Tn F w w') (hF : ∀ x, F.has x → n ≤ x) (hn : n ≤ w.heap.size) : Below n w w' :=
  ⟨k.os, k.tape, k.output, k.size, fun i hi => k.block i (by omega) fun e => by have := hF i e; omega⟩
/-- The cells of what was done. -/
def rowOf (l : List En) : List Value := (sps [] l).flatMap Sp.cs
/-- A tree in block b: operations l, u taken back. -/
structure TreeAt (P : Program) (kt Tt Ts base : Nat) (F : Ft) (l : List En) (u : Int) (w : World) : Prop where
  blk : w.heap[F.b]? = some (.cells #[.map F.mb, F.lv, .int .i64 u] Tt (0, 0))
  map : MapAt P kt w F.mb (ths [] l)
  row : w.ownsRow base Ts 17 F.lv l.length (rowOf l)
  low : ∀ x, F.has x → base ≤ x
  fits : ∀ e ∈ l, e.Fits
  ord : Ord l
end Go.Mov
