/- Several texts in one: ImageMem, ImageRank, RowsSet, ImageFi. -/
import Derived.Test.YtnbhchdaobimmaaGreatDoorMapAll
import Derived.Test.YtnbhchdaobimmaaGreatDoorSortThree
import Derived.Test.YtnbhchdaobimmaaGreatDoorMoveTwoAll
import Derived.Test.YtnbhchdaobimmaaGreatDoorRunAH
import Derived.Test.YtnbhchdaobimmaaGreatDoorRowsAll
/- A map from numbers to slices of things, each in a row of its own: how it grows; of no program. -/
namespace Go.MapInt
open Go.RowKit Go.Maps
open Go.MapFun (Enc got)
variable {α : Type} {E : Enc α} {P : Program} {kt T X : Nat} {w : World} {b : Nat} {l : List (Int × α)}
theorem lk_set (l : List (Int × α)) (s : Int) (a : α) (t : Int) : lk (cut l s ++ [(s, a)]) t = if t = s then some a else lk l t := by
 rw [lk_append]
 by_cases e : t = s
 ·subst e
  rw [lk_cut_same, if_pos rfl]
  simp [lk]
 ·rw [lk_cut_other e, if_neg e]
  cases lk l t with
  | some a => rfl
  | none => simp [lk, e]
/-- A key is stored, be it there or not. -/
theorem MapL.set (h : MapL P kt E w b l) (h9 : P.underlying kt = some (.int .u64)) (hT : P.underlying T = some (.map kt X)) (hK : l.length < maxLen) (s : Int) (hs : Num s) (a : α) :
  ∃ w', (Instr.mapUpdate T (.map (some b)) (.int .u64 s) (E.v a)).run P w = .ok () w' ∧ MapL P kt E w' b (cut l s ++ [(s, a)]) ∧ w.grownBy w' (some b) := by
 have hkey := keyOf_int_mk h9 (Num.wf hs)
 obtain ⟨h1, h2, D, h3, h4, h5⟩ := h
 have hm := h3.isMap
 have hty := h3.tidy (int_keyed h9)
 obtain ⟨w', hrun, ho', hg⟩ := h3.update (int_keyed h9) hT hK hkey (E.reads a)
 have hsz : Maps.size (D.put (.int .u64 s) (E.d a)) = (cut l s ++ [(s, a)]).length := by
  rw [size_put hty, Tells.has h5 hs, h4, List.length_append]
  cases e : lk l s with
  | none => rw [cut_none e]; simp
  | some a => have := length_cut h1 e; simp; omega
 refine ⟨w', hrun, ⟨?_, ?_, _, ?_, hsz, fun t ht z => ?_⟩, hg⟩
 ·rw [List.map_append, List.nodup_append]
  refine ⟨nodup_cut h1 s, by simp, fun x hx y hy => ?_⟩
  obtain ⟨p, hp, rfl⟩ := List.mem_map.1 hx
  have : y = s := by simpa using hy
  subst this
  exact (mem_cut.1 hp).2
 ·intro x hx
  rcases List.mem_append.1 hx with hx | hx
  ·exact h2 x (mem_cut.1 hx).1
  ·rw [List.mem_singleton.1 hx]; exact hs
 ·obtain ⟨es, cl, k1, k2, k3, k4⟩ := ho'
  refine ⟨es, cl, k1, k2, ?_, k4⟩
  rw [← hsz, k4]
  simp [Maps.size, length_sorted]
 ·rw [lk_set]
  by_cases e : t = s
  ·subst e
   rw [if_pos rfl]
   exact atKey_put_same hm (by trivial) _ _
  ·rw [if_neg e, atKey_put_other (fun h => e (by injection h)), h5 t ht z]
end Go.MapInt
namespace Go.Img
open Go.RowKit Go.MapInt Go.Mov Go.Rws
open Go.MapFun (Enc got)
/-- A slice as it lies in a map: the block of its row, its length and capacity. -/
structure Sl where
 a : Option Nat
 n : Nat
 c : Nat
def Sl.nil : Sl := ⟨none, 0, 0⟩
def Sl.v (s : Sl) : Value := .slice (s.a.map fun b => ⟨b, 0, none⟩) s.n s.c
def Sl.num (a : Option Nat) : Int := match a with | some b => b | none => -1
theorem Sl.num_inj {a b : Option Nat} (h : Sl.num a = Sl.num b) : a = b := by
 unfold Sl.num at h
 cases a <;> cases b <;> simp at h ⊢ <;> omega
def dSl (m : Sl) : DataW Unit := .agg [.lit (.int .i64 (Sl.num m.a)), .lit (.int .i64 m.n), .lit (.int .i64 m.c)]
def rSl (v : Value) : Option (DataW Unit × List MemPlace) :=
 match v with
 | .slice none n c => some (dSl ⟨none, n, c⟩, [])
 | .slice (some ⟨b, 0, none⟩) n c => some (dSl ⟨some b, n, c⟩, [])
 | _ => none
def slE : Enc Sl where
 R := rSl
 v := Sl.v
 d := dSl
 reads m := by
  obtain ⟨a, n, c⟩ := m
  cases a <;> rfl
 inv x y h := by
  unfold rSl at h
  split at h
  ·exact ⟨⟨none, _, _⟩, rfl, (Option.some.inj h).symm⟩
  ·exact ⟨⟨some _, _, _⟩, rfl, (Option.some.inj h).symm⟩
  ·cases h
 inj a b h := by
  obtain ⟨a, n, c⟩ := a
  obtain ⟨a', n', c'⟩ := b
  simp only [dSl, DataW.agg.injEq, List.cons.injEq, DataW.lit.injEq, Lit.int.injEq, true_and, and_true] at h
  obtain ⟨h2, h3, h4⟩ := h
  obtain rfl := Sl.num_inj h2
  obtain rfl : n = n' := by omega
  obtain rfl : c = c' := by omega
  rfl
 ne a h := by unfold dSl at h; cases h
/-- What lies for a number. -/
def at_ (L : List (Int × Sl)) (k : Int) : Sl := (lk L k).getD Sl.nil
/-- The things below each number, in the map in block m; none of the rows is in S. -/
structure Kd (P : Program) (kt T m base : Nat) (S : Nat → Prop) (pre : Ths) (L : List (Int × Sl)) (W : World) : Prop where
 map : MapL P kt slE W m L
 len : L.length ≤ pre.length
 row : ∀ k, W.ownsRow base T 6 (at_ L k).v (kidsOf pre k).length ((kidsOf pre k).flatMap Th.cs)
 apart : ∀ k k' q, k ≠ k' → (at_ L k).v.ownBlock = some q → (at_ L k').v.ownBlock ≠ some q
 free : ∀ k q, (at_ L k).v.ownBlock = some q → ¬ S q
variable {P : Program} {kt m base : Nat} {T : TypeId} {S : Nat → Prop} {pre : Ths} {L : List (Int × Sl)} {W W' : World}
theorem Kd.start : Kd P kt T m base S [] [] W ↔ MapL P kt slE W m [] := by
 refine ⟨fun h => h.map, fun h => ⟨h, Nat.le_refl _, fun k => World.ownsRow_nil _ _ _ _, fun k k' q _ h => (by cases h), fun k q h => (by cases h)⟩⟩
theorem Kd.turn (h : Kd P kt T m base S pre L W) (hm : W'.heap[m]? = W.heap[m]?) (hb : ∀ q : Nat, (∃ (cur : Array Value) (z : Nat × Nat), W.heap[q]? = some (Obj.cells cur T z)) → W'.heap[q]? = W.heap[q]?) : Kd P kt T m base S pre L W' := by
 refine ⟨h.map.kept hm, h.len, fun k => ?_, h.apart, h.free⟩
 obtain ⟨h0, h1⟩ := h.row k
 refine ⟨h0, ?_⟩
 rcases h1 with h1 | ⟨j, cap, cur, e, h2, h3, h4⟩
 ·exact .inl h1
 ·exact .inr ⟨j, cap, cur, e, h2, (hb j ⟨_, _, h3⟩).trans h3, h4⟩
theorem Kd.below (h : Kd P kt T m base S pre L W) (k : Below W.heap.size W W') : Kd P kt T m base S pre L W' :=
 h.turn (k.block _ h.map.lt) fun q ⟨_, _, hq⟩ => k.block q (Array.getElem?_eq_some_iff.1 hq).1
theorem Kd.look (h : Kd P kt T m base S pre L W) {M X : Nat} (h9 : P.underlying kt = some (.int .u64)) (hT : P.underlying M = some (.map kt X)) (hz : (zeroValue X).run P W = .ok (.slice none 0 0) W) (s : Int) (hs : Num s) :
  (Instr.lookup M (.map (some m)) (.int .u64 s) false).run P W = .ok (at_ L s).v W := by
 rw [h.map.look h9 hT hz false s hs]
 unfold at_
 cases lk L s <;> rfl
theorem Kd.ne_map (h : Kd P kt T m base S pre L W) (k : Int) : (at_ L k).v.ownBlock ≠ some m := fun hq => by
 obtain ⟨es, cl, hmk⟩ := h.map.kind
 rcases (h.row k).2 with ⟨e1, _⟩ | ⟨j, cap, cur, e1, h2, h3, _⟩
 ·rw [e1] at hq; cases hq
 ·rw [e1] at hq
  have hj : j = m := by injection hq
  rw [hj, hmk] at h3; cases h3
/-- One more below its parent: the row has grown already. -/
theorem Kd.next {W1 W2 W3 : World} {x : Th} {g' cap' : Nat} (h : Kd P kt T m base S pre L W) (k1 : Below W.heap.size W W1) (hg : W1.grownBy W2 (at_ L x.par).v.ownBlock)
  (ho : W2.ownsRow base T 6 (.slice (some ⟨g', 0, none⟩) ((kidsOf pre x.par).length + 1) cap') ((kidsOf pre x.par).length + 1) ((kidsOf pre x.par).flatMap Th.cs ++ x.cs))
  (hat : (at_ L x.par).v.ownBlock = some g' ∨ g' = W1.heap.size) (hS : ∀ q, S q → q < W.heap.size)
  (hm : MapL P kt slE W3 m (cut L x.par ++ [(x.par, ⟨some g', (kidsOf pre x.par).length + 1, cap'⟩)])) (hu : W2.grownBy W3 (some m)) :
  Kd P kt T m base S (pre ++ [x]) (cut L x.par ++ [(x.par, ⟨some g', (kidsOf pre x.par).length + 1, cap'⟩)]) W3 := by
 have hset : ∀ k, at_ (cut L x.par ++ [(x.par, ⟨some g', (kidsOf pre x.par).length + 1, cap'⟩)]) k = if k = x.par then ⟨some g', (kidsOf pre x.par).length + 1, cap'⟩ else at_ L k := by
  intro k
  unfold at_
  rw [lk_set]
  by_cases e : k = x.par
  ·rw [if_pos e, if_pos e]; rfl
  ·rw [if_neg e, if_neg e]
 have hkid : ∀ k, kidsOf (pre ++ [x]) k = if k = x.par then kidsOf pre k ++ [x] else kidsOf pre k := by
  intro k
  unfold kidsOf
  rw [List.filter_append]
  by_cases e : k = x.par
  ·rw [if_pos e, List.filter_cons_of_pos (by simpa using e.symm)]; rfl
  ·rw [if_neg e, List.filter_cons_of_neg (by simpa using fun h => e h.symm)]; simp
 obtain ⟨es, cl, hmk⟩ := h.map.kind
 have hml := h.map.lt
 have hrowlt : ∀ {k q}, (at_ L k).v.ownBlock = some q → base ≤ q ∧ q < W.heap.size ∧ q ≠ m := by
  intro k q hq
  have h1 := (h.row k).lt q hq
  refine ⟨h1.1, h1.2, fun e => ?_⟩
  rcases (h.row k).2 with ⟨e1, _⟩ | ⟨j, cap, cur, e1, h2, h3, _⟩
  ·rw [e1] at hq; cases hq
  ·rw [e1] at hq
   have hj : j = q := by injection hq
   rw [hj, e, hmk] at h3; cases h3
 have hcell2 : ∃ (cur : Array Value) (z : Nat × Nat), W2.heap[g']? = some (Obj.cells cur T z) := by
  rcases ho.2 with ⟨e1, _⟩ | ⟨j, cap, cur, e1, h2, h3, _⟩
  ·cases e1
  ·simp only [Value.slice.injEq, Option.some.injEq, Addr.mk.injEq, and_true] at e1
   obtain ⟨rfl, _⟩ := e1
   exact ⟨_, _, h3⟩
 have hgm : g' ≠ m := by
  rcases hat with e | e
  ·exact (hrowlt e).2.2
  ·have := k1.size; omega
 have hcl : (cut L x.par).length ≤ L.length := List.length_filter_le _ _
 have hlen := h.len
 refine ⟨hm, ?_, fun k => ?_, fun k k' q hne hk hk' => ?_, fun k q hk hSq => ?_⟩
 ·rw [List.length_append, List.length_append]
  simp only [List.length_cons, List.length_nil]
  omega
 ·rw [hset, hkid]
  by_cases e : k = x.par
  ·subst e
   rw [if_pos rfl, if_pos rfl, List.length_append, List.flatMap_append]
   have : W3.ownsRow base T 6 (.slice (some ⟨g', 0, none⟩) ((kidsOf pre x.par).length + 1) cap') ((kidsOf pre x.par).length + 1) ((kidsOf pre x.par).flatMap Th.cs ++ x.cs) :=
    own_kept ho fun q hq => by
     have hqg : g' = q := by injection hq
     subst hqg
     exact hu.block g' (ho.lt g' rfl).2 (fun e => hgm (by injection e))
   simpa [Sl.v] using this
  ·rw [if_neg e, if_neg e]
   refine own_kept (h.row k) fun q hq => ?_
   have hlt := hrowlt hq
   have hz1 := k1.size
   have e2 : W2.heap[q]? = W.heap[q]? := (hg.block q (by omega) (fun e3 => h.apart k x.par q e hq e3.symm)).trans (k1.block q hlt.2.1)
   exact (hu.block q (by have := hg.size; omega) (fun e3 => hlt.2.2 (by injection e3))).trans e2
 ·rw [hset] at hk hk'
  by_cases e : k = x.par
  ·rw [if_pos e] at hk
   rw [if_neg (fun e2 => hne (e.trans e2.symm))] at hk'
   have hqg : g' = q := by injection hk
   subst hqg
   rcases hat with e2 | e2
   ·exact h.apart k k' _ hne (by rw [e]; exact e2) hk'
   ·have := (hrowlt hk').2.1; have := k1.size; omega
  ·rw [if_neg e] at hk
   by_cases e' : k' = x.par
   ·rw [if_pos e'] at hk'
    have hqg : g' = q := by injection hk'
    subst hqg
    rcases hat with e2 | e2
    ·exact h.apart k k' _ hne hk (by rw [e']; exact e2)
    ·have := (hrowlt hk).2.1; have := k1.size; omega
   ·rw [if_neg e'] at hk'
    exact h.apart k k' q hne hk hk'
 ·rw [hset] at hk
  by_cases e : k = x.par
  ·rw [if_pos e] at hk
   have hqg : g' = q := by injection hk
   subst hqg
   rcases hat with e2 | e2
   ·exact h.free _ _ e2 hSq
   ·have := hS _ hSq; have := k1.size; omega
  ·rw [if_neg e] at hk
   exact h.free k q hk hSq
end Go.Img
/- Paths in order, place by place: the first place where two differ says it; no program text is named here. -/
namespace Go.Img
open Go.RowKit
/-- What stands at a place of a path: its end, then a slash, then a byte. -/
def rkC (c : UInt8) : Int := if c = 47 then -1 else (c.toNat : Int)
def rkH : List UInt8 → Int
 | [] => -2
 | c :: _ => rkC c
theorem rkC_lo (c : UInt8) : -1 ≤ rkC c ∧ rkC c < 256 := by
 have hc := c.toNat_lt
 unfold rkC
 by_cases h : c = 47
 ·rw [if_pos h]; exact ⟨by decide, by decide⟩
 ·rw [if_neg h]; exact ⟨by omega, by omega⟩
theorem rkC_ky (a b : UInt8) : rkC a < rkC b ↔ ky a < ky b := by
 unfold rkC ky
 have ha := a.toNat_lt
 by_cases h : a = 47
 ·rw [if_pos h, if_pos h]
  by_cases k : b = 47
  ·rw [if_pos k, if_pos k]; omega
  ·rw [if_neg k, if_neg k]; omega
 ·rw [if_neg h, if_neg h]
  by_cases k : b = 47
  ·rw [if_pos k, if_pos k]; omega
  ·rw [if_neg k, if_neg k]; omega
theorem cmpP_app : ∀ (p x y : List UInt8), cmpP (p ++ x) (p ++ y) = cmpP x y
 | [], _, _ => rfl
 | a :: p, x, y => by
  show (if a = a then cmpP (p ++ x) (p ++ y) else _) = _
  rw [if_pos rfl, cmpP_app p]
theorem cmpP_drop {a b : List UInt8} {i : Nat} (h : a.take i = b.take i) : cmpP a b = cmpP (a.drop i) (b.drop i) := by
 conv => lhs; rw [← List.take_append_drop i a, ← List.take_append_drop i b]
 rw [h, cmpP_app]
def cmpI (x y : Int) : Int := if x < y then -1 else if y < x then 1 else 0
theorem cmp_end {x y : List UInt8} (h : x = [] ∨ y = [] ∨ x.head? ≠ y.head?) : cmpP x y = cmpI (rkH x) (rkH y) := by
 cases x with
 | nil =>
  cases y with
  | nil => rfl
  | cons b y =>
   have h2 := (rkC_lo b).1
   show (-1 : Int) = cmpI (-2) (rkC b)
   unfold cmpI
   rw [if_pos (by omega)]
 | cons a x =>
  have h2 := (rkC_lo a).1
  cases y with
  | nil =>
   show (1 : Int) = cmpI (rkC a) (-2)
   unfold cmpI
   rw [if_neg (by omega), if_pos (by omega)]
  | cons b y =>
   have hne : a ≠ b := by
    rcases h with h | h | h
    ·cases h
    ·cases h
    ·intro e; exact h (by rw [e]; rfl)
   show (if a = b then cmpP x y else if ky a < ky b then -1 else 1) = cmpI (rkC a) (rkC b)
   unfold cmpI
   rw [if_neg hne]
   by_cases hl : ky a < ky b
   ·rw [if_pos hl, if_pos ((rkC_ky a b).2 hl)]
   ·have hk : ky a ≠ ky b := fun e => hne (ky_inj e)
    rw [if_neg hl, if_neg (fun q => hl ((rkC_ky a b).1 q)), if_pos ((rkC_ky b a).2 (by omega))]
theorem cmp_at {a b : List UInt8} {i : Nat} (h : a.take i = b.take i) (hn : i = a.length ∨ i = b.length ∨ a[i]? ≠ b[i]?) : cmpP a b = cmpI (rkH (a.drop i)) (rkH (b.drop i)) := by
 rw [cmpP_drop h]
 refine cmp_end ?_
 rcases hn with e | e | e
 ·exact .inl (by rw [e, List.drop_length])
 ·exact .inr (.inl (by rw [e, List.drop_length]))
 ·refine .inr (.inr ?_)
  rw [List.head?_drop, List.head?_drop]
  exact e
theorem rkH_end {a : List UInt8} {i : Nat} (h : a.length ≤ i) : rkH (a.drop i) = -2 := by rw [List.drop_eq_nil_of_le h]; rfl
theorem rkH_in {a : List UInt8} {i : Nat} {c : UInt8} (h : a[i]? = some c) : rkH (a.drop i) = rkC c := by
 obtain ⟨hl, rfl⟩ := List.getElem?_eq_some_iff.1 h
 rw [List.drop_eq_getElem_cons hl]
 rfl
theorem take_same {a b : List UInt8} {i : Nat} {c : UInt8} (h : a.take i = b.take i) (ha : a[i]? = some c) (hb : b[i]? = some c) : a.take (i + 1) = b.take (i + 1) := by
 rw [List.take_add_one, List.take_add_one, h, ha, hb]
end Go.Img
/- Rows of structs of one's own: many at once, and one cell of one; of no program. -/
namespace Go.Rws
open Go.RowKit
variable {α : Type} {cs : α → List Value} {z : Nat} {T : TypeId} {W w w' : World} {vo : Value} {xs : List α} {P : Program}
theorem flat_set (hz : ∀ x, (cs x).length = z) {x' : α} {j : Nat} {u : Value} : ∀ {xs : List α} {p : Nat} {x : α}, xs[p]? = some x → j < z → cs x' = (cs x).set j u → (xs.set p x').flatMap cs = (xs.flatMap cs).set (p * z + j) u
 | [], p, x, h, _, _ => by simp at h
 | a :: r, 0, x, h, hj, hc => by
  simp only [List.getElem?_cons_zero, Option.some.injEq] at h
  subst h
  rw [List.set_cons_zero, List.flatMap_cons, List.flatMap_cons, hc, Nat.zero_mul, Nat.zero_add, List.set_append, if_pos (by rw [hz]; exact hj)]
 | a :: r, p + 1, x, h, hj, hc => by
  rw [List.set_cons_succ, List.flatMap_cons, List.flatMap_cons, flat_set hz (xs := r) (p := p) (by simpa using h) hj hc, List.set_append, if_neg (by rw [hz, Nat.add_mul]; omega), hz, show (p + 1) * z + j - z = p * z + j by rw [Nat.add_mul]; omega]
/-- One cell is set. -/
theorem OwnR.setAt {g n c p j : Nat} {u : Value} {x x' : α} (hz : ∀ x, (cs x).length = z) (h : OwnR cs z T W (.slice (some ⟨g, 0, none⟩) n c) xs w) (hx : xs[p]? = some x) (hj : j < z) (hc : cs x' = (cs x).set j u) : OwnR cs z T W (.slice (some ⟨g, 0, none⟩) n c) (xs.set p x') (w.setCell ⟨g, p * z + j, none⟩ u) := by
 obtain ⟨⟨h0, h1⟩, hb⟩ := h
 rcases h1 with ⟨h1, _⟩ | ⟨g', cap, cur, h1, h2, h3, h4, h5, h6, h7⟩
 ·cases h1
 ·simp only [Value.slice.injEq, Option.some.injEq, Addr.mk.injEq, and_true] at h1
  obtain ⟨rfl, rfl, rfl⟩ := h1
  refine ⟨⟨by rw [flat_len hz], .inr ⟨g, c, cur.setIfInBounds (p * z + j) u, by rw [List.length_set], h2, heap_setCell_same _ _ _ _ _ _ h3, by rw [List.length_set]; exact h4, h5, by simpa using h6, ?_⟩⟩, hb.setCell h2 u⟩
  rw [Array.toList_setIfInBounds, List.length_set, List.take_set, h7, flat_set hz hx hj hc]
/-- What lies in one's own row. -/
theorem OwnR.cellAt {g n c p j : Nat} {u : Value} {x : α} (hz : ∀ x, (cs x).length = z) (h : OwnR cs z T W (.slice (some ⟨g, 0, none⟩) n c) xs w) (hx : xs[p]? = some x) (hu : (cs x)[j]? = some u) : w.cell? ⟨g, p * z + j, none⟩ = some u ∧ w.frozen? ⟨g, p * z + j, none⟩ = false ∧ W.heap.size ≤ g ∧ g < w.heap.size := by
 have hl := h.own.lt g rfl
 obtain ⟨⟨h0, h1⟩, hb⟩ := h
 rcases h1 with ⟨h1, _⟩ | ⟨g', cap, cur, h1, h2, h3, h4, h5, h6, h7⟩
 ·cases h1
 ·simp only [Value.slice.injEq, Option.some.injEq, Addr.mk.injEq, and_true] at h1
  obtain ⟨rfl, rfl, rfl⟩ := h1
  refine ⟨?_, frozen_of_row _ _ _ _ _ h3, hl⟩
  have hc := flat_in hz hx j u hu
  have hlen := (List.getElem?_eq_some_iff.1 hc).1
  rw [h0] at hlen
  rw [← h7, List.getElem?_take_of_lt hlen, Array.getElem?_toList] at hc
  rw [cell_of_row _ _ _ _ _ _ h3]
  exact hc
/-- A whole row is added. -/
theorem OwnR.appendAll {a0 : Option Addr} {n0 c0 : Nat} (h : OwnR cs z T W (.slice a0 n0 c0) xs w) (ys : List α) (hz : ∀ x, (cs x).length = z) (h1 : ∀ u ∈ ys.flatMap cs, u.oneCell' = true) (hz0 : 0 < z) {zero : Value} {by_ : Nat} (hi : (P.info? T).map (fun i => (i.zero, i.size, i.bytes)) = some (some zero, z, by_)) (hzs : zero.cells.size = z) (hlen : xs.length + ys.length ≤ 100000) (hby : by_ ≤ 10000)
  {ops : Array Oper} {rest : List Oper} {o : Oper} {a : Act} {Q : Exit → Act → World → Prop} (hg : o.guard = none) (s y : Operand) (t : TypeId) (ht : P.underlying t = some (.slice T))
  (ho : o.op = .call { callee := .builtin .append, args := #[s, y], argTypes := #[t, t] }) (hs : a.eval s = .slice a0 n0 c0) {g off c : Nat} (hy : a.eval y = .slice (some ⟨g, off, none⟩) ys.length c) (hR : RowsAt cs z w (.slice (some ⟨g, off, none⟩) ys.length c) ys)
  (k : ∀ a1 c1 w1, OwnR cs z T W (.slice a1 (xs ++ ys).length c1) (xs ++ ys) w1 → wpList P ops Q rest (a.put o.dst (.slice a1 (xs ++ ys).length c1)) w1) : wpList P ops Q (o :: rest) a w := by
 obtain ⟨i, hi0, hi1, hi2, hi3⟩ := info_of hi
 have hsz := h.below.size
 have hmul : (xs.length + ys.length) * by_ ≤ 100000 * 10000 := Nat.mul_le_mul (by omega) hby
 have hn0 : n0 = xs.length := by
  obtain ⟨a', c', e⟩ := h.form
  simp only [Value.slice.injEq] at e
  exact e.2.1
 subst hn0
 refine wpList_append_own _ hg s y t ho W.heap.size T i zero z by_ ht hi0 hi1 hi2 hi3 hzs hz0 _ _ _ hs h.own ⟨g, off, none⟩ ys.length c (ys.flatMap cs) hy (flat_len hz ys) (fun j u hu => by rw [Addr.add_mid]; exact hR.cell hz hz0 j u hu) h1 (by unfold maxLen; omega) (by omega) hsz ?_
 intro v' w1 hown hgrow _
 have e1 : xs.length + ys.length = (xs ++ ys).length := List.length_append.symm
 have hf : ∃ a c, v' = .slice a (xs ++ ys).length c := by
  rcases hown.2 with ⟨e, h0⟩ | ⟨j, cap, cur, rfl, _⟩
  ·exact ⟨none, 0, by rw [e, ← e1, h0]⟩
  ·exact ⟨_, _, by rw [e1]⟩
 obtain ⟨a1, c1, rfl⟩ := hf
 refine k a1 c1 w1 ⟨?_, h.below.grown hgrow hsz fun j e => (h.own.lt j e).1⟩
 rw [List.flatMap_append, ← e1]
 rw [← e1] at hown
 exact hown
end Go.Rws
/- Files of an image as they lie; of no program. -/
namespace Go.Img
open Go.RowKit
def Fi.cs (f : Fi) : List Value := [.string ⟨f.path.toArray⟩, .bool f.dir, .int .u64 f.id, .string f.dg, .int .i64 f.size]
theorem Fi.cs_length (f : Fi) : f.cs.length = 5 := rfl
theorem fi_one (f : Fi) : ∀ u ∈ f.cs, u.oneCell' = true := by
 intro u hu
 simp [Fi.cs] at hu
 rcases hu with rfl | rfl | rfl | rfl | rfl <;> rfl
def Fi.zero : Fi := ⟨[], false, 0, ⟨#[]⟩, 0⟩
theorem cells5f {w : World} {g o : Nat} {f : Fi} (h : w.rangeAt g o f.cs) : w.cell? ⟨g, o, none⟩ = some (.string ⟨f.path.toArray⟩) ∧ w.cell? ⟨g, o + 1, none⟩ = some (.bool f.dir) ∧ w.cell? ⟨g, o + 2, none⟩ = some (.int .u64 f.id) ∧ w.cell? ⟨g, o + 3, none⟩ = some (.string f.dg) ∧ w.cell? ⟨g, o + 4, none⟩ = some (.int .i64 f.size) :=
 ⟨h 0 _ rfl, h 1 _ rfl, h 2 _ rfl, h 3 _ rfl, h 4 _ rfl⟩
theorem bs_inj {a b : List UInt8} (h : (⟨a.toArray⟩ : ByteArray) = ⟨b.toArray⟩) : a = b := by
 have := congrArg (fun x : ByteArray => x.data.toList) h
 simpa using this
theorem bs_get (s : ByteArray) (k : Nat) (h : k < s.size) : s.data.toList[k]? = some s[k] := by
 rw [Array.getElem?_toList, Array.getElem?_eq_getElem (by exact h)]
 rfl
end Go.Img
