/- Several texts in one: MapFun, MapInt. -/
import Derived.Maps.Own
import Derived.Maps.Views
import Derived.Maps.OwnSet
import Derived.WalkKit
import Derived.Maps.RangeWalk
/- A map with strings for keys, told as a function from texts: what is looked up, stored, made; of no program. -/
namespace Go.MapFun
open Go.RowKit Go.Maps
/-- How an element's value is told: as a thing of type α. -/
structure Enc (α : Type) where
 R : Value → Option (DataW Unit × List MemPlace)
 v : α → Value
 d : α → DataW Unit
 reads : ∀ a, R (v a) = some (d a, [])
 inv : ∀ x y, R x = some y → ∃ a, x = v a ∧ y = (d a, [])
 inj : ∀ a b, d a = d b → a = b
 ne : ∀ a, d a ≠ .nil
variable {α : Type} {E : Enc α} {P : Program} {K T X : Nat} {w : World} {mb : Option Nat} {f : ByteArray → Option α}
/-- The map mb (or nil) has at most K entries, and holds f. -/
def MapF (P : Program) (E : Enc α) (K : Nat) (w : World) (mb : Option Nat) (f : ByteArray → Option α) : Prop :=
 (mb = none ∧ ∀ s, f s = none) ∨ ∃ b n D, mb = some b ∧ n ≤ K ∧ w.ownsMap P 9 E.R b n D ∧ IsMap D ∧ ∀ s : ByteArray, s.size ≤ maxLen → ∀ z, D.atKey (.string s.data.toList) z = match f s with | some a => E.d a | none => z
/-- What is looked up. -/
def got (c : Bool) (z : Value) (E : Enc α) : Option α → Value
 | some a => if c then .tuple #[E.v a, .bool true] else E.v a
 | .none => if c then .tuple #[z, .bool false] else z
end Go.MapFun
/- A map with 64-bit numbers for keys, told as a list of pairs, no key twice: what is looked up, stored, struck, gone over; of no program. -/
namespace Go.MapInt
open Go.RowKit Go.Maps
open Go.MapFun (Enc got)
/-- What a key may be. -/
def Num (a : Int) : Prop := 0 ≤ a ∧ a ≤ 18446744073709551615
theorem Num.wf {a : Int} (h : Num a) : (Lit.int .u64 a).wf = true := by
 have h1 : IntKind.u64.min = 0 := rfl
 have h2 : IntKind.u64.max = 18446744073709551615 := rfl
 simp only [Lit.wf, h1, h2, h.1, h.2, decide_true, Bool.and_self]
theorem int_of_keyOf {P : Program} {kt : Nat} (hk : P.underlying kt = some (.int .u64)) {v : Value} {l : Lit} (h : keyOf P kt v = some l) : ∃ s : Int, v = .int .u64 s ∧ l = .int .u64 s ∧ Num s := by
 rw [keyOf_int hk] at h
 have h1 : IntKind.u64.min = 0 := rfl
 have h2 : IntKind.u64.max = 18446744073709551615 := rfl
 cases v <;> simp [mapKey, hk] at h
 obtain ⟨h3, rfl⟩ := h
 obtain ⟨rfl, h3⟩ := h3
 simp only [Lit.wf, h1, h2, Bool.and_eq_true, decide_eq_true_eq] at h3
 exact ⟨_, rfl, rfl, h3⟩
variable {α : Type} {E : Enc α} {P : Program} {kt T X : Nat} {w : World} {b : Nat} {l : List (Int × α)}
/-- What a list of pairs has for a key. -/
def lk : List (Int × α) → Int → Option α
 | [], _ => none
 | x :: r, s => if s = x.1 then some x.2 else lk r s
theorem lk_none {s : Int} : ∀ {l : List (Int × α)}, lk l s = none ↔ ∀ x ∈ l, x.1 ≠ s
 | [] => by simp [lk]
 | x :: r => by
  unfold lk
  by_cases e : s = x.1
  ·rw [if_pos e]
   constructor
   ·intro h; cases h
   ·intro h; exact absurd e.symm (h x (by simp))
  ·rw [if_neg e, lk_none]
   constructor
   ·intro h y hy
    rcases List.mem_cons.1 hy with rfl | hy
    ·exact fun h => e h.symm
    ·exact h y hy
   ·intro h y hy
    exact h y (by simp [hy])
theorem lk_mem {s : Int} {a : α} : ∀ {l : List (Int × α)}, lk l s = some a → (s, a) ∈ l
 | [], h => by cases h
 | x :: r, h => by
  unfold lk at h
  split at h
  ·rename_i e
   cases h
   subst e
   simp
  ·exact List.mem_cons_of_mem _ (lk_mem h)
theorem lk_of_mem {s : Int} {a : α} : ∀ {l : List (Int × α)}, (l.map (·.1)).Nodup → (s, a) ∈ l → lk l s = some a
 | [], _, h => by cases h
 | x :: r, hn, h => by
  simp only [List.map_cons, List.nodup_cons] at hn
  unfold lk
  rcases List.mem_cons.1 h with e | h
  ·subst e; simp
  ·rw [if_neg, lk_of_mem hn.2 h]
   intro e
   exact hn.1 (e ▸ List.mem_map.2 ⟨_, h, rfl⟩)
theorem lk_append (l r : List (Int × α)) (s : Int) : lk (l ++ r) s = match lk l s with | some a => some a | none => lk r s := by
 induction l with
 | nil => rfl
 | cons x l ih =>
  show (if s = x.1 then some x.2 else lk (l ++ r) s) = match (if s = x.1 then some x.2 else lk l s) with | some a => some a | none => lk r s
  by_cases e : s = x.1
  ·simp [e]
  ·simp only [if_neg e]; exact ih
/-- Without a key. -/
def cut (l : List (Int × α)) (s : Int) : List (Int × α) := l.filter fun x => !decide (x.1 = s)
theorem mem_cut {s : Int} {x : Int × α} : x ∈ cut l s ↔ x ∈ l ∧ x.1 ≠ s := by simp [cut]
theorem nodup_cut (h : (l.map (·.1)).Nodup) (s : Int) : ((cut l s).map (·.1)).Nodup := h.sublist ((List.filter_sublist).map _)
theorem lk_cut_same (l : List (Int × α)) (s : Int) : lk (cut l s) s = none := lk_none.2 fun _ hx => (mem_cut.1 hx).2
theorem lk_cut_other {s t : Int} (h : t ≠ s) : ∀ l : List (Int × α), lk (cut l s) t = lk l t
 | [] => rfl
 | x :: r => by
  by_cases e : x.1 = s
  ·have e1 : cut (x :: r) s = cut r s := by unfold cut; rw [List.filter_cons_of_neg (by simp [e])]
   rw [e1, lk_cut_other h r]
   show lk r t = if t = x.1 then some x.2 else lk r t
   rw [if_neg (fun e2 => h (e2.trans e))]
  ·have e1 : cut (x :: r) s = x :: cut r s := by unfold cut; rw [List.filter_cons_of_pos (by simp [e])]
   rw [e1]
   show (if t = x.1 then some x.2 else lk (cut r s) t) = if t = x.1 then some x.2 else lk r t
   rw [lk_cut_other h r]
theorem cut_none {s : Int} (h : lk l s = none) : cut l s = l := List.filter_eq_self.2 fun x hx => by simpa using lk_none.1 h x hx
theorem length_cut {s : Int} {a : α} : ∀ {l : List (Int × α)}, (l.map (·.1)).Nodup → lk l s = some a → (cut l s).length + 1 = l.length
 | [], _, h => by cases h
 | x :: r, hn, h => by
  simp only [List.map_cons, List.nodup_cons] at hn
  by_cases e : x.1 = s
  ·have e1 : cut (x :: r) s = cut r s := by unfold cut; rw [List.filter_cons_of_neg (by simp [e])]
   have e2 : lk r s = none := lk_none.2 fun y hy e3 => hn.1 (List.mem_map.2 ⟨y, hy, e3.trans e.symm⟩)
   rw [e1, cut_none e2]; rfl
  ·have e1 : cut (x :: r) s = x :: cut r s := by unfold cut; rw [List.filter_cons_of_pos (by simp [e])]
   unfold lk at h
   rw [if_neg (fun e2 => e e2.symm)] at h
   rw [e1, List.length_cons, List.length_cons, length_cut hn.2 h]
/-- What a datum reads as. -/
def Tells (E : Enc α) (D : DataW Unit) (l : List (Int × α)) : Prop := ∀ s : Int, Num s → ∀ z, D.atKey (.int .u64 s) z = match lk l s with | some a => E.d a | none => z
theorem Tells.has {D : DataW Unit} (h : Tells E D l) {s : Int} (hs : Num s) : Maps.has D (.int .u64 s) = (lk l s).isSome := by
 cases e : lk l s with
 | none => exact has_false_of_atKey fun z => by rw [h s hs z, e]
 | some a => exact has_true_of_atKey (y := E.d a) fun z => by rw [h s hs z, e]
/-- Block b is a map that holds just these pairs. -/
def MapL (P : Program) (kt : Nat) (E : Enc α) (w : World) (b : Nat) (l : List (Int × α)) : Prop :=
 (l.map (·.1)).Nodup ∧ (∀ x ∈ l, Num x.1) ∧ ∃ D, w.ownsMap P kt E.R b l.length D ∧ Maps.size D = l.length ∧ Tells E D l
theorem MapL.lt (h : MapL P kt E w b l) : b < w.heap.size := by obtain ⟨_, _, D, h, _⟩ := h; exact h.lt
theorem MapL.kind (h : MapL P kt E w b l) : ∃ es cl, w.heap[b]? = some (.map es cl) := by
 obtain ⟨_, _, D, ⟨es, cl, h, _⟩, _⟩ := h
 exact ⟨es, cl, h⟩
theorem MapL.kept {w' : World} (h : MapL P kt E w b l) (hb : w'.heap[b]? = w.heap[b]?) : MapL P kt E w' b l := by
 obtain ⟨h1, h2, D, ⟨es, cl, h3, h4⟩, h5⟩ := h
 exact ⟨h1, h2, D, ⟨es, cl, hb.trans h3, h4⟩, h5⟩
theorem MapL.below {w' : World} (h : MapL P kt E w b l) (k : Below w.heap.size w w') : MapL P kt E w' b l := h.kept (k.block _ h.lt)
theorem MapL.made (P : Program) (kt : Nat) (E : Enc α) (w : World) : MapL P kt E (w.alloc (.map #[] 0)) w.heap.size [] :=
 ⟨List.nodup_nil, (fun x hx => by cases hx), .map [], World.ownsMap_made w P kt E.R, rfl, fun _ _ _ => rfl⟩
theorem MapL.look (h : MapL P kt E w b l) (h9 : P.underlying kt = some (.int .u64)) (hT : P.underlying T = some (.map kt X)) {z : Value} (hz : (zeroValue X).run P w = .ok z w) (c : Bool) (s : Int) (hs : Num s) :
  (Instr.lookup T (.map (some b)) (.int .u64 s) c).run P w = .ok (got c z E (lk l s)) w := by
 obtain ⟨_, _, D, ⟨es, cl, hb, F, -, hD⟩, _, hat⟩ := h
 have hkey := keyOf_int_mk h9 (Num.wf hs)
 have ha := hat s hs
 rcases Maps.fit_look c (int_keyed h9) hT hz hb F hkey with ⟨hrun, _, h1⟩ | ⟨e0, y, _, _, hrun, hRv, h1, _⟩
 ·rw [hrun]
  have e1 := h1 .nil
  rw [← hD, ha .nil] at e1
  cases hx : lk l s with
  | none => rfl
  | some a => rw [hx] at e1; exact absurd e1 (E.ne a)
 ·rw [hrun]
  obtain ⟨a', hv, rfl⟩ := E.inv _ _ hRv
  have e1 := h1 .nil
  rw [← hD, ha .nil] at e1
  cases hx : lk l s with
  | none => rw [hx] at e1; exact absurd e1.symm (E.ne a')
  | some a =>
   rw [hx] at e1
   obtain rfl := E.inj _ _ e1
   rw [hv]
   rfl
/-- A nil map has nothing. -/
theorem look_none (h9 : P.underlying kt = some (.int .u64)) (hT : P.underlying T = some (.map kt X)) {z : Value} (hz : (zeroValue X).run P w = .ok z w) (c : Bool) (s : Int) (hs : Num s) :
  (Instr.lookup T (.map none) (.int .u64 s) c).run P w = .ok (if c then .tuple #[z, .bool false] else z) w := Maps.look_nil c (int_keyed h9) hT hz (keyOf_int_mk h9 (Num.wf hs))
/-- A key is struck. -/
theorem MapL.del (h : MapL P kt E w b l) (h9 : P.underlying kt = some (.int .u64)) (hT : P.underlying T = some (.map kt X)) (s : Int) (hs : Num s) (ty : TypeId) :
  ∃ w', (Builtin.delete_ #[T, kt] ty #[.map (some b), .int .u64 s]).run P w = .ok (.tuple #[]) w' ∧ MapL P kt E w' b (cut l s) ∧ w.grownBy w' (some b) := by
 have hkey := keyOf_int_mk h9 (Num.wf hs)
 obtain ⟨h1, h2, D, h3, h4, h5⟩ := h
 have hty := h3.tidy (int_keyed h9)
 obtain ⟨w', hrun, ho', hg⟩ := h3.drop (int_keyed h9) hT hkey ty
 have hsz : Maps.size (D.del (.int .u64 s)) = (cut l s).length := by
  have e := size_del (k := .int .u64 s) hty
  rw [Tells.has h5 hs, h4] at e
  cases h : lk l s with
  | none => rw [h] at e; rw [cut_none h]; simpa using e
  | some a =>
   rw [h] at e
   have := length_cut h1 h
   simp at e
   omega
 refine ⟨w', hrun, ⟨nodup_cut h1 s, fun x hx => h2 x (mem_cut.1 hx).1, _, ?_, hsz, fun t ht z => ?_⟩, hg.grown⟩
 ·obtain ⟨es, cl, k1, k2, k3, k4⟩ := ho'
  refine ⟨es, cl, k1, k2, ?_, k4⟩
  rw [← hsz, k4]
  simp [Maps.size, length_sorted]
 ·by_cases e : t = s
  ·subst e
   rw [lk_cut_same, atKey_del_same]
  ·rw [atKey_del_other (fun h => e (by injection h)), h5 t ht z, lk_cut_other e]
/-- A map gone over: what is still to come. -/
def RngL (P : Program) (kt : Nat) (E : Enc α) (w : World) (b r : Nat) (l todo : List (Int × α)) : Prop :=
 (todo.map (·.1)).Nodup ∧ (∀ x ∈ todo, x ∈ l) ∧ (∀ x ∈ l, Num x.1) ∧ (l.map (·.1)).Nodup ∧ ∃ D left cnt, w.ranges P kt E.R b r l.length D left cnt ∧ Tells E D l ∧ ∀ s : Int, Num s → (left (.int .u64 s) = true ↔ (lk todo s).isSome)
theorem RngL.kept {w' : World} {r : Nat} {todo : List (Int × α)} (h : RngL P kt E w b r l todo) (hb : w'.heap[b]? = w.heap[b]?) (hr : w'.heap[r]? = w.heap[r]?) : RngL P kt E w' b r l todo := by
 obtain ⟨h0, h1, h2, h3, D, left, cnt, ⟨es, clock, since, seen, c0, k1, k2, k3, k4, k5, k6⟩, h5⟩ := h
 exact ⟨h0, h1, h2, h3, D, left, cnt, ⟨es, clock, since, seen, c0, hb.trans k1, k2, k3, k4, hr.trans k5, k6⟩, h5⟩
theorem rangeLeft_kept {w' : World} {r : Nat} (hb : w'.heap[b]? = w.heap[b]?) (hr : w'.heap[r]? = w.heap[r]?) : w'.rangeLeft b r = w.rangeLeft b r := by
 unfold World.rangeLeft
 rw [hb, hr]
theorem MapL.range (h : MapL P kt E w b l) (h9 : P.underlying kt = some (.int .u64)) (hT : P.underlying T = some (.map kt X)) :
  ∃ w', (Instr.range T (.map (some b))).run P w = .ok (.pointer (some ⟨w.heap.size, 0, none⟩)) w' ∧ RngL P kt E w' b w.heap.size l l ∧ Below w.heap.size w w' ∧ w'.heap.size = w.heap.size + 1 := by
 obtain ⟨h1, h2, D, h3, h4, h5⟩ := h
 obtain ⟨w', hrun, hr, hg, hs⟩ := h3.range (int_keyed h9) hT
 refine ⟨w', hrun, ⟨h1, fun x hx => hx, h2, h1, D, _, _, hr, h5, fun s hs => ?_⟩, ⟨hg.os, hg.tape, hg.output, hg.size, fun k hk => hg.block k hk (by simp)⟩, hs⟩
 rw [Tells.has h5 hs]
theorem RngL.next {r : Nat} {todo : List (Int × α)} (h : RngL P kt E w b r l todo) (h9 : P.underlying kt = some (.int .u64)) (ty : TypeId) :
  (todo = [] ∧ (Instr.next (.pointer (some ⟨r, 0, none⟩)) false ty).run P w = .ok (.tuple #[.bool false]) w) ∨
  ∃ s a w', (s, a) ∈ todo ∧ Num s ∧ (Instr.next (.pointer (some ⟨r, 0, none⟩)) false ty).run P w = .ok (.tuple #[.bool true, .int .u64 s, E.v a]) w' ∧ RngL P kt E w' b r l (cut todo s) ∧ w.grownBy w' (some r) ∧ w'.heap.size = w.heap.size ∧
   (Instr.entry (.pointer (some ⟨r, 0, none⟩))).run P w' = .ok (.tuple #[.int .u64 s, E.v a]) w' ∧ w'.rangeLeft b r < w.rangeLeft b r := by
 obtain ⟨h0, h1, h2, h3, D, left, cnt, hr, h5, h6⟩ := h
 rcases hr.next (int_keyed h9) ty with ⟨-, hl, hrun⟩ | ⟨key, v, kl, y, w', cnt', hkey, hlk, hv, hat, hrun, hrg, hlt, hgr, hsz, hen⟩
 ·refine .inl ⟨?_, hrun⟩
  rcases todo with _ | ⟨x, todo⟩
  ·rfl
  ·have := (h6 x.1 (h2 x (h1 x (by simp)))).2 (by simp [lk])
   rw [hl] at this
   cases this
 ·obtain ⟨s, rfl, rfl, hs⟩ := int_of_keyOf h9 hkey
  obtain ⟨a, rfl, rfl⟩ := E.inv _ _ hv
  have e1 := (h6 s hs).1 hlk
  obtain ⟨a', ha'⟩ := Option.isSome_iff_exists.1 e1
  have hm := lk_mem ha'
  have e2 := lk_of_mem h3 (h1 _ hm)
  have e3 := hat .nil
  rw [h5 s hs, e2] at e3
  obtain rfl := E.inj _ _ e3
  refine .inr ⟨s, a', w', hm, hs, hrun, ⟨nodup_cut h0 s, fun x hx => h1 x (mem_cut.1 hx).1, h2, h3, D, _, cnt', hrg, h5, fun t ht => ?_⟩, hgr, hsz, hen, by rw [hrg.left_eq, hr.left_eq]; exact hlt⟩
  by_cases e : t = s
  ·subst e
   rw [lk_cut_same]
   simp [WideAt.sameKey_self (a := .int .u64 t) (by trivial)]
  ·rw [lk_cut_other e, ← h6 t ht]
   have : (Lit.int .u64 t).sameKey (.int .u64 s) = false := sameKey_ne (fun h => e (by injection h))
   simp [this]
end Go.MapInt
