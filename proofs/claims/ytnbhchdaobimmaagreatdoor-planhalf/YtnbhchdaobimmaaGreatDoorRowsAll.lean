/- Several texts in one: RowsAt, RowsIns, RowsOwn. -/
import Derived.Test.YtnbhchdaobimmaaGreatDoorRunAE
import Derived.Test.YtnbhchdaobimmaaGreatDoorRegionAll
import Derived.OwnWalk
import Derived.Laws.OwnMore
/- Rows of structs in memory, element by element; of no program. -/
namespace Go.Rws
open Go.RowKit
variable {α : Type}
/-- A slice value of xs, each z cells long. -/
def RowsAt (cs : α → List Value) (z : Nat) (w : World) (v : Value) (xs : List α) : Prop :=
 ((∃ a c, v = .slice a 0 c) ∧ xs = []) ∨ ∃ g off cap, v = .slice (some ⟨g, off, none⟩) xs.length cap ∧ g < w.heap.size ∧ xs.length ≤ cap ∧ ∀ i x, xs[i]? = some x → w.rangeAt g (off + i * z) (cs x)
variable {cs : α → List Value} {z : Nat} {w w' : World} {v : Value} {xs : List α}
theorem RowsAt.kept (h : RowsAt cs z w v xs) (hs : w.heap.size ≤ w'.heap.size) (hk : ∀ g, v.ownBlock = some g → w'.heap[g]? = w.heap[g]?) : RowsAt cs z w' v xs := by
 rcases h with h | ⟨g, off, cap, h1, h2, h3, h4⟩
 ·exact .inl h
 ·refine .inr ⟨g, off, cap, h1, Nat.lt_of_lt_of_le h2 hs, h3, fun i s hs j u hu => ?_⟩
  rw [← h4 i s hs j u hu]
  have := hk g (by rw [h1]; rfl)
  unfold World.cell?
  dsimp only
  rw [this]
theorem RowsAt.below (h : RowsAt cs z w v xs) (k : Below w.heap.size w w') : RowsAt cs z w' v xs := by
 rcases h with h | h
 ·exact .inl h
 ·have h' := h
  obtain ⟨g, off, cap, h1, h2, _⟩ := h'
  exact RowsAt.kept (.inr h) k.size fun g' hg => k.block g' (by rw [h1] at hg; cases hg; exact h2)
theorem RowsAt.form (h : RowsAt cs z w v xs) : ∃ a c, v = .slice a xs.length c := by
 rcases h with ⟨⟨a, c, rfl⟩, rfl⟩ | ⟨g, off, cap, rfl, _⟩
 ·exact ⟨_, _, rfl⟩
 ·exact ⟨_, _, rfl⟩
theorem RowsAt.at {a : Option Addr} {n c : Nat} (h : RowsAt cs z w (.slice a n c) xs) (hn : xs ≠ []) : ∃ g off, a = some ⟨g, off, none⟩ ∧ n = xs.length ∧ xs.length ≤ c ∧ g < w.heap.size ∧ ∀ i x, xs[i]? = some x → w.rangeAt g (off + i * z) (cs x) := by
 rcases h with ⟨_, h⟩ | ⟨g, off, cap, h1, h2, h3, h4⟩
 ·exact absurd h hn
 ·simp only [Value.slice.injEq] at h1
  obtain ⟨rfl, rfl, rfl⟩ := h1
  exact ⟨g, off, rfl, rfl, h3, h2, h4⟩
theorem flat_len (hz : ∀ x, (cs x).length = z) : ∀ xs : List α, (xs.flatMap cs).length = xs.length * z
 | [] => by simp
 | x :: r => by rw [List.flatMap_cons, List.length_append, hz, flat_len hz r, List.length_cons, Nat.add_mul]; omega
theorem flat_in (hz : ∀ x, (cs x).length = z) : ∀ {xs : List α} {i : Nat} {x : α}, xs[i]? = some x → ∀ j u, (cs x)[j]? = some u → (xs.flatMap cs)[i * z + j]? = some u
 | [], i, s, h, _, _, _ => by simp at h
 | a :: r, 0, s, h, j, u, hu => by
  simp only [List.getElem?_cons_zero, Option.some.injEq] at h
  subst h
  rw [List.flatMap_cons, List.getElem?_append_left]
  ·simpa using hu
  ·have := (List.getElem?_eq_some_iff.1 hu).1
   simpa using this
 | a :: r, i + 1, s, h, j, u, hu => by
  rw [List.flatMap_cons, List.getElem?_append_right (by rw [hz, Nat.add_mul]; omega)]
  rw [show (i + 1) * z + j - (cs a).length = i * z + j by rw [hz, Nat.add_mul]; omega]
  exact flat_in hz (xs := r) (by simpa using h) j u hu
theorem flat_out (hz : ∀ x, (cs x).length = z) (h0 : 0 < z) : ∀ {xs : List α} {j : Nat} {u : Value}, (xs.flatMap cs)[j]? = some u → ∃ x, xs[j / z]? = some x ∧ (cs x)[j % z]? = some u
 | [], j, u, h => by simp at h
 | a :: r, j, u, h => by
  rw [List.flatMap_cons] at h
  by_cases hj : j < z
  ·rw [List.getElem?_append_left (by rw [hz]; exact hj)] at h
   exact ⟨a, by rw [Nat.div_eq_of_lt hj]; rfl, by rw [Nat.mod_eq_of_lt hj]; exact h⟩
  ·have hj : z ≤ j := by omega
   rw [List.getElem?_append_right (by rw [hz]; exact hj), hz] at h
   obtain ⟨s, h1, h2⟩ := flat_out hz h0 h
   refine ⟨s, ?_, by rw [Nat.mod_eq_sub_mod hj]; exact h2⟩
   rw [Nat.div_eq_sub_div h0 hj, List.getElem?_cons_succ]
   exact h1
theorem RowsAt.of_own {base e : Nat} (hz : ∀ x, (cs x).length = z) (h : w.ownsRow base e z v xs.length (xs.flatMap cs)) : RowsAt cs z w v xs := by
 obtain ⟨h0, h1⟩ := h
 rcases h1 with ⟨h1, h2⟩ | ⟨g, cap, cur, h1, h2, h3, h4, h5, h6, h7⟩
 ·exact .inl ⟨⟨none, 0, h1⟩, List.length_eq_zero_iff.1 h2⟩
 ·have hlt : g < w.heap.size := by
   rcases Nat.lt_or_ge g w.heap.size with h | h
   ·exact h
   ·rw [Array.getElem?_eq_none h] at h3; cases h3
  refine .inr ⟨g, 0, cap, h1, hlt, h4, fun i x hi j u hu => ?_⟩
  have hc := flat_in hz hi j u hu
  have hl := (List.getElem?_eq_some_iff.1 hc).1
  rw [h0] at hl
  rw [← h7, List.getElem?_take_of_lt hl, Array.getElem?_toList] at hc
  rw [Nat.zero_add, cell_of_row _ _ _ _ _ _ h3]
  exact hc
/-- All cells of a row, one behind the other. -/
theorem RowsAt.cell {g off c n : Nat} (hz : ∀ x, (cs x).length = z) (h0 : 0 < z) (h : RowsAt cs z w (.slice (some ⟨g, off, none⟩) n c) xs) : ∀ j u, (xs.flatMap cs)[j]? = some u → w.cell? ⟨g, off + j, none⟩ = some u := by
 intro j u hu
 rcases h with ⟨_, h⟩ | ⟨g', off', cap, h1, h2, h3, h4⟩
 ·subst h; simp at hu
 ·simp only [Value.slice.injEq, Option.some.injEq, Addr.mk.injEq, and_true] at h1
  obtain ⟨⟨rfl, rfl⟩, rfl, rfl⟩ := h1
  obtain ⟨x, e1, e2⟩ := flat_out hz h0 hu
  have := h4 _ x e1 _ u e2
  have e3 : off + j / z * z + j % z = off + j := by rw [Nat.add_assoc, Nat.mul_comm, Nat.div_add_mod]
  rw [e3] at this
  exact this
theorem RowsAt.take {a : Option Addr} {n c k : Nat} (h : RowsAt cs z w (.slice a n c) xs) (hk : k ≤ xs.length) : RowsAt cs z w (.slice a k c) (xs.take k) := by
 rcases h with ⟨⟨a', c', h1⟩, h2⟩ | ⟨g, off, cap, h1, h2, h3, h4⟩
 ·subst h2
  obtain rfl : k = 0 := by simpa using hk
  exact .inl ⟨⟨a, c, rfl⟩, rfl⟩
 ·simp only [Value.slice.injEq] at h1
  obtain ⟨rfl, rfl, rfl⟩ := h1
  have e : (xs.take k).length = k := by rw [List.length_take]; omega
  refine .inr ⟨g, off, c, by rw [e], h2, by omega, fun i x hi => ?_⟩
  have hik := (List.getElem?_eq_some_iff.1 hi).1
  rw [List.getElem?_take_of_lt (by omega)] at hi
  exact h4 i x hi
end Go.Rws
/- Rows of structs: what stands ahead of a place, and behind it; of no program. -/
namespace Go.Rws
open Go.RowKit
variable {α : Type} {cs : α → List Value} {z : Nat} {w w' : World} {xs : List α}
/-- What stands behind a place of a slice. -/
def restV (a : Option Addr) (n c k z : Nat) : Value := if c = k then .slice a (n - k) 0 else .slice (a.map fun p => p.add (k * z)) (n - k) (c - k)
/-- A slice whose row, if there is one, is a block's. -/
def Nice (v : Value) : Prop := v = .slice none 0 0 ∨ ∃ g off n c, v = .slice (some ⟨g, off, none⟩) n c ∧ n ≤ c
theorem Nice.of_own {base e k n : Nat} {v : Value} {ys : List Value} (h : w.ownsRow base e k v n ys) : Nice v := by
 rcases h.2 with ⟨h1, _⟩ | ⟨g, cap, cur, h1, _, _, h4, _⟩
 ·exact .inl h1
 ·exact .inr ⟨g, 0, n, cap, h1, h4⟩
theorem Nice.cap {a : Option Addr} {n c : Nat} (h : Nice (.slice a n c)) : n ≤ c := by
 rcases h with h | ⟨g, off, n', c', h, hl⟩
 ·simp only [Value.slice.injEq] at h; omega
 ·simp only [Value.slice.injEq] at h; omega
theorem RowsAt.hi (hz : ∀ x, (cs x).length = z) (h0 : 0 < z) {a : Option Addr} {c k : Nat} (h : RowsAt cs z w (.slice a xs.length c) xs) (hn : Nice (.slice a xs.length c)) (hk : k ≤ xs.length) : RegionOwn.Holds w (.slice a k c) z k ((xs.take k).flatMap cs) := by
 refine ⟨by rw [flat_len hz, List.length_take, Nat.min_eq_left hk], ?_⟩
 rcases hn with hn | ⟨g, off, n, c', hn, _⟩
 ·simp only [Value.slice.injEq] at hn
  obtain ⟨rfl, h1, rfl⟩ := hn
  obtain rfl : k = 0 := by omega
  exact .inl ⟨rfl, rfl⟩
 ·simp only [Value.slice.injEq] at hn
  obtain ⟨rfl, h1, rfl⟩ := hn
  refine .inr ⟨_, c, rfl, fun j u hu => ?_⟩
  have := (h.take hk).cell hz h0 j u hu
  rw [Addr.add_mid]; exact this
theorem RowsAt.lo (hz : ∀ x, (cs x).length = z) (h0 : 0 < z) {a : Option Addr} {c k : Nat} (h : RowsAt cs z w (.slice a xs.length c) xs) (hn : Nice (.slice a xs.length c)) (hk : k ≤ xs.length) : RegionOwn.Holds w (restV a xs.length c k z) z (xs.length - k) ((xs.drop k).flatMap cs) := by
 refine ⟨by rw [flat_len hz, List.length_drop], ?_⟩
 have hc := hn.cap
 unfold restV
 rcases hn with hn | ⟨g, off, n, c', hn, _⟩
 ·simp only [Value.slice.injEq] at hn
  obtain ⟨rfl, h1, rfl⟩ := hn
  obtain rfl : k = 0 := by omega
  rw [if_pos rfl]
  exact .inl ⟨by rw [h1], by omega⟩
 ·simp only [Value.slice.injEq] at hn
  obtain ⟨rfl, h1, rfl⟩ := hn
  by_cases e : c = k
  ·rw [if_pos e]
   refine .inr ⟨_, 0, rfl, fun j u hu => ?_⟩
   have hd : xs.drop k = [] := List.drop_eq_nil_of_le (by omega)
   rw [hd] at hu
   simp at hu
  ·rw [if_neg e]
   refine .inr ⟨_, c - k, rfl, fun j u hu => ?_⟩
   have e1 : (xs.flatMap cs)[k * z + j]? = some u := by
    have e2 : xs.flatMap cs = (xs.take k).flatMap cs ++ (xs.drop k).flatMap cs := by rw [← List.flatMap_append, List.take_append_drop]
    have e3 : ((xs.take k).flatMap cs).length = k * z := by rw [flat_len hz, List.length_take, Nat.min_eq_left hk]
    rw [e2, List.getElem?_append_right (by omega), e3, Nat.add_sub_cancel_left]
    exact hu
   have := h.cell hz h0 _ u e1
   show w.cell? (((⟨g, off, none⟩ : Addr).add (k * z)).add j) = some u
   rw [Addr.add_mid, Addr.add_mid, Nat.add_assoc]; exact this
end Go.Rws
/- Rows of structs of one's own: how they grow; of no program. -/
namespace Go.Rws
open Go.RowKit
variable {α : Type} {cs : α → List Value} {z : Nat} {T : TypeId} {W w w' : World} {vo : Value} {xs : List α} {P : Program}
theorem info_of {P : Program} {T : TypeId} {z0 : Value} {z b : Nat} (h : (P.info? T).map (fun i => (i.zero, i.size, i.bytes)) = some (some z0, z, b)) : ∃ i, P.info? T = some i ∧ i.zero = some z0 ∧ i.size = z ∧ i.bytes = b := by
 cases hx : P.info? T with
 | none => rw [hx] at h; cases h
 | some i => rw [hx] at h; simp at h; exact ⟨i, rfl, h.1, h.2.1, h.2.2⟩
/-- A row of one's own, all from W on. -/
structure OwnR (cs : α → List Value) (z : Nat) (T : TypeId) (W : World) (vo : Value) (xs : List α) (w : World) : Prop where
 own : w.ownsRow W.heap.size T z vo xs.length (xs.flatMap cs)
 below : Below W.heap.size W w
theorem OwnR.form (h : OwnR cs z T W vo xs w) : ∃ a c, vo = .slice a xs.length c := by
 rcases h.own.2 with ⟨rfl, h0⟩ | ⟨j, cap, cur, rfl, _⟩
 ·exact ⟨none, 0, by rw [h0]⟩
 ·exact ⟨_, _, rfl⟩
theorem OwnR.nice (h : OwnR cs z T W vo xs w) : Nice vo := Nice.of_own h.own
theorem OwnR.rows (hz : ∀ x, (cs x).length = z) (h : OwnR cs z T W vo xs w) : RowsAt cs z w vo xs := RowsAt.of_own hz h.own
theorem OwnR.kept (h : OwnR cs z T W vo xs w) (hb : ∀ g, vo.ownBlock = some g → w'.heap[g]? = w.heap[g]?) (k : Below W.heap.size W w') : OwnR cs z T W vo xs w' := by
 obtain ⟨⟨h0, h1⟩, _⟩ := h
 refine ⟨⟨h0, ?_⟩, k⟩
 rcases h1 with h1 | ⟨j, cap, cur, rfl, h2, h3, h4⟩
 ·exact .inl h1
 ·exact .inr ⟨j, cap, cur, rfl, h2, (hb j rfl).trans h3, h4⟩
theorem OwnR.step (h : OwnR cs z T W vo xs w) (k : Below w.heap.size w w') : OwnR cs z T W vo xs w' :=
 h.kept (fun g hg => k.block g (h.own.lt g hg).2) (h.below.trans (k.mono h.below.size))
theorem row_news (w : World) (ls : List Value) (t : TypeId) : ∀ j u, ls[j]? = some u → (w.alloc (.cells ls.toArray t)).cell? ((⟨w.heap.size, 0, none⟩ : Addr).add j) = some u := by
 intro j u hj
 rw [Addr.add_mid, Nat.zero_add, cell_of_row _ _ _ _ _ _ (heap_alloc_new w _), List.getElem?_toArray]
 exact hj
theorem OwnR.append {a0 : Option Addr} {n0 c0 : Nat} (h : OwnR cs z T W (.slice a0 n0 c0) xs w) (x : α) (hz : ∀ x, (cs x).length = z) (h1 : ∀ u ∈ cs x, u.oneCell' = true) (hz0 : 0 < z) {zero : Value} {by_ : Nat} (hi : (P.info? T).map (fun i => (i.zero, i.size, i.bytes)) = some (some zero, z, by_)) (hzs : zero.cells.size = z) (hlen : xs.length ≤ 100000) (hby : by_ ≤ 10000)
  {ops : Array Oper} {rest : List Oper} {o : Oper} {a : Act} {Q : Exit → Act → World → Prop} (hg : o.guard = none) (s y : Operand) (t : TypeId) (ht : P.underlying t = some (.slice T))
  (ho : o.op = .call { callee := .builtin .append, args := #[s, y], argTypes := #[t, t] }) (hs : a.eval s = .slice a0 n0 c0) (hy : a.eval y = .slice (some ⟨w.heap.size, 0, none⟩) 1 1) {tt : TypeId}
  (k : ∀ a1 c1 w1, OwnR cs z T W (.slice a1 (xs.length + 1) c1) (xs ++ [x]) w1 → wpList P ops Q rest (a.put o.dst (.slice a1 (xs.length + 1) c1)) w1) : wpList P ops Q (o :: rest) a (w.alloc (.cells (cs x).toArray tt)) := by
 obtain ⟨i, hi0, hi1, hi2, hi3⟩ := info_of hi
 have hsz := h.below.size
 have hmul : (xs.length + 1) * by_ ≤ 100001 * 10000 := Nat.mul_le_mul (by omega) hby
 refine wpList_append_own _ hg s y t ho W.heap.size T i zero z by_ ht hi0 hi1 hi2 hi3 hzs hz0 _ _ _ hs (h.own.alloc _) ⟨w.heap.size, 0, none⟩ 1 1 (cs x) hy (by rw [hz, Nat.one_mul]) (row_news _ _ _) h1 (by unfold maxLen; omega) (by omega) (by simp; omega) ?_
 intro v' w1 hown hgrow _
 have hf : ∃ a c, v' = .slice a (xs.length + 1) c := by
  rcases hown.2 with ⟨_, h0⟩ | ⟨j, cap, cur, rfl, _⟩
  ·omega
  ·exact ⟨_, _, rfl⟩
 obtain ⟨a1, c1, rfl⟩ := hf
 refine k a1 c1 w1 ⟨?_, (h.below.alloc hsz _).grown hgrow (by simp; omega) fun j e => (h.own.lt j e).1⟩
 rw [List.length_append, List.flatMap_append]
 simpa using hown
/-- A row that is made: of nothing. -/
theorem OwnR.made (hk : Below W.heap.size W w) : OwnR cs z T W (.slice (some ⟨w.heap.size, 0, none⟩) 0 0) [] (w.alloc (.cells #[] T)) :=
 ⟨World.ownsRow_made w #[] 0 hk.size (Nat.zero_le _) (by simp), hk.alloc hk.size _⟩
end Go.Rws
