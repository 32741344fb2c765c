/- Rows of structs in memory, element by element; of no program. -/
import Derived.Test.YtohdadjknefjcaaMoveSearch
namespace Go.Rws
open Go.RowKit
variable {α : Type}
/-- A slice value of xs, each z cells long. -/
def RowsAt (cs : α → List Value) (z : Nat) (w : World) (v : Value) (xs : List α) : Prop :=
  ((∃ a c, v = .slice a 0 c) ∧ xs = []) ∨ ∃ g off cap, v = .slice (some ⟨g, off, none⟩) xs.length cap ∧ g < w.heap.size ∧ xs.length ≤ cap ∧ ∀ i x, xs[i]? = some x → w.rangeAt g (off + i * z) (cs x)
variable {cs : α → List Value} {z : Nat} {w w' : World} {v : Value} {xs : List α}
theorem RowsAt.kept (h : RowsAt cs z w v xs) (hs : w.heap.size ≤ w'.heap.size) (hk : ∀ g, v.ownBlock = some g → w'.heap[g]? = w.heap[g]?) : RowsAt cs z w' v xs := by
  rcases h with h | ⟨g, off, cap, h1, h2, h3, h4⟩
  · exact .inl h
  · refine .inr ⟨g, off, cap, h1, Nat.lt_of_lt_of_le h2 hs, h3, fun i s hs j u hu => ?_⟩
    rw [← h4 i s hs j u hu]
    have := hk g (by rw [h1]; rfl)
    unfold World.cell?
    dsimp only
    rw [this]
theorem RowsAt.below (h : RowsAt cs z w v xs) (k : Below w.heap.size w w') : RowsAt cs z w' v xs := by
  rcases h with h | h
  · exact .inl h
  · have h' := h
    obtain ⟨g, off, cap, h1, h2, _⟩ := h'
    exact RowsAt.kept (.inr h) k.size fun g' hg => k.block g' (by rw [h1] at hg; cases hg; exact h2)
theorem RowsAt.form (h : RowsAt cs z w v xs) : ∃ a c, v = .slice a xs.length c := by
  rcases h with ⟨⟨a, c, rfl⟩, rfl⟩ | ⟨g, off, cap, rfl, _⟩
  · exact ⟨_, _, rfl⟩
  · exact ⟨_, _, rfl⟩
theorem RowsAt.at {a : Option Addr} {n c : Nat} (h : RowsAt cs z w (.slice a n c) xs) (hn : xs ≠ []) : ∃ g off, a = some ⟨g, off, none⟩ ∧ n = xs.length ∧ xs.length ≤ c ∧ g < w.heap.size ∧ ∀ i x, xs[i]? = some x → w.rangeAt g (off + i * z) (cs x) := by
  rcases h with ⟨_, h⟩ | ⟨g, off, cap, h1, h2, h3, h4⟩
  · exact absurd h hn
  · simp only [Value.slice.injEq] at h1
    obtain ⟨rfl, rfl, rfl⟩ := h1
    exact ⟨g, off, rfl, rfl, h3, h2, h4⟩
theorem flat_len (hz : ∀ x, (cs x).length = z) : ∀ xs : List α, (xs.flatMap cs).length = xs.length * z
  | [] => by simp
  | x :: r => by rw [List.flatMap_cons, List.length_append, hz, flat_len hz r, List.length_cons, Nat.add_mul]; omega
theorem flat_in (hz : ∀ x, (cs x).length = z) : ∀ {xs : List α} {i : Nat} {x : α}, xs[i]? = some x → ∀ j u, (cs x)[j]? = some u → (xs.flatMap cs)[i * z + j]? = some u
  | [], i, s, h, _, _, _ => by simp at h
  | a :: r, 0, s, h, j, u, hu => by
    simp only [List.getElem?_cons_zero, Option.some.injEq] at h
    subst h
    rw [List.flatMap_cons, List.getElem?_append_left]
    · simpa using hu
    · have := (List.getElem?_eq_some_iff.1 hu).1
      simpa using this
  | a :: r, i + 1, s, h, j, u, hu => by
    rw [List.flatMap_cons, List.getElem?_append_right (by rw [hz, Nat.add_mul]; omega)]
    rw [show (i + 1) * z + j - (cs a).length = i * z + j by rw [hz, Nat.add_mul]; omega]
    exact flat_in hz (xs := r) (by simpa using h) j u hu
theorem flat_out (hz : ∀ x, (cs x).length = z) (h0 : 0 < z) : ∀ {xs : List α} {j : Nat} {u : Value}, (xs.flatMap cs)[j]? = some u → ∃ x, xs[j / z]? = some x ∧ (cs x)[j % z]? = some u
  | [], j, u, h => by simp at h
  | a :: r, j, u, h => by
    rw [List.flatMap_cons] at h
    by_cases hj : j < z
    · rw [List.getElem?_append_left (by rw [hz]; exact hj)] at h
      exact ⟨a, by rw [Nat.div_eq_of_lt hj]; rfl, by rw [Nat.mod_eq_of_lt hj]; exact h⟩
    · have hj : z ≤ j := by omega
      rw [List.getElem?_append_right (by rw [hz]; exact hj), hz] at h
      obtain ⟨s, h1, h2⟩ := flat_out hz h0 h
      refine ⟨s, ?_, by rw [Nat.mod_eq_sub_mod hj]; exact h2⟩
      rw [Nat.div_eq_sub_div h0 hj, List.getElem?_cons_succ]
      exact h1
theorem RowsAt.of_own {base e : Nat} (hz : ∀ x, (cs x).length = z) (h : w.ownsRow base e z v xs.length (xs.flatMap cs)) : RowsAt cs z w v xs := by
  obtain ⟨h0, h1⟩ := h
  rcases h1 with ⟨h1, h2⟩ | ⟨g, cap, cur, h1, h2, h3, h4, h5, h6, h7⟩
  · exact .inl ⟨⟨none, 0, h1⟩, List.length_eq_zero_iff.1 h2⟩
  · have hlt : g < w.heap.size := by
      rcases Nat.lt_or_ge g w.heap.size with h | h
      · exact h
      · rw [Array.getElem?_eq_none h] at h3; cases h3
    refine .inr ⟨g, 0, cap, h1, hlt, h4, fun i x hi j u hu => ?_⟩
    have hc := flat_in hz hi j u hu
    have hl := (List.getElem?_eq_some_iff.1 hc).1
    rw [h0] at hl
    rw [← h7, List.getElem?_take_of_lt hl, Array.getElem?_toList] at hc
    rw [Nat.zero_add, cell_of_row _ _ _ _ _ _ h3]
    exact hc
/-- All cells of a row, one behind the other. -/
theorem RowsAt.cell {g off c n : Nat} (hz : ∀ x, (cs x).length = z) (h0 : 0 < z) (h : RowsAt cs z w (.slice (some ⟨g, off, none⟩) n c) xs) : ∀ j u, (xs.flatMap cs)[j]? = some u → w.cell? ⟨g, off + j, none⟩ = some u := by
  intro j u hu
  rcases h with ⟨_, h⟩ | ⟨g', off', cap, h1, h2, h3, h4⟩
  · subst h; simp at hu
  · simp only [Value.slice.injEq, Option.some.injEq, Addr.mk.injEq, and_true] at h1
    obtain ⟨⟨rfl, rfl⟩, rfl, rfl⟩ := h1
    obtain ⟨x, e1, e2⟩ := flat_out hz h0 hu
    have := h4 _ x e1 _ u e2
    have e3 : off + j / z * z + j % z = off + j := by rw [Nat.add_assoc, Nat.mul_comm, Nat.div_add_mod]
    rw [e3] at this
    exact this
theorem RowsAt.take {a : Option Addr} {n c k : Nat} (h : RowsAt cs z w (.slice a n c) xs) (hk : k ≤ xs.length) : RowsAt cs z w (.slice a k c) (xs.take k) := by
  rcases h with ⟨⟨a', c', h1⟩, h2⟩ | ⟨g, off, cap, h1, h2, h3, h4⟩
  · subst h2
    obtain rfl : k = 0 := by simpa using hk
    exact .inl ⟨⟨a, c, rfl⟩, rfl⟩
  · simp only [Value.slice.injEq] at h1
    obtain ⟨rfl, rfl, rfl⟩ := h1
    have e : (xs.take k).length = k := by rw [List.length_take]; omega
    refine .inr ⟨g, off, c, by rw [e], h2, by omega, fun i x hi => ?_⟩
    have hik := (List.getElem?_eq_some_iff.1 hi).1
    rw [List.getElem?_take_of_lt (by omega)] at hi
    exact h4 i x hi
end Go.Rws
