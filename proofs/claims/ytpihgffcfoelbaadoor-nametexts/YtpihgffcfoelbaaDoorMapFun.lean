/- A map with strings for keys, told as a function from texts: what is looked up, stored, made; of no program. -/
import Derived.Maps.Own
import Derived.Maps.Views
import Derived.Maps.OwnSet
import Derived.WalkKit
namespace Go.MapFun
open Go.RowKit Go.Maps
/-- How an element's value is told: as a thing of type α. -/
structure Enc (α : Type) where
  R : Value → Option (DataW Unit × List MemPlace)
  v : α → Value
  d : α → DataW Unit
  reads : ∀ a, R (v a) = some (d a, [])
  inv : ∀ x y, R x = some y → ∃ a, x = v a ∧ y = (d a, [])
  inj : ∀ a b, d a = d b → a = b
  ne : ∀ a, d a ≠ .nil
variable {α : Type} {E : Enc α} {P : Program} {K T X : Nat} {w : World} {mb : Option Nat} {f : ByteArray → Option α}
/-- The map mb (or nil) has at most K entries, and holds f. -/
def MapF (P : Program) (E : Enc α) (K : Nat) (w : World) (mb : Option Nat) (f : ByteArray → Option α) : Prop :=
  (mb = none ∧ ∀ s, f s = none) ∨ ∃ b n D, mb = some b ∧ n ≤ K ∧ w.ownsMap P 9 E.R b n D ∧ IsMap D ∧ ∀ s : ByteArray, s.size ≤ maxLen → ∀ z, D.atKey (.string s.data.toList) z = match f s with | some a => E.d a | none => z
theorem MapF.none (P : Program) (E : Enc α) (K : Nat) (w : World) : MapF P E K w none (fun _ => .none) := .inl ⟨rfl, fun _ => rfl⟩
theorem MapF.made (P : Program) (E : Enc α) (K : Nat) (w : World) : MapF P E K (w.alloc (.map #[] 0)) (some w.heap.size) (fun _ => .none) :=
  .inr ⟨_, 0, .map [], rfl, Nat.zero_le _, World.ownsMap_made w P 9 E.R, ⟨[], rfl⟩, fun _ _ _ => rfl⟩
theorem MapF.mono (h : MapF P E K w mb f) {K' : Nat} (hK : K ≤ K') : MapF P E K' w mb f := by
  rcases h with h | ⟨b, n, D, h1, h2, h3⟩
  · exact .inl h
  · exact .inr ⟨b, n, D, h1, Nat.le_trans h2 hK, h3⟩
theorem MapF.kept {w' : World} (h : MapF P E K w mb f) (hb : ∀ b, mb = some b → w'.heap[b]? = w.heap[b]?) : MapF P E K w' mb f := by
  rcases h with h | ⟨b, n, D, h1, h2, ⟨es, cl, h3, h4⟩, h5⟩
  · exact .inl h
  · exact .inr ⟨b, n, D, h1, h2, ⟨es, cl, (hb b h1).trans h3, h4⟩, h5⟩
theorem MapF.lt (h : MapF P E K w mb f) {b : Nat} (hb : mb = some b) : b < w.heap.size := by
  rcases h with ⟨h, _⟩ | ⟨b', n, D, h1, h2, h3, _⟩
  · rw [h] at hb; cases hb
  · rw [h1] at hb; cases hb; exact h3.lt
theorem MapF.kind (h : MapF P E K w mb f) {b : Nat} (hb : mb = some b) : ∃ es cl, w.heap[b]? = some (.map es cl) := by
  rcases h with ⟨h, _⟩ | ⟨b', n, D, h1, h2, ⟨es, cl, h3, h4⟩, h5⟩
  · rw [h] at hb; cases hb
  · rw [h1] at hb; cases hb; exact ⟨es, cl, h3⟩
theorem MapF.below {w' : World} (h : MapF P E K w mb f) (k : Below w.heap.size w w') : MapF P E K w' mb f := h.kept fun _ hb => k.block _ (h.lt hb)
/-- What is looked up. -/
def got (c : Bool) (z : Value) (E : Enc α) : Option α → Value
  | some a => if c then .tuple #[E.v a, .bool true] else E.v a
  | .none => if c then .tuple #[z, .bool false] else z
theorem MapF.look (h : MapF P E K w mb f) (h9 : P.underlying 9 = some .string) (hT : P.underlying T = some (.map 9 X)) {z : Value} (hz : (zeroValue X).run P w = .ok z w) (c : Bool) (s : ByteArray) (hs : s.size ≤ maxLen) :
    (Instr.lookup T (.map mb) (.string s) c).run P w = .ok (got c z E (f s)) w := by
  have hkey := WideMaps.keyOf_string_mk h9 hs
  rcases h with ⟨rfl, hf⟩ | ⟨b, n, D, rfl, -, ⟨es, cl, hb, F, -, hD⟩, -, hat⟩
  · rw [hf]
    exact Maps.look_nil c (string_keyed h9) hT hz hkey
  · have ha := hat s hs
    rcases Maps.fit_look c (string_keyed h9) hT hz hb F hkey with ⟨hrun, _, h1⟩ | ⟨e0, y, _, _, hrun, hRv, h1, _⟩
    · rw [hrun]
      have e1 := h1 .nil
      rw [← hD, ha .nil] at e1
      cases hx : f s with
      | none => rfl
      | some a => rw [hx] at e1; exact absurd e1 (E.ne a)
    · rw [hrun]
      obtain ⟨a', hv, rfl⟩ := E.inv _ _ hRv
      have e1 := h1 .nil
      rw [← hD, ha .nil] at e1
      cases hx : f s with
      | none => rw [hx] at e1; exact absurd e1.symm (E.ne a')
      | some a =>
        rw [hx] at e1
        obtain rfl := E.inj _ _ e1
        rw [hv]
        rfl
/-- What is stored. -/
theorem MapF.update {b : Nat} (h : MapF P E K w (some b) f) (h9 : P.underlying 9 = some .string) (hT : P.underlying T = some (.map 9 X)) (hK : K < maxLen) (s : ByteArray) (hs : s.size ≤ maxLen) (a : α) :
    ∃ w', (Instr.mapUpdate T (.map (some b)) (.string s) (E.v a)).run P w = .ok () w' ∧ MapF P E (K + 1) w' (some b) (fun t => if t = s then some a else f t) ∧ w.grownBy w' (some b) := by
  have hkey := WideMaps.keyOf_string_mk h9 hs
  rcases h with ⟨h, _⟩ | ⟨b', n, D, h1, hn, ho, hm, hat⟩
  · cases h
  · cases h1
    obtain ⟨w', hrun, ho', hg⟩ := ho.update (string_keyed h9) hT (Nat.lt_of_le_of_lt hn hK) hkey (E.reads a)
    refine ⟨w', hrun, .inr ⟨b, n + 1, _, rfl, by omega, ho', ?_, fun t ht z => ?_⟩, hg⟩
    · obtain ⟨es, rfl⟩ := hm
      exact ⟨_, rfl⟩
    · by_cases e : t = s
      · subst e
        simp only [if_true]
        exact atKey_put_same hm (by trivial) _ _
      · simp only [e, if_false]
        rw [atKey_put_other (fun h => e (by injection h with h; exact ByteArray.ext (Array.toList_inj.1 h)))]
        exact hat t ht z
end Go.MapFun
