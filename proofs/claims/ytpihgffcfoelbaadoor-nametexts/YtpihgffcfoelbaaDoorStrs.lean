/- A slice of strings that is read: what it holds; a row of bytes written out; of no program. -/
import Derived.Test.YtpihgffcfoelbaaDoorBytes
namespace Go.ByteRow
open Go.RowKit Go.Sha
/-- A row of bytes, as it is laid. -/
theorem Has.lit {base : Nat} {w : World} (hb : base ≤ w.heap.size) (cs : Array Value) (l : List UInt8) (n : Nat) (hn : n = l.length) (hcs : cs = (l.map byteV).toArray) (e : TypeId) : Has base (w.alloc (.cells cs e)) (.slice (some ⟨w.heap.size, 0, none⟩) n n) l := by
  subst hn hcs
  have hh := heap_alloc_new w (.cells (l.map byteV).toArray e (0, 0))
  refine .inr ⟨w.heap.size, l.length, rfl, hb, by simp, Nat.le_refl _, fun j c hj => ?_, fun j hj => ?_⟩
  · rw [cell_of_row _ _ _ _ _ _ hh, List.getElem?_toArray, List.getElem?_map, hj]; rfl
  · exact ⟨by rw [cell_of_row _ _ _ _ _ _ hh, List.getElem?_toArray, List.getElem?_map, List.getElem?_eq_getElem hj]; rfl, frozen_of_row _ _ _ _ _ hh⟩
end Go.ByteRow
namespace Go.StrRow
open Go.RowKit
/-- The slice value v holds the strings xs, in a block that is there. -/
def Reads (w : World) (v : Value) (xs : List ByteArray) : Prop :=
  ((∃ a cap, v = .slice a 0 cap) ∧ xs = []) ∨
  ∃ b off cap, v = .slice (some ⟨b, off, none⟩) xs.length cap ∧ b < w.heap.size ∧ xs.length ≤ cap ∧ ∀ j s, xs[j]? = some s → w.cell? ⟨b, off + j, none⟩ = some (.string s)
theorem Reads.below {w w' : World} {v : Value} {xs : List ByteArray} (h : Reads w v xs) {B : Nat} (hb : Below B w w') (hB : w.heap.size ≤ B) : Reads w' v xs := by
  rcases h with h | ⟨b, off, cap, h1, h2, h3, h4⟩
  · exact .inl h
  · exact .inr ⟨b, off, cap, h1, Nat.lt_of_lt_of_le h2 hb.size, h3, fun j s hj => by rw [hb.cell (p := ⟨b, off + j, none⟩) (by show b < B; omega)]; exact h4 j s hj⟩
theorem Reads.form {w : World} {v : Value} {xs : List ByteArray} (h : Reads w v xs) : ∃ a c, v = .slice a xs.length c := by
  rcases h with ⟨⟨a, cap, h⟩, rfl⟩ | ⟨b, off, cap, h1, _⟩
  · exact ⟨a, cap, h⟩
  · exact ⟨_, cap, h1⟩
theorem Reads.at {w : World} {v : Value} {xs : List ByteArray} (h : Reads w v xs) (hx : xs ≠ []) : ∃ b off cap, v = .slice (some ⟨b, off, none⟩) xs.length cap ∧ xs.length ≤ cap ∧ b < w.heap.size := by
  rcases h with ⟨_, rfl⟩ | ⟨b, off, cap, h1, h2, h3, _⟩
  · exact absurd rfl hx
  · exact ⟨b, off, cap, h1, h3, h2⟩
theorem Reads.cell {w : World} {b off cap n : Nat} {xs : List ByteArray} (h : Reads w (.slice (some ⟨b, off, none⟩) n cap) xs) {j : Nat} {s : ByteArray} (hj : xs[j]? = some s) : w.cell? ⟨b, off + j, none⟩ = some (.string s) := by
  rcases h with ⟨_, rfl⟩ | ⟨b', off', cap', h1, _, _, h4⟩
  · cases hj
  · simp only [Value.slice.injEq, Option.some.injEq, Addr.mk.injEq] at h1
    obtain ⟨⟨rfl, rfl, -⟩, -, rfl⟩ := h1
    exact h4 j s hj
theorem Reads.of_own {base e : Nat} {w : World} {v : Value} {n : Nat} {xs : List ByteArray} (h : w.ownsRow base e 1 v n (xs.map Value.string)) : Reads w v xs := by
  obtain ⟨h0, h1⟩ := h
  have hn : n = xs.length := by simpa using h0.symm
  subst hn
  rcases h1 with ⟨h1, h2⟩ | ⟨g, cap, cur, h1, h2, h3, h4, _, h6, h7⟩
  · exact .inl ⟨⟨none, 0, h1⟩, List.length_eq_zero_iff.1 h2⟩
  · have hlt : g < w.heap.size := by
      rcases Nat.lt_or_ge g w.heap.size with h | h
      · exact h
      · rw [Array.getElem?_eq_none h] at h3; cases h3
    refine .inr ⟨g, 0, cap, h1, hlt, h4, fun j s hj => ?_⟩
    have hjl : j < xs.length := (List.getElem?_eq_some_iff.1 hj).1
    rw [Nat.zero_add, cell_of_row _ _ _ _ _ _ h3, ← Array.getElem?_toList]
    have : (cur.toList.take (xs.length * 1))[j]? = some (.string s) := by rw [h7, List.getElem?_map, hj]; rfl
    rwa [List.getElem?_take_of_lt (by omega)] at this
end Go.StrRow
