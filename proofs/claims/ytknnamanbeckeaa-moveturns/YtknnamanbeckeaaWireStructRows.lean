/- Slices of structs that are read: what they hold; of no program. -/
import Derived.Test.YtknnamanbeckeaaWireMid
namespace Go.Wire
open Go.RowKit
/-- The slice value v holds n structs of m cells each, in a block that is there: cell c of struct j is f j c. -/
def SRow (w : World) (m : Nat) (v : Value) (n : Nat) (f : Nat → Nat → Value) : Prop :=
  ((∃ a cap, v = .slice a 0 cap) ∧ n = 0) ∨
  ∃ b off cap, v = .slice (some ⟨b, off, none⟩) n cap ∧ b < w.heap.size ∧ n ≤ cap ∧ ∀ j c, j < n → c < m → w.cell? ⟨b, off + j * m + c, none⟩ = some (f j c)
theorem SRow.form {w : World} {m n : Nat} {v : Value} {f : Nat → Nat → Value} (h : SRow w m v n f) : ∃ a c, v = .slice a n c := by
  rcases h with ⟨⟨a, cap, h⟩, rfl⟩ | ⟨b, off, cap, h1, _⟩
  · exact ⟨a, cap, h⟩
  · exact ⟨_, cap, h1⟩
theorem SRow.at {w : World} {m n : Nat} {a : Option Addr} {c : Nat} {f : Nat → Nat → Value} (h : SRow w m (.slice a n c) n f) (hn : 0 < n) : ∃ b off, a = some ⟨b, off, none⟩ ∧ b < w.heap.size ∧ n ≤ c ∧ ∀ j k, j < n → k < m → w.cell? ⟨b, off + j * m + k, none⟩ = some (f j k) := by
  rcases h with ⟨_, rfl⟩ | ⟨b, off, cap, h1, h2, h3, h4⟩
  · omega
  · simp only [Value.slice.injEq, true_and] at h1
    obtain ⟨rfl, rfl⟩ := h1
    exact ⟨b, off, rfl, h2, h3, h4⟩
end Go.Wire
