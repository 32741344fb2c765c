/- What the reader's looks answer in worlds that only grew. -/
import Derived.Test.YtajbhfejjenloaaWireFew
import Derived.Test.YtajbhfejjenloaaWireRefTakes
import Derived.Lib.QuietBelow
namespace Go.Wire
open Go.RowKit Go.Sort
theorem Rd.regrown {T b : Nat} {q : St} {W : World} (h : Rd T b q W) (d : Nat) (os : Array Obj) : Rd T b q (grow (redrawn W d) os) := h.of_heap ((below_regrown W d os).block b h.lt)
end Go.Wire
namespace Go.Proofs.Ytajbhfejjenloaa
open Go.RowKit Go.Wire Go.Sort
theorem awake_quiet (W : World) (d : Nat) (os : Array Obj) : Calls Try.prog 13 #[] (grow (redrawn W d) os) fun e w'' => e = .returned (.bool true) ∧ ∃ p : Regrown, w'' = grow (redrawn W p.d) p.os :=
  Calls.regrown_of (awake_any _)
theorem err_quiet {b : Nat} {q : St} {W : World} (h : Rd 74 b q W) (d : Nat) (os : Array Obj) : Calls Try.prog 14 #[.pointer (some ⟨b, 0, none⟩)] (grow (redrawn W d) os) fun e w'' => e = .returned (.int .i64 q.err) ∧ ∃ p : Regrown, w'' = grow (redrawn W p.d) p.os :=
  Calls.regrown_of ((err_any b q _ (h.regrown d os)).mono fun _ _ ⟨he, hw⟩ => ⟨he, by rw [hw]; exact Below.refl _ _⟩)
theorem at_quiet {b : Nat} {q : St} {W : World} (h : Rd 74 b q W) (d : Nat) (os : Array Obj) : Calls Try.prog 15 #[.pointer (some ⟨b, 0, none⟩)] (grow (redrawn W d) os) fun e w'' => e = .returned (.int .i64 q.pos) ∧ ∃ p : Regrown, w'' = grow (redrawn W p.d) p.os :=
  Calls.regrown_of ((at_any b q _ (h.regrown d os)).mono fun _ _ ⟨he, hw⟩ => ⟨he, by rw [hw]; exact Below.refl _ _⟩)
theorem left_quiet {b : Nat} {q : St} {W : World} (h : Rd 74 b q W) (hq : q.pos ≤ q.s.size) (hs : q.s.size ≤ maxLen) (d : Nat) (os : Array Obj) : Calls Try.prog 16 #[.pointer (some ⟨b, 0, none⟩)] (grow (redrawn W d) os) fun e w'' => e = .returned (.int .i64 ((q.s.size : Int) - q.pos)) ∧ ∃ p : Regrown, w'' = grow (redrawn W p.d) p.os :=
  Calls.regrown_of ((left_any b q _ (h.regrown d os) hq hs).mono fun _ _ ⟨he, hw⟩ => ⟨he, by rw [hw]; exact (Below.refl _ _).drew⟩)
end Go.Proofs.Ytajbhfejjenloaa
