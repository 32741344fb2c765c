/- Contract: all from a place on is taken back, whatever the row is. -/
import Derived.Test.YtknnamanbeckeaaMoveBackSome
import Derived.Test.YtknnamanbeckeaaMoveBackEq
import Derived.Test.YtknnamanbeckeaaMoveBackNil
namespace Go.Proofs.Ytknnamanbeckeaa
open Go.RowKit Go.Opn Go.Stamp Go.MapInt Go.Mov Go.Shelf
theorem takeBack_any {base : Nat} {F : Ft} {l : List En} {u : Int} (n : Nat) (w : World) (h : TreeAt Try.prog 30 66 75 base F l u w) (hn : n ≤ l.length) (hl : l.length ≤ 100000) (hb : base ≤ w.heap.size) :
    Calls Try.prog 26 #[.pointer (some ⟨F.b, 0, none⟩), .int .i64 n] w fun r w' =>
      ∃ F' v', r = .returned v' ∧ F'.b = F.b ∧ TreeAt Try.prog 30 66 75 base F' (l.take n) u w' ∧ w'.ownsRow w.heap.size 75 17 v' (l.length - n) ((sps (ths [] (l.take n)) (l.drop n)).flatMap Sp.cs) ∧ (∀ x, F'.has x → F.has x) ∧ Tn F w w' := by
  rcases h.row.2 with ⟨hv, h0⟩ | ⟨g, cap, cur, hv, _⟩
  · obtain rfl : l = [] := List.length_eq_zero_iff.1 h0
    obtain rfl : n = 0 := Nat.le_zero.1 hn
    obtain ⟨b, mb, lv⟩ := F
    dsimp only at hv
    subst hv
    refine (takeBack_nil w h hb).mono ?_
    rintro r w' ⟨v', rfl, h1, h2, h3⟩
    exact ⟨_, v', rfl, rfl, h1, h2, fun _ h => h, h3⟩
  · by_cases e : cap = n
    · subst e
      exact takeBack_eq cap w h hn hl hb ⟨g, hv⟩
    · exact takeBack_some n w h hn hl hb ⟨g, cap, hv, e⟩
end Go.Proofs.Ytknnamanbeckeaa
