/- Contract: what an operation makes of its thing. -/
import Derived.Test.YtknnamanbeckeaaMoveBecome0
import Derived.Test.YtknnamanbeckeaaMoveBecome1
import Derived.Test.YtknnamanbeckeaaMoveBecome2
import Derived.Test.YtknnamanbeckeaaMoveBecome3
import Derived.Test.YtknnamanbeckeaaMoveBecome4
namespace Go.Proofs.Ytknnamanbeckeaa
open Go.RowKit Go.Opn Go.Stamp Go.MapInt Go.Mov
theorem becomes_any {b : Nat} {mb : Option Nat} {t : Ths} (e : En) (w : World) (h : ThsAt Try.prog 30 b mb t w) (hf : Fine t) (he : e.Fits) :
    Calls Try.prog 43 #[.pointer (some ⟨b, 0, none⟩), (Sp.mk e (Mov.look t e.op.thing)).v] w fun r w' =>
      ∃ x : Th, r = .returned (.tuple #[x.v, .bool (now t.length t e.op).isSome]) ∧ (∀ y, now t.length t e.op = some y → x = y) ∧ Below w.heap.size w w' := by
  by_cases h1 : e.op.kind = 1
  · exact becomes1 e w h hf he h1
  · by_cases h2 : e.op.kind = 2
    · exact becomes2 e w h hf he h2
    · by_cases h3 : e.op.kind = 3
      · exact becomes3 e w h hf he h3
      · by_cases h4 : e.op.kind = 4
        · exact becomes4 e w h hf he h4
        · exact becomes0 e w h hf he ⟨h1, h2, h3, h4⟩
end Go.Proofs.Ytknnamanbeckeaa
