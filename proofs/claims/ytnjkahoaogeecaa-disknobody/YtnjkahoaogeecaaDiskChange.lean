/- Contract of a change that no fall hinders: whatever is done. -/
import Derived.Test.YtnjkahoaogeecaaDiskStrike
import Derived.Shelf.Abstract
namespace Go.Dk
def WD.counted (S : WD) : WD := { S with a := { S.a with changes := S.a.changes + 1 } }
end Go.Dk
namespace Go.Proofs.Ytnjkahoaogeecaa
open Go.RowKit Go.Dk
set_option maxHeartbeats 400000 in
theorem change_calm (base K K' d : Nat) (S : WD) (w : World) (h : DiskAt Try.prog base K d w S) (hh : S.a.hit = none) (fn : Nat) (caps : Array Value) (R : WD → Prop) (hK : S.a.changes + 1 ≤ K') (hK' : K' ≤ 100000)
    (eg : ∀ args w, (callFunc fn args).run Try.prog w = .ok (.enter fn args) w)
    (hdo : ∀ w1, Below w.heap.size w w1 → Calls Try.prog fn caps w1 fun e w2 => e = .returned (.tuple #[]) ∧ ∃ T, R T ∧ T.a.changes = S.a.changes ∧ DiskAt Try.prog base K' d w2 T ∧ Dsk base w1 w2) :
    Calls Try.prog 43 #[.pointer (some ⟨d, 0, none⟩), .func (.func fn) #[] caps] w fun e w' => e = .returned (.int .i64 0) ∧ ∃ T, R T ∧ DiskAt Try.prog base K' d w' T.counted ∧ Dsk base w w' := by
  have HS := hide (strike_calm base K d S w h hh)
  have HDo := hide hdo
  clear h hh hdo
  generalize S.a.changes = ch at *
  go_enter Try.func43, Try.ntmps43
  go_wp2_with (first
    | (go_at_call 61; refine HS.out.mono ?_; rintro e w1 ⟨rfl, k1⟩)
    | (go_at_fn fn; refine (HDo.out _ (by exact k1)).mono ?_; rintro e w2 ⟨rfl, T, hR, hch, hD, hk⟩; have c2 : w2.cell? ⟨d, 2, none⟩ = some (.int .i64 ch) := (by rw [← hch]; exact (cells6 hD.row).2.2.1); have f2 := (cells6 hD.row).2.2.2.2.2.2 2))
  go_ret
  obtain ⟨k2, k3⟩ := hD.reset (S' := T.counted) (w' := w2.setCell ⟨d, 2, none⟩ (.int .i64 ((ch : Int) + 1))) (by
    rw [heap_setCell_same _ _ _ _ _ _ hD.row]
    unfold WD.counted drow
    simp only [hch]
    rfl) (.set _ _ _ _ rfl) rfl rfl rfl rfl rfl hD.rm (by show T.a.changes + 1 ≤ K'; rw [hch]; exact hK) (Nat.le_refl _) hK'
  exact ⟨rfl, T, hR, k2, Dsk.trans (Dsk.trans (.of_below k1) hk) k3⟩
end Go.Proofs.Ytnjkahoaogeecaa
