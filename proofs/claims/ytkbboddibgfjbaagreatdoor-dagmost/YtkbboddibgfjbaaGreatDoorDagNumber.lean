/- Contract: the number of a reason. -/
import Derived.Test.YtkbboddibgfjbaaGreatDoorDagAsErr
namespace Go.Proofs.YtkbboddibgfjbaaGreatDoor
open Go.RowKit Go.Sort Go.Nod Go.Extern.Stop Go.Stop Go.Extern
attribute [local go_sem] Oper.semAt_some
theorem set_cell {k : Int} {w w4 : World} (k4 : Below (w.alloc (.cells #[.int .i64 0] 27)).heap.size (w.alloc (.cells #[.int .i64 0] 27)) w4) : (w4.setCell ⟨w.heap.size, 0, none⟩ (.int .i64 k)).cell? ⟨w.heap.size, 0, none⟩ = some (.int .i64 k) := by
  have h0 : w4.heap[w.heap.size]? = some (.cells #[.int .i64 0] 27 (0, 0)) := (k4.block _ (by simp)).trans (heap_alloc_new _ _)
  rw [cell_of_row _ _ _ _ _ _ (heap_setCell_same _ _ _ _ _ _ h0)]
  rfl
theorem asNil_any (w : World) (t : Addr) : Calls Tryz.prog 59 #[.nilIface, .iface 117 (.pointer (some t))] w fun e w' => e = .returned (.bool false) ∧ w' = w := by
  go_enter Tryz.func59, Tryz.ntmps59
  go_wp2
  go_ret
  exact ⟨rfl, rfl⟩
/-- The number of a reason; of none 0. -/
theorem numberDag_any {k : Int} {v : Value} (w : World) (hv : Rf k v w) (hg : w.cell? ⟨0, 0, none⟩ = some (.iface 205 (.agg #[.pointer (some ⟨2, 79, none⟩)]))) (hn : k = 0 → v = .nilIface) :
    Calls Tryz.prog 31 #[v] w fun e w' => e = .returned (.int .i64 k) ∧ Below w.heap.size w w' := by
  have k0 := (Below.refl w.heap.size w).alloc (Nat.le_refl _) (.cells #[.int .i64 0] 27)
  by_cases hk : k = 0
  · obtain rfl := hn hk
    subst hk
    have HA := hide (asNil_any (w.alloc (.cells #[.int .i64 0] 27)) ⟨w.heap.size, 0, none⟩)
    have HK := hide k0
    clear k0 hg hv hn
    go_enter Tryz.func31, Tryz.ntmps31
    go_wp2_with (go_at_call 59; refine HA.out.mono ?_; rintro e w3 ⟨rfl, hw3⟩; subst hw3)
    go_ret
    exact ⟨rfl, HK.out⟩
  · have HA := hide (asErr_any hk v ⟨w.heap.size, 0, none⟩ (.int .i64 0) (w.alloc (.cells #[.int .i64 0] 27)) (hv.below k0) ((k0.cell (p := ⟨0, 0, none⟩) (block_lt_of_cell hg)).trans hg) (by simp) (frozen_of_row _ _ _ _ _ (heap_alloc_new _ _)))
    go_enter Tryz.func31, Tryz.ntmps31
    have HK := hide k0
    clear k0
    go_wp2_with (go_at_call 59; refine HA.out.mono ?_; rintro e w3 ⟨rfl, w4, k4, hw3⟩; have hc : w3.cell? ⟨w.heap.size, 0, none⟩ = some (.int .i64 k) := (by rw [hw3]; exact set_cell k4); have H3 := hide (And.intro k4 hw3); clear k4 hw3)
    go_ret
    refine ⟨rfl, ?_⟩
    rw [H3.out.2]
    exact (HK.out.trans (H3.out.1.mono HK.out.size)).setCell (Nat.le_refl _) _
end Go.Proofs.YtkbboddibgfjbaaGreatDoor
