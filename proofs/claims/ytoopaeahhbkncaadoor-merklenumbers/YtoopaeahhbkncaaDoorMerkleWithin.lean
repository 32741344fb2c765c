/- Contracts: an error's number where it is a number itself. -/
import Derived.Test.YtoopaeahhbkncaaDoorMerkleAs
import Derived.Test.YtoopaeahhbkncaaDoorMerkleAwake
import Derived.Defers
import Derived.Recover
import Derived.Laws.Pointers
namespace Go.Proofs.YtoopaeahhbkncaaDoor
open Go.RowKit Go.Shelf Go.Wire Go.Mk Go.Chunk
theorem catch_idle (p : Addr) (w : World) :
    CallsD Tryd.prog 87 #[.pointer (some p)] .returning w fun e u' w' => e = .returned (.tuple #[]) ∧ u' = .returning ∧ w' = w := by
  refine callsD_of_wpS Tryd.func87 rfl fun c₀ cs hu => ?_
  apply wpS_seq
  apply wpS_region
  simp [wpOpsS, go_sem, recoverD, hu, Tryd.ntmps87, Exit.thenS]
  refine wpS_cond (t := false) (by simp [Act.eval, Array.replicate]) ?_
  simp only [Bool.false_eq_true, if_false]
  refine wpS_of_wp (wp_skip ?_)
  cases c₀
  simp_all [bodyPostS, results, Tryd.results87]
set_option maxRecDepth 100000 in
set_option maxHeartbeats 2000000 in
theorem within_hit (n : Int) (w : World) (hg : w.cell? ⟨0, 0, none⟩ = some (.iface 140 (.agg #[.pointer (some ⟨2, 79, none⟩)]))) :
    Calls Tryd.prog 64 #[.iface 27 (.int .i64 n)] w fun e w' => e = .returned (.int .i64 n) ∧ Below w.heap.size w w' := by
  have hmf : ∀ (fn : Fn) (first cap : Array Value) (w : World), (Instr.makeFunc fn first cap).run Tryd.prog w = .ok (.func fn first cap) w := fun _ _ _ _ => rfl
  have hgl : 0 < w.heap.size := block_lt_of_cell hg
  have hgA : ((w.alloc (.cells #[.int .i64 0] 27)).alloc (.cells #[.int .i64 0] 27)).cell? ⟨0, 0, none⟩ = some (.iface 140 (.agg #[.pointer (some ⟨2, 79, none⟩)])) := by
    rw [World.cell?_alloc_lt _ _ ⟨0, 0, none⟩ (by first | (simp; done) | (simp; omega)), World.cell?_alloc_lt _ _ ⟨0, 0, none⟩ hgl]; exact hg
  have htA : ((w.alloc (.cells #[.int .i64 0] 27)).alloc (.cells #[.int .i64 0] 27)).cell? ⟨w.heap.size + 1, 0, none⟩ = some (.int .i64 0) := by simp
  have hfA : ((w.alloc (.cells #[.int .i64 0] 27)).alloc (.cells #[.int .i64 0] 27)).frozen? ⟨w.heap.size + 1, 0, none⟩ = false := by simp
  have HAS := hide (as_hit n ⟨w.heap.size + 1, 0, none⟩ (.int .i64 0) _ hgA htA hfA)
  clear hg hgA htA hfA
  go_enter_defers Tryd.func64, Tryd.ntmps64
  go_wp2_with (go_at_call 88; refine HAS.out.mono ?_; rintro e w' ⟨rfl, hw⟩; subst hw)
  refine leaves_cons (f := 87) (args := #[.pointer (some ⟨w.heap.size, 0, none⟩)]) (by simp) (by simp [go_sem]) ?_
  refine (catch_idle ⟨w.heap.size, 0, none⟩ _).mono ?_
  rintro e u' w'' ⟨rfl, rfl, rfl⟩
  have hB : Below w.heap.size w ((((((w.alloc (.cells #[.int .i64 n] 27)).alloc (.cells #[.int .i64 n] 27)).alloc (.cells #[.pointer (some ⟨w.heap.size + 1, 0, none⟩)] 116)).alloc (.cells #[.pointer (some ⟨2, 116, none⟩), .pointer (some ⟨w.heap.size + 1 + 1, 0, none⟩), .int .u64 150] 156)).alloc (.cells #[.pointer (some ⟨2, 116, none⟩), .pointer (some ⟨w.heap.size + 1 + 1, 0, none⟩), .int .u64 150] 156)).alloc (.cells #[.int .i64 n] 27)) :=
    ((((((Below.refl _ w).alloc (Nat.le_refl _) _).alloc (by simp) _).alloc (by simp; omega) _).alloc (by simp; omega) _).alloc (by simp; omega) _).alloc (by simp; omega) _
  have HB := hide hB
  clear hB HAS
  simp [Leaves, settle, results, Tryd.results64, go_sem]
  exact HB.out
set_option maxHeartbeats 1000000 in
theorem number_nil (w : World) :
    Calls Tryd.prog 34 #[.nilIface] w fun e w' => e = .returned (.int .i64 0) ∧ Below w.heap.size w w' := by
  go_enter Tryd.func34, Tryd.ntmps34
  go_wp2
  go_ret
  exact ⟨rfl, Below.refl _ _⟩
set_option maxHeartbeats 1000000 in
theorem number_hit (n : Int) (w : World) (hg : w.cell? ⟨0, 0, none⟩ = some (.iface 140 (.agg #[.pointer (some ⟨2, 79, none⟩)]))) :
    Calls Tryd.prog 34 #[.iface 27 (.int .i64 n)] w fun e w' => e = .returned (.int .i64 n) ∧ Below w.heap.size w w' := by
  have HW := hide (within_hit n w hg)
  clear hg
  go_enter Tryd.func34, Tryd.ntmps34
  go_wp2_with (go_at_call 64; refine HW.out.mono ?_; rintro e w' ⟨rfl, hb⟩)
  go_ret
  exact ⟨rfl, hb⟩
end Go.Proofs.YtoopaeahhbkncaaDoor
