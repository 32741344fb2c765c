/- Contracts of the small functions of both packages that make eight or eighty numbers. -/
import Derived.Test.YtcfjlnceofdcdaaDoorRows
import Derived.Test.YtcfjlnceofdcdaaDoorShaMix
import Derived.WalkKit
import Derived.WalkSpells
import Derived.WalkLawsBesides
import Derived.Deep.QuietTactic
import Derived.Deep.RegionWith
import Derived.Test.YtcfjlnceofdcdaaDoorTail
import Derived.BigQuiet
import Derived.Deep.WholeRow
namespace Go.Proofs.YtcfjlnceofdcdaaDoor
open Go.RowKit
set_option maxRecDepth 100000 in
set_option maxHeartbeats 1000000 in
theorem mix_not (a b c d e f g h : Int) (s : ByteArray) (w : World) (hs : s.size ≠ 128) :
    Calls Tryd.prog 32 #[.agg #[.int .u64 a, .int .u64 b, .int .u64 c, .int .u64 d, .int .u64 e, .int .u64 f, .int .u64 g, .int .u64 h], .string s] w fun e1 w' => e1 = .returned (.agg #[.int .u64 a, .int .u64 b, .int .u64 c, .int .u64 d, .int .u64 e, .int .u64 f, .int .u64 g, .int .u64 h]) ∧ Below w.heap.size w w' := by
  have hs2 : ((s.size : Int) != 128) = true := by rw [bne_iff_ne]; omega
  go_enter Tryd.func32, Tryd.ntmps32
  go_wp2
  exact bodyPost_ret (v := .agg #[.int .u64 a, .int .u64 b, .int .u64 c, .int .u64 d, .int .u64 e, .int .u64 f, .int .u64 g, .int .u64 h]) (by simp [results, Tryd.results32, go_sem]) rfl ⟨rfl, ((Below.refl _ _).alloc (Nat.le_refl _) _).alloc (by simp) _⟩
theorem zero23 : (Tryd.prog.info? 52).map (fun i => (i.zero, i.size)) = some (some (.agg #[.int .u64 0, .int .u64 0, .int .u64 0, .int .u64 0, .int .u64 0, .int .u64 0, .int .u64 0, .int .u64 0]), 8) := by kernel_rfl
set_option maxRecDepth 100000 in
set_option maxHeartbeats 1000000 in
theorem start_any (w : World) :
    Calls Tryd.prog 25 #[] w fun e1 w' => e1 = .returned (.agg Sha.start.cells) ∧ Below w.heap.size w w' := by
  go_enter Tryd.func25, Tryd.ntmps25
  go_wp2
  exact bodyPost_ret (v := .agg Sha.start.cells) (by simp [results, Tryd.results25, go_sem]; rfl) rfl ⟨rfl, (Below.refl _ _).alloc (Nat.le_refl _) _⟩
set_option maxRecDepth 100000 in
set_option maxHeartbeats 1000000 in
theorem rstart_any (w : World) :
    Calls Tryd.prog 29 #[] w fun e1 w' => e1 = .returned (.agg Sha.start.cells) ∧ Below w.heap.size w w' := by
  go_enter Tryd.func29, Tryd.ntmps29
  go_wp2
  exact bodyPost_ret (v := .agg Sha.start.cells) (by simp [results, Tryd.results29, go_sem]; rfl) rfl ⟨rfl, (Below.refl _ _).alloc (Nat.le_refl _) _⟩
set_option maxRecDepth 100000 in
set_option maxHeartbeats 1000000 in
theorem salts_any (w : World) :
    Calls Tryd.prog 34 #[] w fun e1 w' => e1 = .returned (.agg (Sha.cells80 Sha.kk)) ∧ Below w.heap.size w w' := by
  have hz := (zero_of_info zero39).1
  go_enter Tryd.func34, Tryd.ntmps34
  go_wp2_with (first | refine wpList_build rfl 59 _ rfl (by kernel_rfl) ?_ | refine wpList_store_row rfl 59 _ _ rfl _ (Sha.cells80 Sha.kk) rfl (by kernel_rfl) 59 _ (heap_alloc_new _ _) (by rw [Sha.cells80_size]; exact info39) (by rw [Sha.cells80_size, Sha.cells80_size]) (ShaW.cells80_one _) ?_)
  rw [World.setRow_alloc_new]
  exact bodyPost_ret (v := .agg (Sha.cells80 Sha.kk)) (results_cell_row Tryd.results34 _ _ _ 59 _ (0, 0) _ rfl (heap_alloc_new _ _) under39 rfl (by rw [Sha.cells80_size]; exact info39)) rfl ⟨rfl, (Below.refl _ _).alloc (Nat.le_refl _) _⟩
end Go.Proofs.YtcfjlnceofdcdaaDoor
