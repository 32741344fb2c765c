/- The walk of ChunkGears. -/
import Derived.Test.YtbmgapboajdcpaaChunkJoin
namespace Go.Proofs.Ytbmgapboajdcpaa
open Go.RowKit Go.Chunk
set_option maxHeartbeats 1000000 in
theorem chunkGears_any (a : Int) (w : World) (ha : 0 ≤ a ∧ a ≤ 255) : Calls Try.prog 4 #[.int .u8 a] w fun e w' => e = .returned (.bool true) ∧ Below w.heap.size w w' := by
  obtain ⟨c, rfl⟩ : ∃ c : UInt8, a = (c.toNat : Int) := ⟨UInt8.ofNat a.toNat, by simp; omega⟩
  go_enter Try.func4, Try.ntmps4
  go_wp2_with (first
    | (go_at_call 12; refine (awake_any w).mono ?_; rintro e w1 ⟨rfl, hb⟩; have HB := hide hb; clear hb)
    | (go_at_call 17; refine (gear_any c _).mono ?_; rintro e w2 ⟨rfl, hw⟩; subst hw)
    | (go_at_call 18; refine (rgear_any c _).mono ?_; rintro e w3 ⟨rfl, hw⟩; subst hw))
  go_ret
  exact ⟨by simp, HB.out⟩
end Go.Proofs.Ytbmgapboajdcpaa
