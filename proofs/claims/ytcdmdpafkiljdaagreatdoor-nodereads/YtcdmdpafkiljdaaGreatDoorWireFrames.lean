/- Contracts of texts and frames: the program's and the document's. -/
import Derived.Test.YtcdmdpafkiljdaaGreatDoorWireRefDigits
import Derived.Test.YtcdmdpafkiljdaaGreatDoorWireOut
import Derived.Test.YtcdmdpafkiljdaaGreatDoorWireFnv
namespace Go.Wire
def textB (s : ByteArray) : ByteArray := numB 8 s.size ++ s
def frameB (s : ByteArray) : ByteArray := numB 8 s.size ++ numB 8 (fnv (textB s).data.toList) ++ s
theorem textB_size (s : ByteArray) : (textB s).size = s.size + 8 := by
  rw [textB, ByteArray.size_append, numB_size]; omega
theorem frameB_size (s : ByteArray) : (frameB s).size = s.size + 16 := by
  rw [frameB, ByteArray.size_append, ByteArray.size_append, numB_size, numB_size]; omega
end Go.Wire
namespace Go.Proofs.YtcdmdpafkiljdaaGreatDoor
open Go.RowKit Go.Wire
set_option maxHeartbeats 400000 in
theorem rtextB_any (s : ByteArray) (w : World) (hs : s.size ≤ 1000000) :
    Calls Tryz.prog 69 #[.string s] w fun e w' => e = .returned (.string (textB s)) ∧ Below w.heap.size w w' := by
  have HN : Hid (∀ w : World, Calls Tryz.prog 30 #[.int .u64 s.size, .int .i64 4] w fun e w' => e = .returned (.string (numB 8 s.size)) ∧ Below w.heap.size w w') := fun w => rnum_any s.size 4 w (by omega) (by decide)
  have hz := numB_size 8 s.size
  unfold textB
  generalize numB 8 s.size = t at HN hz
  go_enter Tryz.func69, Tryz.ntmps69
  go_wp2_with (go_at_call 30; refine (HN.out _).mono ?_; rintro e w1 ⟨rfl, k1⟩)
  go_ret
  exact ⟨rfl, by assumption⟩
end Go.Proofs.YtcdmdpafkiljdaaGreatDoor
