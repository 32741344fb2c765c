/- Contracts: the digests of operations, the program's and the document's. -/
import Derived.Test.YtcdmdpafkiljdaaGreatDoorOpOne
import Derived.Test.YtcdmdpafkiljdaaGreatDoorOpRefs
import Derived.Test.YtcdmdpafkiljdaaGreatDoorShaThree
namespace Go.Opn
/-- The digest of bytes for the purpose O. -/
def tag (l : List UInt8) : ByteArray := ⟨(Sha.sum (Sha.parts 79 [l])).toArray⟩
end Go.Opn
namespace Go.Proofs.YtcdmdpafkiljdaaGreatDoor
open Go.RowKit Go.Wire Go.Stamp Go.Opn
theorem one_reads (w : World) (x : ByteArray) (T : TypeId) : StrRow.Reads (w.alloc (.cells #[.string x] T)) (.slice (some ⟨w.heap.size, 0, none⟩) 1 1) [x] :=
  .inr ⟨w.heap.size, 0, 1, rfl, by simp, Nat.le_refl _, fun j s hj => by
    match j, hj with
    | 0, hj => cases hj; exact cell_of_row _ _ _ _ _ _ (heap_alloc_new _ _)⟩
theorem tagOne (x : ByteArray) (w : World) (hx : x.size ≤ 700) (hst : Steps w) :
    Calls Tryz.prog 33 #[.int .u8 79, .slice (some ⟨w.heap.size, 0, none⟩) 1 1] (w.alloc (.cells #[.string x] 9)) fun e w' => e = .returned (.string (tag x.data.toList)) ∧ Below (w.alloc (.cells #[.string x] 9)).heap.size (w.alloc (.cells #[.string x] 9)) w' :=
  tagged_any 79 _ [x] _ (one_reads w x 9) (by simp) (fun s hs => by rw [List.mem_singleton.1 hs]; omega) (hst.alloc _)
theorem rtagOne (x : ByteArray) (w : World) (hx : x.size ≤ 700) :
    Calls Tryz.prog 34 #[.int .u8 79, .slice (some ⟨w.heap.size, 0, none⟩) 1 1] (w.alloc (.cells #[.string x] 9)) fun e w' => e = .returned (.string (tag x.data.toList)) ∧ Below (w.alloc (.cells #[.string x] 9)).heap.size (w.alloc (.cells #[.string x] 9)) w' :=
  rtagged_any 79 _ [x] _ (one_reads w x 9) (by simp) (fun s hs => by rw [List.mem_singleton.1 hs]; omega)
theorem bytesB_size {o : Ob} (hg : o.Good) : o.bytesB.size ≤ 100 := by
  have := Ob.bytes_length (Ob.good_is hg)
  rw [size_list]
  simpa [Ob.bytesB] using this
theorem bytesB_list (o : Ob) : o.bytesB.data.toList = o.bytes := by simp [Ob.bytesB]
end Go.Proofs.YtcdmdpafkiljdaaGreatDoor
