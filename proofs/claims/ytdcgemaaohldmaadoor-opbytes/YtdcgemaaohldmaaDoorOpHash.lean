/- Contracts: the digests of operations, the program's and the document's. -/
import Derived.Test.YtdcgemaaohldmaaDoorOpTwo
import Derived.Test.YtdcgemaaohldmaaDoorShaThree
namespace Go.Opn
/-- The digest of bytes for the purpose O. -/
def tag (l : List UInt8) : ByteArray := ⟨(Sha.sum (Sha.parts 79 [l])).toArray⟩
end Go.Opn
namespace Go.Proofs.YtdcgemaaohldmaaDoor
open Go.RowKit Go.Wire Go.Stamp Go.Opn
theorem one_reads (w : World) (x : ByteArray) (T : TypeId) : StrRow.Reads (w.alloc (.cells #[.string x] T)) (.slice (some ⟨w.heap.size, 0, none⟩) 1 1) [x] :=
  .inr ⟨w.heap.size, 0, 1, rfl, by simp, Nat.le_refl _, fun j s hj => by
    match j, hj with
    | 0, hj => cases hj; exact cell_of_row _ _ _ _ _ _ (heap_alloc_new _ _)⟩
theorem tagOne (x : ByteArray) (w : World) (hx : x.size ≤ 700) (hst : Steps w) :
    Calls Tryd.prog 20 #[.int .u8 79, .slice (some ⟨w.heap.size, 0, none⟩) 1 1] (w.alloc (.cells #[.string x] 9)) fun e w' => e = .returned (.string (tag x.data.toList)) ∧ Below (w.alloc (.cells #[.string x] 9)).heap.size (w.alloc (.cells #[.string x] 9)) w' :=
  tagged_any 79 _ [x] _ (one_reads w x 9) (by simp) (fun s hs => by rw [List.mem_singleton.1 hs]; exact hx) (hst.alloc _)
theorem rtagOne (x : ByteArray) (w : World) (hx : x.size ≤ 700) :
    Calls Tryd.prog 51 #[.int .u8 79, .slice (some ⟨w.heap.size, 0, none⟩) 1 1] (w.alloc (.cells #[.string x] 9)) fun e w' => e = .returned (.string (tag x.data.toList)) ∧ Below (w.alloc (.cells #[.string x] 9)).heap.size (w.alloc (.cells #[.string x] 9)) w' :=
  rtagged_any 79 _ [x] _ (one_reads w x 9) (by simp) (fun s hs => by rw [List.mem_singleton.1 hs]; exact hx)
theorem bytesB_size {o : Ob} (hg : o.Good) : o.bytesB.size ≤ 100 := by
  have := Ob.bytes_length (Ob.good_is hg)
  rw [size_list]
  simpa [Ob.bytesB] using this
theorem bytesB_list (o : Ob) : o.bytesB.data.toList = o.bytes := by simp [Ob.bytesB]
set_option maxRecDepth 100000 in
set_option maxHeartbeats 1000000 in
theorem hashOp_any (o : Ob) (w : World) (hok : o.tm.Ok) (hg : o.Good) (hst : Steps w) :
    Calls Tryd.prog 18 #[o.v] w fun e w' => e = .returned (.string (tag o.bytes)) ∧ Below w.heap.size w w' := by
  have HA : Hid (∀ w, Calls Tryd.prog 21 #[o.v] w fun e w' => e = .returned (.string o.bytesB) ∧ Below w.heap.size w w') := fun w => allOp_any o w hok hg
  have HT : Hid (∀ w, Steps w → Calls Tryd.prog 20 #[.int .u8 79, .slice (some ⟨w.heap.size, 0, none⟩) 1 1] (w.alloc (.cells #[.string o.bytesB] 9)) fun e w' => e = .returned (.string (tag o.bytes)) ∧ Below (w.alloc (.cells #[.string o.bytesB] 9)).heap.size (w.alloc (.cells #[.string o.bytesB] 9)) w') := fun w h => by
    have := tagOne o.bytesB w (by have := bytesB_size hg; omega) h
    rwa [bytesB_list] at this
  clear hok hg
  generalize o.bytesB = X at HA HT
  generalize tag o.bytes = D at HT
  have HS : Hid (Steps w) := hst
  clear hst
  obtain ⟨kd, ⟨c, k⟩, th, p, n, d, g, z⟩ := o
  unfold Ob.v at HA ⊢
  dsimp only at HA ⊢
  go_enter Tryd.func18, Tryd.ntmps18
  go_wp2_with (first
    | (go_at_call 21; refine (HA.out _).mono ?_; rintro e w1 ⟨rfl, k1⟩)
    | (go_at_call 20; refine (HT.out w1 (HS.out.below (below_alloc_call k1) HS.out.pos)).mono ?_; rintro e w2 ⟨rfl, k2⟩))
  go_ret
  exact ⟨rfl, (below_alloc_call k1).trans ((below_alloc_call k2).mono (below_alloc_call k1).size)⟩
set_option maxRecDepth 100000 in
set_option maxHeartbeats 1000000 in
theorem rhashOp_any (o : Ob) (w : World) (hok : o.tm.Ok) (hg : o.Good) :
    Calls Tryd.prog 19 #[o.v] w fun e w' => e = .returned (.string (tag o.bytes)) ∧ Below w.heap.size w w' := by
  have HA : Hid (∀ w, Calls Tryd.prog 15 #[o.v] w fun e w' => e = .returned (.string o.bytesB) ∧ Below w.heap.size w w') := fun w => rbytesOp_any o w hok hg
  have HT : Hid (∀ w : World, Calls Tryd.prog 51 #[.int .u8 79, .slice (some ⟨w.heap.size, 0, none⟩) 1 1] (w.alloc (.cells #[.string o.bytesB] 9)) fun e w' => e = .returned (.string (tag o.bytes)) ∧ Below (w.alloc (.cells #[.string o.bytesB] 9)).heap.size (w.alloc (.cells #[.string o.bytesB] 9)) w') := fun w => by
    have := rtagOne o.bytesB w (by have := bytesB_size hg; omega)
    rwa [bytesB_list] at this
  clear hok hg
  generalize o.bytesB = X at HA HT
  generalize tag o.bytes = D at HT
  obtain ⟨kd, ⟨c, k⟩, th, p, n, d, g, z⟩ := o
  unfold Ob.v at HA ⊢
  dsimp only at HA ⊢
  go_enter Tryd.func19, Tryd.ntmps19
  go_wp2_with (first
    | (go_at_call 15; refine (HA.out _).mono ?_; rintro e w1 ⟨rfl, k1⟩)
    | (go_at_call 51; refine (HT.out w1).mono ?_; rintro e w2 ⟨rfl, k2⟩))
  go_ret
  exact ⟨rfl, (below_alloc_call k1).trans ((below_alloc_call k2).mono (below_alloc_call k1).size)⟩
end Go.Proofs.YtdcgemaaohldmaaDoor
