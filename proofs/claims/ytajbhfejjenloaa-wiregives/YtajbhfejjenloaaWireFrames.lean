/- Contracts of texts and frames: the program's and the document's. -/
import Derived.Test.YtajbhfejjenloaaWireRefDigits
import Derived.Test.YtajbhfejjenloaaWireCount8
import Derived.Test.YtajbhfejjenloaaWireFnv
namespace Go.Wire
def textB (s : ByteArray) : ByteArray := numB 8 s.size ++ s
def frameB (s : ByteArray) : ByteArray := numB 8 s.size ++ numB 8 (fnv (textB s).data.toList) ++ s
theorem textB_size (s : ByteArray) : (textB s).size = s.size + 8 := by
  rw [textB, ByteArray.size_append, numB_size]; omega
theorem frameB_size (s : ByteArray) : (frameB s).size = s.size + 16 := by
  rw [frameB, ByteArray.size_append, ByteArray.size_append, numB_size, numB_size]; omega
end Go.Wire
namespace Go.Proofs.Ytajbhfejjenloaa
open Go.RowKit Go.Wire
set_option maxHeartbeats 400000 in
theorem rtextB_any (s : ByteArray) (w : World) (hs : s.size ≤ 1000000) :
    Calls Try.prog 40 #[.string s] w fun e w' => e = .returned (.string (textB s)) ∧ Below w.heap.size w w' := by
  have HN : Hid (∀ w : World, Calls Try.prog 37 #[.int .u64 s.size, .int .i64 4] w fun e w' => e = .returned (.string (numB 8 s.size)) ∧ Below w.heap.size w w') := fun w => rnum_any s.size 4 w (by omega) (by decide)
  have hz := numB_size 8 s.size
  unfold textB
  generalize numB 8 s.size = t at HN hz
  go_enter Try.func40, Try.ntmps40
  go_wp2_with (go_at_call 37; refine (HN.out _).mono ?_; rintro e w1 ⟨rfl, k1⟩)
  go_ret
  exact ⟨rfl, by assumption⟩
set_option maxHeartbeats 400000 in
theorem frame_any (s : ByteArray) (w : World) (hs : s.size ≤ 1000000) :
    Calls Try.prog 19 #[.string s] w fun e w' => e = .returned (.string (frameB s)) ∧ Below w.heap.size w w' := by
  have H1 : Hid (∀ w : World, Calls Try.prog 53 #[.string s] w fun e w' => e = .returned (.string (numB 8 s.size)) ∧ Below w.heap.size w w') := fun w => count8_any s w (by unfold maxLen; omega)
  have hts := textB_size s
  have H2 : Hid (∀ w : World, Calls Try.prog 17 #[.string (textB s)] w fun e w' => e = .returned (.int .u32 (fnv (textB s).data.toList)) ∧ w' = w) := fun w => fnv_any (textB s) w (by unfold maxLen; omega)
  have hlt := fnv_lt (textB s).data.toList
  unfold frameB
  unfold textB at H2 hlt ⊢
  clear hts
  have hz := numB_size 8 s.size
  generalize numB 8 s.size = t at H1 H2 hz hlt
  generalize fnv (t ++ s).data.toList = x at H2 hlt
  have H3 : Hid (∀ w : World, Calls Try.prog 52 #[.int .u64 x, .int .i64 4] w fun e w' => e = .returned (.string (numB 8 x)) ∧ Below w.heap.size w w') := fun w => number_mid x 4 w (by omega) (by decide)
  have hz2 := numB_size 8 x
  generalize numB 8 x = u at H3 hz2
  go_enter Try.func19, Try.ntmps19
  go_wp2_with (first
    | (go_at_call 53; refine (H1.out _).mono ?_; rintro e w1 ⟨rfl, k1⟩)
    | (go_at_call 17; refine (H2.out _).mono ?_; rintro e w' ⟨rfl, rfl⟩)
    | (go_at_call 52; refine (H3.out _).mono ?_; rintro e w3 ⟨rfl, k3⟩))
  go_ret
  exact ⟨rfl, Below.trans (by assumption) (Below.mono (by assumption) (Below.size (by assumption)))⟩
set_option maxHeartbeats 400000 in
theorem rframe_any (s : ByteArray) (w : World) (hs : s.size ≤ 1000000) :
    Calls Try.prog 20 #[.string s] w fun e w' => e = .returned (.string (frameB s)) ∧ Below w.heap.size w w' := by
  have H1 : Hid (∀ w : World, Calls Try.prog 37 #[.int .u64 s.size, .int .i64 4] w fun e w' => e = .returned (.string (numB 8 s.size)) ∧ Below w.heap.size w w') := fun w => rnum_any s.size 4 w (by omega) (by decide)
  have H4 : Hid (∀ w : World, Calls Try.prog 40 #[.string s] w fun e w' => e = .returned (.string (textB s)) ∧ Below w.heap.size w w') := fun w => rtextB_any s w hs
  have hts := textB_size s
  have H2 : Hid (∀ w : World, Calls Try.prog 18 #[.string (textB s)] w fun e w' => e = .returned (.int .u32 (fnv (textB s).data.toList)) ∧ w' = w) := fun w => rfnv_any (textB s) w (by unfold maxLen; omega)
  have hlt := fnv_lt (textB s).data.toList
  unfold frameB
  clear hts
  have hz := numB_size 8 s.size
  generalize hn : numB 8 s.size = t at H1 hz
  generalize fnv (textB s).data.toList = x at H2 hlt
  generalize textB s = y at H2 H4
  have H3 : Hid (∀ w : World, Calls Try.prog 37 #[.int .u64 x, .int .i64 4] w fun e w' => e = .returned (.string (numB 8 x)) ∧ Below w.heap.size w w') := fun w => rnum_any x 4 w (by omega) (by decide)
  have hz2 := numB_size 8 x
  generalize numB 8 x = u at H3 hz2
  clear hn
  go_enter Try.func20, Try.ntmps20
  go_wp2_with fail
  refine (H1.out _).mono ?_
  rintro e w1 ⟨rfl, k1⟩
  go_wp2_with (first
    | (go_at_call 40; refine (H4.out _).mono ?_; rintro e w2 ⟨rfl, k2⟩)
    | (go_at_call 18; refine (H2.out _).mono ?_; rintro e w' ⟨rfl, rfl⟩)
    | (go_at_call 37; refine (H3.out _).mono ?_; rintro e w3 ⟨rfl, k3⟩))
  go_ret
  exact ⟨rfl, (k1.trans (k2.mono k1.size)).trans (k3.mono (Nat.le_trans k1.size k2.size))⟩
end Go.Proofs.Ytajbhfejjenloaa
