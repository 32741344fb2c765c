/- The walk of the statement on the tag of any text under any key. -/
import Derived.Test.YtcfjlnceofdcdaaDoorMacAwake
import Derived.Test.YtcfjlnceofdcdaaDoorMacRefTag
namespace Go.Proofs.YtcfjlnceofdcdaaDoor
open Go.RowKit
open Go.Sort
set_option maxRecDepth 100000 in
set_option maxHeartbeats 1000000 in
theorem macOf_any (k s : ByteArray) (w : World) (hk : k.size ≤ maxLen) (hs : s.size ≤ maxLen) (hst : Steps w) :
    Calls Tryd.prog 3 #[.string k, .string s] w fun e w' => e = .returned (.bool true) ∧ Below w.heap.size w w' := by
  have hpos := hst.pos
  have HS : Hid (Steps w) := hst
  clear hst
  go_enter Tryd.func3, Tryd.ntmps3
  go_wp2_with fail
  refine (awake_any w HS.out).mono ?_
  rintro e w1 ⟨rfl, hb1⟩
  have H1 : Hid (Below w.heap.size w w1 ∧ Steps w1) := ⟨hb1, Steps.by hb1 hpos HS.out⟩
  clear hb1
  go_wp2_with (go_at_call 9; refine (cut400_any _ _ (by assumption)).mono ?_; rintro e _ ⟨rfl, rfl⟩)
  refine (of_any (Sha.cut400 k) (Sha.cut400 s) _ (Nat.le_trans (Sha.cut400_size k) (by omega)) (Nat.le_trans (Sha.cut400_size s) (by omega)) H1.out.2).mono ?_
  rintro e w2 ⟨rfl, hb2⟩
  have H2 : Hid (Below w.heap.size w w2) := H1.out.1.trans (hb2.mono H1.out.1.size)
  clear hb2 H1
  generalize hT : Sha.tag (Sha.cut400 k).data.toList (Sha.cut400 s).data.toList = T
  have HT : Hid (Sha.tag (Sha.cut400 k).data.toList (Sha.cut400 s).data.toList = T) := hT
  clear hT
  go_wp2_with (go_at_call 9; refine (cut400_any _ _ (by assumption)).mono ?_; rintro e _ ⟨rfl, rfl⟩)
  refine (rtag_any (Sha.cut400 k) (Sha.cut400 s) _ (Nat.le_trans (Sha.cut400_size k) (by omega)) (Nat.le_trans (Sha.cut400_size s) (by omega))).mono ?_
  rintro e w3 ⟨rfl, hb3⟩
  rw [HT.out]
  go_wp2
  go_ret
  exact ⟨rfl, H2.out.trans (hb3.mono H2.out.size)⟩
end Go.Proofs.YtcfjlnceofdcdaaDoor
