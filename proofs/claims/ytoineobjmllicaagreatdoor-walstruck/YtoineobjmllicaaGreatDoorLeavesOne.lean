/- Several texts in one: DiskLeaves. -/
import Derived.Test.YtoineobjmllicaaGreatDoorRows
import Derived.Test.YtoineobjmllicaaGreatDoorDkOne
import Derived.Lib.Strings
/- Contracts of the disk's small functions. -/
namespace Go.Dk
open Go.RowKit
/-- Are the first k bytes such as names have? -/
def okTo (s : ByteArray) (k : Nat) : Bool := (s.data.toList.take k).all fun c => decide (33 ≤ c.toNat) && decide (c.toNat ≤ 126)
theorem okTo_succ (s : ByteArray) (k : Nat) (h : k < s.size) : okTo s (k + 1) = (okTo s k && (decide (33 ≤ (s[k]).toNat) && decide ((s[k]).toNat ≤ 126))) := by
  unfold okTo
  have hk : k < s.data.toList.length := by simpa using h
  rw [List.take_succ_eq_append_getElem hk, List.all_append]
  simp [ByteArray.getElem_eq_getElem_data]
theorem okTo_no (s : ByteArray) (k : Nat) (h : okTo s k = false) : nameOk s.data.toList = false := by
  unfold nameOk
  have : (s.data.toList.all fun c => decide (33 ≤ c.toNat) && decide (c.toNat ≤ 126)) = false := by
    rw [← List.take_append_drop k s.data.toList, List.all_append]
    unfold okTo at h
    rw [h]
    rfl
  rw [this, Bool.and_false]
theorem okTo_all (s : ByteArray) (k : Nat) (hk : ¬ k < s.size) (h : okTo s k = true) (h0 : 0 < s.size) (h1 : s.size ≤ 240) : nameOk s.data.toList = true := by
  unfold nameOk
  unfold okTo at h
  rw [List.take_of_length_le (by have : s.data.toList.length = s.size := by simp
                                 omega)] at h
  rw [h]
  have e : s.data.toList.length = s.size := by simp
  rw [e]
  simp [h0, h1]
theorem nameOk_size (s : ByteArray) (h : ¬ (0 < s.size ∧ s.size ≤ 240)) : nameOk s.data.toList = false := by
  unfold nameOk
  have e : s.data.toList.length = s.size := by simp
  rw [e]
  by_cases h0 : 0 < s.size
  · have : ¬ s.size ≤ 240 := fun h1 => h ⟨h0, h1⟩
    simp [this]
  · simp [h0]
end Go.Dk
namespace Go.Proofs.YtoineobjmllicaaGreatDoor
open Go.RowKit Go.Dk
set_option maxHeartbeats 400000 in
theorem name_any (s : ByteArray) (w : World) (hs : s.size ≤ maxLen) :
    Calls Tryz.prog 85 #[.string s] w fun e w' => e = .returned (.bool (nameOk s.data.toList)) ∧ w' = w := by
  unfold maxLen at hs
  by_cases h0 : s.size = 0
  · have hn := nameOk_size s (by omega)
    go_enter Tryz.func85, Tryz.ntmps85
    go_wp2
    go_ret
    exact ⟨by rw [hn]; rfl, rfl⟩
  · by_cases h1 : s.size ≤ 240
    · have HN : Hid (∀ k, okTo s k = false → nameOk s.data.toList = false) := okTo_no s
      have HA : Hid (∀ k, ¬ k < s.size → okTo s k = true → nameOk s.data.toList = true) := fun k h h' => okTo_all s k h h' (by omega) h1
      generalize nameOk s.data.toList = r at HN HA ⊢
      have hz : ((s.size : Int) == 0) = false := beq_eq_false_iff_ne.2 (by omega)
      have hb : decide (240 < (s.size : Int)) = false := by simp; omega
      go_enter Tryz.func85, Tryz.ntmps85
      go_wp2
      go_loop [14] (fun i => ∃ k : Nat, k ≤ s.size ∧ i = .int .i64 k ∧ Hid (okTo s k = true)) (fun i => s.size - (intOf i).toNat)
      case atStart => exact ⟨0, Nat.zero_le _, rfl, by unfold Hid okTo; rfl⟩
      case round =>
        obtain ⟨k, hk, rfl, HK⟩ := hrel
        by_cases hlt : k < s.size
        · have HS : Hid (okTo s (k + 1) = (okTo s k && (decide (33 ≤ (s[k]).toNat) && decide ((s[k]).toNat ≤ 126)))) := okTo_succ s k hlt
          by_cases ha : (s[k]).toNat < 33
          · go_wp2
            go_ret
            exact ⟨by rw [HN.out (k + 1) (by rw [HS.out]; simp; omega)]; rfl, rfl⟩
          · by_cases hb : 126 < (s[k]).toNat
            · go_wp2
              go_ret
              exact ⟨by rw [HN.out (k + 1) (by rw [HS.out]; simp; omega)]; rfl, rfl⟩
            · go_wp2
              go_round
              case rel => exact ⟨k + 1, by omega, by go_num, by unfold Hid; rw [HS.out, HK.out]; simp; omega⟩
              case measure => simp [intOf]; omega
        · go_wp2
          go_ret
          exact ⟨by rw [HA.out k hlt HK.out]; rfl, rfl⟩
    · have hn := nameOk_size s (by omega)
      have hz : ((s.size : Int) == 0) = false := beq_eq_false_iff_ne.2 (by omega)
      have hb : decide (240 < (s.size : Int)) = true := by simp; omega
      go_enter Tryz.func85, Tryz.ntmps85
      go_wp2
      go_ret
      exact ⟨by rw [hn]; rfl, rfl⟩
theorem name_is (s : ByteArray) (r : Bool) (w : World) (hs : s.size ≤ maxLen) (h : nameOk s.data.toList = r) :
    Calls Tryz.prog 85 #[.string s] w fun e w' => e = .returned (.bool r) ∧ w' = w := h ▸ name_any s w hs
/-- The disk's struct. -/
def dcells (mb : Option Nat) (pv : Value) (changes : Int) (short : Bool) (room : Int) (dead : Bool) : Array Value := #[.map mb, pv, .int .i64 changes, .bool short, .int .i64 room, .bool dead]
theorem cells6 {w : World} {g : Nat} {a b c d e f : Value} {T : TypeId} (h : w.heap[g]? = some (.cells #[a, b, c, d, e, f] T (0, 0))) :
    w.cell? ⟨g, 0, none⟩ = some a ∧ w.cell? ⟨g, 1, none⟩ = some b ∧ w.cell? ⟨g, 2, none⟩ = some c ∧ w.cell? ⟨g, 3, none⟩ = some d ∧ w.cell? ⟨g, 4, none⟩ = some e ∧ w.cell? ⟨g, 5, none⟩ = some f ∧ ∀ i, w.frozen? ⟨g, i, none⟩ = false :=
  ⟨cell_of_row _ _ _ _ _ _ h, cell_of_row _ _ _ _ _ _ h, cell_of_row _ _ _ _ _ _ h, cell_of_row _ _ _ _ _ _ h, cell_of_row _ _ _ _ _ _ h, cell_of_row _ _ _ _ _ _ h, fun _ => frozen_of_row _ _ _ _ _ h⟩
theorem cells3 {w : World} {g : Nat} {a b c : Value} {T : TypeId} (h : w.heap[g]? = some (.cells #[a, b, c] T (0, 0))) :
    w.cell? ⟨g, 0, none⟩ = some a ∧ w.cell? ⟨g, 1, none⟩ = some b ∧ w.cell? ⟨g, 2, none⟩ = some c ∧ ∀ i, w.frozen? ⟨g, i, none⟩ = false :=
  ⟨cell_of_row _ _ _ _ _ _ h, cell_of_row _ _ _ _ _ _ h, cell_of_row _ _ _ _ _ _ h, fun _ => frozen_of_row _ _ _ _ _ h⟩
theorem dead_any (d : Nat) (mb : Option Nat) (pv : Value) (ch : Int) (sh : Bool) (rm : Int) (dd : Bool) (w : World) (h : w.heap[d]? = some (.cells (dcells mb pv ch sh rm dd) 67 (0, 0))) :
    Calls Tryz.prog 27 #[.pointer (some ⟨d, 0, none⟩)] w fun e w' => e = .returned (.bool dd) ∧ w' = w := by
  obtain ⟨-, -, -, -, -, c5, -⟩ := cells6 h
  go_enter Tryz.func27, Tryz.ntmps27
  go_wp2
  go_ret
  exact ⟨rfl, rfl⟩
theorem dead_nil (w : World) : Calls Tryz.prog 27 #[.pointer none] w fun e w' => e = .returned (.bool true) ∧ w' = w := by
  go_enter Tryz.func27, Tryz.ntmps27
  go_wp2
  go_ret
  exact ⟨rfl, rfl⟩
theorem new_any (w : World) : Calls Tryz.prog 9 #[] w fun e w' => e = .returned (.pointer (some ⟨w.heap.size, 0, none⟩)) ∧ w'.heap[w.heap.size]? = some (.cells (dcells none (.slice none 0 0) 0 false 0 false) 67 (0, 0)) ∧ Below w.heap.size w w' := by
  go_enter Tryz.func9, Tryz.ntmps9
  go_wp2
  go_ret
  exact ⟨rfl, heap_alloc_new _ _, (Below.refl _ _).alloc (Nat.le_refl _) _⟩
theorem up_on (d : Nat) (mb : Option Nat) (pv : Value) (ch : Int) (sh : Bool) (rm : Int) (w : World) (h : w.heap[d]? = some (.cells (dcells mb pv ch sh rm false) 67 (0, 0))) :
    Calls Tryz.prog 17 #[.pointer (some ⟨d, 0, none⟩)] w fun e w' => e = .returned (.bool false) ∧ w' = w := by
  obtain ⟨-, -, -, -, -, c5, -⟩ := cells6 h
  go_enter Tryz.func17, Tryz.ntmps17
  go_wp2
  go_ret
  exact ⟨rfl, rfl⟩
theorem up_off (d : Nat) (mb : Option Nat) (pv : Value) (ch : Int) (sh : Bool) (rm : Int) (w : World) (h : w.heap[d]? = some (.cells (dcells mb pv ch sh rm true) 67 (0, 0))) :
    Calls Tryz.prog 17 #[.pointer (some ⟨d, 0, none⟩)] w fun e w' => e = .returned (.bool true) ∧ w'.heap[d]? = some (.cells (dcells mb pv ch sh rm false) 67 (0, 0)) ∧ Tch (· = d) w w' := by
  obtain ⟨-, -, -, -, -, c5, fz⟩ := cells6 h
  have f5 := fz 5
  clear fz
  go_enter Tryz.func17, Tryz.ntmps17
  go_wp2
  go_ret
  exact ⟨rfl, by rw [heap_setCell_same _ _ _ _ _ _ h]; rfl, .set _ _ _ _ rfl⟩
theorem up_nil (w : World) : Calls Tryz.prog 17 #[.pointer none] w fun e w' => e = .returned (.bool false) ∧ w' = w := by
  go_enter Tryz.func17, Tryz.ntmps17
  go_wp2
  go_ret
  exact ⟨rfl, rfl⟩
theorem room_any (d : Nat) (mb : Option Nat) (pv : Value) (ch : Int) (sh : Bool) (rm : Int) (dd : Bool) (n : Int) (w : World) (h : w.heap[d]? = some (.cells (dcells mb pv ch sh rm dd) 67 (0, 0))) :
    Calls Tryz.prog 35 #[.pointer (some ⟨d, 0, none⟩), .int .i64 n] w fun e w' => e = .returned (.tuple #[]) ∧ w'.heap[d]? = some (.cells (dcells mb pv ch (decide (0 ≤ n)) n dd) 67 (0, 0)) ∧ Tch (· = d) w w' := by
  obtain ⟨-, -, -, c3, c4, -, fz⟩ := cells6 h
  have f3 := fz 3
  have f4 := fz 4
  clear fz
  go_enter Tryz.func35, Tryz.ntmps35
  go_wp2
  go_end0
  have h1 : (w.setCell ⟨d, 3, none⟩ (.bool (decide (0 ≤ n)))).heap[d]? = some (.cells (dcells mb pv ch (decide (0 ≤ n)) rm dd) 67 (0, 0)) := by rw [heap_setCell_same _ _ _ _ _ _ h]; rfl
  exact ⟨rfl, by rw [heap_setCell_same _ _ _ _ _ _ h1]; rfl, (Tch.set (· = d) w _ _ rfl).and (.set (· = d) _ _ _ rfl)⟩
theorem room_nil (n : Int) (w : World) : Calls Tryz.prog 35 #[.pointer none, .int .i64 n] w fun e w' => e = .returned (.tuple #[]) ∧ w' = w := by
  go_enter Tryz.func35, Tryz.ntmps35
  go_wp2
  go_end0
  exact ⟨rfl, rfl⟩
theorem changes_any (d : Nat) (mb : Option Nat) (pv : Value) (ch : Int) (sh : Bool) (rm : Int) (dd : Bool) (w : World) (h : w.heap[d]? = some (.cells (dcells mb pv ch sh rm dd) 67 (0, 0))) :
    Calls Tryz.prog 25 #[.pointer (some ⟨d, 0, none⟩)] w fun e w' => e = .returned (.int .i64 ch) ∧ w' = w := by
  obtain ⟨-, -, c2, -⟩ := cells6 h
  go_enter Tryz.func25, Tryz.ntmps25
  go_wp2
  go_ret
  exact ⟨rfl, rfl⟩
theorem changes_nil (w : World) : Calls Tryz.prog 25 #[.pointer none] w fun e w' => e = .returned (.int .i64 0) ∧ w' = w := by
  go_enter Tryz.func25, Tryz.ntmps25
  go_wp2
  go_ret
  exact ⟨rfl, rfl⟩
end Go.Proofs.YtoineobjmllicaaGreatDoor
