/- Several texts in one: WireRd, WireDigit, WireReader, WireValue, WireTakes. -/
import Derived.Test.YtoopaeahhbkncaaDoorWirePure
import Derived.WalkKit
import Derived.WalkSpells
import Derived.WalkLawsBesides
import Derived.Deep.QuietTactic
import Derived.Deep.RegionWith
import Derived.BigQuiet
import Derived.Deep.WholeRow
import Derived.Test.YtoopaeahhbkncaaDoorRows
/- A reader as it lies in memory, and what leaves all but one block alone; of no program. -/
namespace Go.Wire
open Go.RowKit
/-- What was there stands, but for the block b. -/
structure Kept (b : Nat) (w w' : World) : Prop where
  below : Below b w w'
  other : ∀ k, k ≠ b → k < w.heap.size → w'.heap[k]? = w.heap[k]?
theorem Kept.refl (b : Nat) (w : World) : Kept b w w := ⟨Below.refl _ _, fun _ _ _ => rfl⟩
theorem Kept.trans {b : Nat} {w w1 w2 : World} (h : Kept b w w1) (k : Kept b w1 w2) : Kept b w w2 :=
  ⟨h.below.trans k.below, fun j hj hl => (k.other j hj (Nat.lt_of_lt_of_le hl h.below.size)).trans (h.other j hj hl)⟩
theorem Kept.drewN {b : Nat} {w w1 : World} (h : Kept b w w1) (n : Nat) : Kept b w (w1.drewN n) := ⟨⟨h.below.os, h.below.tape, h.below.output, h.below.size, h.below.block⟩, h.other⟩
theorem Kept.drew {b : Nat} {w w1 : World} (h : Kept b w w1) : Kept b w w1.drew := ⟨h.below.drew, h.other⟩
theorem Kept.set {b : Nat} {w w1 : World} (h : Kept b w w1) (i : Nat) (v : Value) : Kept b w (w1.setCell ⟨b, i, none⟩ v) :=
  ⟨h.below.setCell (p := ⟨b, i, none⟩) (Nat.le_refl _) v, fun j hj hl => (Below.heap_setCell w1 ⟨b, i, none⟩ v j hj).trans (h.other j hj hl)⟩
theorem Kept.cell {b : Nat} {w w' : World} (h : Kept b w w') {p : Addr} (hp : p.block ≠ b) (hl : p.block < w.heap.size) : w'.cell? p = w.cell? p := World.cell?_of_block (w := w) (h.other p.block hp hl)
theorem Kept.frozen {b : Nat} {w w' : World} (h : Kept b w w') {p : Addr} (hp : p.block ≠ b) (hl : p.block < w.heap.size) : w'.frozen? p = w.frozen? p := World.frozen?_of_block (w := w) (h.other p.block hp hl)
theorem Kept.of_below {b : Nat} {w w' : World} (h : Below w.heap.size w w') (hb : b < w.heap.size) : Kept b w w' :=
  ⟨h.mono (Nat.le_of_lt hb), fun k _ hl => h.block k hl⟩
/-- Cells of a block that is new are set. -/
theorem Kept.setNew {b g : Nat} {w w' : World} (h : Kept b w w') (hb : b < w.heap.size) (hg : w.heap.size ≤ g) (i : Nat) (v : Value) : Kept b w (w'.setCell ⟨g, i, none⟩ v) :=
  ⟨h.below.setCell (p := ⟨g, i, none⟩) (Nat.le_trans (Nat.le_of_lt hb) hg) v, fun j hj hl => (Below.heap_setCell w' ⟨g, i, none⟩ v j (Nat.ne_of_lt (Nat.lt_of_lt_of_le hl hg))).trans (h.other j hj hl)⟩
theorem row_lt {w : World} {g : Nat} {o : Obj} (h : w.heap[g]? = some o) : g < w.heap.size := by
  rcases Nat.lt_or_ge g w.heap.size with x | x
  · exact x
  · rw [Array.getElem?_eq_none x] at h; cases h
/-- Block b is a reader. -/
def Rd (T b : Nat) (q : St) (w : World) : Prop := w.heap[b]? = some (.cells #[.string q.s, .int .i64 q.pos, .int .i64 q.err] T (0, 0))
theorem Rd.lt {T b : Nat} {q : St} {w : World} (h : Rd T b q w) : b < w.heap.size := by
  rcases Nat.lt_or_ge b w.heap.size with k | k
  · exact k
  · unfold Rd at h; rw [Array.getElem?_eq_none k] at h; cases h
theorem Rd.of_heap {T b : Nat} {q : St} {w w' : World} (h : Rd T b q w) (e : w'.heap[b]? = w.heap[b]?) : Rd T b q w' := by unfold Rd; rw [e]; exact h
theorem Rd.cells {T b : Nat} {q : St} {w : World} (h : Rd T b q w) : w.cell? ⟨b, 0, none⟩ = some (.string q.s) ∧ w.cell? ⟨b, 1, none⟩ = some (.int .i64 q.pos) ∧ w.cell? ⟨b, 2, none⟩ = some (.int .i64 q.err) ∧ w.frozen? ⟨b, 1, none⟩ = false ∧ w.frozen? ⟨b, 2, none⟩ = false :=
  ⟨cell_of_row _ _ _ _ _ _ h, cell_of_row _ _ _ _ _ _ h, cell_of_row _ _ _ _ _ _ h, frozen_of_row _ _ _ _ _ h, frozen_of_row _ _ _ _ _ h⟩
theorem Rd.setErr {T b : Nat} {q : St} {w : World} (h : Rd T b q w) (e : Int) : Rd T b ⟨q.s, q.pos, e⟩ (w.setCell ⟨b, 2, none⟩ (.int .i64 e)) := by
  unfold Rd; rw [heap_setCell_same _ _ _ _ _ _ h]; rfl
theorem Rd.setPos {T b : Nat} {q : St} {w : World} (h : Rd T b q w) (p : Nat) : Rd T b ⟨q.s, p, q.err⟩ (w.setCell ⟨b, 1, none⟩ (.int .i64 p)) := by
  unfold Rd; rw [heap_setCell_same _ _ _ _ _ _ h]; rfl
theorem lit_ne {x : ByteArray} {a : Array UInt8} {l : List UInt8} (ha : a.toList = l) (h : x ≠ ⟨a⟩) : (x.toList == l) = false := by
  rw [beq_eq_false_iff_ne]
  intro e
  apply h
  rw [ByteArray.toList_eq, ← ha] at e
  exact ByteArray.ext (Array.toList_inj.1 e)
theorem lit_eq (x y : ByteArray) : (x.toList == y.toList) = decide (x = y) := by
  by_cases h : x = y
  · subst h; simp
  · rw [decide_eq_false h, beq_eq_false_iff_ne]
    intro e
    apply h
    rw [ByteArray.toList_eq, ByteArray.toList_eq] at e
    exact ByteArray.ext (Array.toList_inj.1 e)
end Go.Wire
/- Contracts of a digit. -/
namespace Go.Wire
theorem take_snoc (s : ByteArray) (k : Nat) (h : k < s.size) : s.data.toList.take (k + 1) = s.data.toList.take k ++ [s[k]] := by
  rw [List.take_succ_eq_append_getElem (by simpa using h)]; rfl
theorem take_all (s : ByteArray) (k : Nat) (h : ¬ k < s.size) : s.data.toList.take k = s.data.toList :=
  List.take_of_length_le (by simp only [Array.length_toList]; exact Nat.le_of_not_lt h)
theorem take_drop (s : ByteArray) (k : Nat) (h : k < s.size) : s.data.toList = s.data.toList.take k ++ s[k] :: s.data.toList.drop (k + 1) := by
  have h2 : k < s.data.toList.length := by simpa using h
  rw [show s[k] = s.data.toList[k] from rfl, List.getElem_cons_drop, List.take_append_drop]
end Go.Wire
namespace Go.Proofs.YtoopaeahhbkncaaDoor
open Go.RowKit Go.Wire
set_option maxHeartbeats 400000 in
theorem digit_some (c : UInt8) (d : Nat) (w : World) (h : dig c = some d) :
    Calls Tryd.prog 103 #[.int .u8 c.toNat] w fun e w' => e = .returned (.tuple #[.int .u64 d, .bool true]) ∧ w' = w := by
  have hc := c.toNat_lt
  unfold dig at h
  generalize c.toNat = x at h hc
  by_cases h1 : 48 ≤ x ∧ x ≤ 57
  · rw [if_pos h1] at h
    cases h
    obtain ⟨h1, h2⟩ := h1
    go_enter Tryd.func103, Tryd.ntmps103
    go_wp2
    go_ret2
    refine ⟨?_, rfl⟩
    show Ending.returned (.tuple #[.int .u64 ((x : Int) - 48), .bool true]) = _
    rw [show (x : Int) - 48 = ((x - 48 : Nat) : Int) by omega]
  · rw [if_neg h1] at h
    by_cases h2 : 97 ≤ x ∧ x ≤ 102
    · rw [if_pos h2] at h
      cases h
      obtain ⟨h2, h3⟩ := h2
      have h4 : ¬ x ≤ 57 := by omega
      clear h1
      go_enter Tryd.func103, Tryd.ntmps103
      go_wp2
      go_ret2
      refine ⟨?_, rfl⟩
      show Ending.returned (.tuple #[.int .u64 ((x : Int) - 97 + 10), .bool true]) = _
      rw [show (x : Int) - 97 + 10 = ((x - 87 : Nat) : Int) by omega]
    · rw [if_neg h2] at h
      cases h
set_option maxHeartbeats 400000 in
theorem digit_none (c : UInt8) (w : World) (h : dig c = none) :
    Calls Tryd.prog 103 #[.int .u8 c.toNat] w fun e w' => e = .returned (.tuple #[.int .u64 0, .bool false]) ∧ w' = w := by
  have hc := c.toNat_lt
  unfold dig at h
  generalize c.toNat = x at h hc
  by_cases h1 : 48 ≤ x ∧ x ≤ 57
  · rw [if_pos h1] at h; cases h
  · rw [if_neg h1] at h
    by_cases h2 : 97 ≤ x ∧ x ≤ 102
    · rw [if_pos h2] at h; cases h
    · clear h
      by_cases h3 : x < 48
      · have h4 : x < 97 := by omega
        clear h1 h2
        go_enter Tryd.func103, Tryd.ntmps103
        go_wp2
        go_ret2
        exact ⟨rfl, rfl⟩
      · have h4 : 57 < x := by omega
        clear h1
        by_cases h5 : x < 97
        · clear h2
          go_enter Tryd.func103, Tryd.ntmps103
          go_wp2
          go_ret2
          exact ⟨rfl, rfl⟩
        · have h6 : 102 < x := by omega
          clear h2
          go_enter Tryd.func103, Tryd.ntmps103
          go_wp2
          go_ret2
          exact ⟨rfl, rfl⟩
end Go.Proofs.YtoopaeahhbkncaaDoor
/- Contracts of the small calls of the program's reader. -/
namespace Go.Proofs.YtoopaeahhbkncaaDoor
open Go.RowKit Go.Wire
set_option maxHeartbeats 400000 in
theorem err_any (b : Nat) (q : St) (w : World) (h : Rd 85 b q w) :
    Calls Tryd.prog 29 #[.pointer (some ⟨b, 0, none⟩)] w fun e w' => e = .returned (.int .i64 q.err) ∧ w' = w := by
  obtain ⟨c0, c1, c2, f1, f2⟩ := h.cells
  go_enter Tryd.func29, Tryd.ntmps29
  go_wp2
  go_ret
  exact ⟨rfl, rfl⟩
set_option maxHeartbeats 400000 in
theorem at_any (b : Nat) (q : St) (w : World) (h : Rd 85 b q w) :
    Calls Tryd.prog 33 #[.pointer (some ⟨b, 0, none⟩)] w fun e w' => e = .returned (.int .i64 q.pos) ∧ w' = w := by
  obtain ⟨c0, c1, c2, f1, f2⟩ := h.cells
  go_enter Tryd.func33, Tryd.ntmps33
  go_wp2
  go_ret
  exact ⟨rfl, rfl⟩
set_option maxHeartbeats 400000 in
theorem left_any (b : Nat) (q : St) (w : World) (h : Rd 85 b q w) (hq : q.pos ≤ q.s.size) (hs : q.s.size ≤ maxLen) :
    Calls Tryd.prog 77 #[.pointer (some ⟨b, 0, none⟩)] w fun e w' => e = .returned (.int .i64 ((q.s.size : Int) - q.pos)) ∧ w' = w.drew := by
  unfold maxLen at hs
  obtain ⟨c0, c1, c2, f1, f2⟩ := h.cells
  go_enter Tryd.func77, Tryd.ntmps77
  go_wp2
  go_region
  go_wp2
  go_ret
  exact ⟨rfl, rfl⟩
set_option maxHeartbeats 400000 in
theorem fail_any (b : Nat) (q : St) (x : Int) (w : World) (h : Rd 85 b q w) :
    Calls Tryd.prog 78 #[.pointer (some ⟨b, 0, none⟩), .int .i64 x] w fun e w' => e = .returned (.tuple #[]) ∧ Rd 85 b (q.fail x) w' ∧ Kept b w w' := by
  obtain ⟨c0, c1, c2, f1, f2⟩ := h.cells
  by_cases he : q.err = 0
  · go_enter Tryd.func78, Tryd.ntmps78
    go_wp2_with (go_at_call 29; refine (err_any b q _ h).mono ?_; rintro e w' ⟨rfl, rfl⟩)
    go_end0
    exact ⟨rfl, by rw [St.fail, if_pos he]; exact h.setErr x, (Kept.refl _ _).set _ _⟩
  · go_enter Tryd.func78, Tryd.ntmps78
    go_wp2_with (go_at_call 29; refine (err_any b q _ h).mono ?_; rintro e w' ⟨rfl, rfl⟩)
    go_end0
    exact ⟨rfl, by rw [St.fail, if_neg he]; exact h, Kept.refl _ _⟩
set_option maxHeartbeats 400000 in
theorem give_any (b p : Nat) (q : St) (x : Int) (w : World) (h : Rd 85 b q w) :
    Calls Tryd.prog 76 #[.pointer (some ⟨b, 0, none⟩), .int .i64 p, .int .i64 x] w fun e w' => e = .returned (.tuple #[]) ∧ Rd 85 b (q.back p x) w' ∧ Kept b w w' := by
  obtain ⟨c0, c1, c2, f1, f2⟩ := h.cells
  by_cases he : q.err = 0
  · go_enter Tryd.func76, Tryd.ntmps76
    go_wp2_with (go_at_call 29; refine (err_any b q _ h).mono ?_; rintro e w' ⟨rfl, rfl⟩)
    go_end0
    exact ⟨rfl, by rw [St.back, if_pos he]; exact (h.setPos p).setErr x, ((Kept.refl _ _).set _ _).set _ _⟩
  · go_enter Tryd.func76, Tryd.ntmps76
    go_wp2_with (go_at_call 29; refine (err_any b q _ h).mono ?_; rintro e w' ⟨rfl, rfl⟩)
    go_end0
    exact ⟨rfl, by rw [St.back, if_neg he]; exact h, Kept.refl _ _⟩
set_option maxHeartbeats 400000 in
theorem newReader_any (s : ByteArray) (w : World) :
    Calls Tryd.prog 27 #[.string s] w fun e w' => e = .returned (.pointer (some ⟨w.heap.size, 0, none⟩)) ∧ Rd 85 w.heap.size ⟨s, 0, 0⟩ w' ∧ Below w.heap.size w w' := by
  go_enter Tryd.func27, Tryd.ntmps27
  go_wp2
  go_ret
  exact ⟨rfl, heap_alloc_new _ _, (Below.refl _ _).alloc (Nat.le_refl _) _⟩
set_option maxHeartbeats 1000000 in
theorem bytes_any (b : Nat) (q : St) (n : Int) (w : World) (h : Rd 85 b q w) (hq : q.pos ≤ q.s.size) (hs : q.s.size ≤ maxLen) :
    Calls Tryd.prog 83 #[.pointer (some ⟨b, 0, none⟩), .int .i64 n] w fun e w' => e = .returned (.string (q.bytes n).2) ∧ Rd 85 b (q.bytes n).1 w' ∧ Kept b w w' := by
  have hs2 : q.s.size ≤ 9223372036854775807 := hs
  by_cases hn : n < 0
  · have hf := St.fail_ne q 1 (by decide)
    rw [St.bytes_neg q n hn]
    go_enter Tryd.func83, Tryd.ntmps83
    go_wp2_with (go_at_call 78; refine (fail_any b q 1 _ h).mono ?_)
    rintro e w1 ⟨rfl, h1, k1⟩
    go_wp2_with (go_at_call 29; refine (err_any b _ _ h1).mono ?_; rintro e w' ⟨rfl, rfl⟩)
    go_ret
    exact ⟨rfl, h1, k1⟩
  · by_cases hl : (q.s.size : Int) - q.pos < n
    · have hf := St.fail_ne q 4 (by decide)
      rw [St.bytes_cut q n hn hl]
      go_enter Tryd.func83, Tryd.ntmps83
      go_wp2_with (first
        | (go_at_call 77; refine (left_any b q _ h hq hs).mono ?_; rintro e w' ⟨rfl, rfl⟩)
        | (go_at_call 78; refine (fail_any b q 4 _ (by exact h)).mono ?_))
      rintro e w1 ⟨rfl, h1, k1⟩
      go_wp2_with (go_at_call 29; refine (err_any b _ _ h1).mono ?_; rintro e w' ⟨rfl, rfl⟩)
      go_ret
      exact ⟨rfl, h1, ((Kept.refl b w).drew).trans k1⟩
    · by_cases he : q.err = 0
      · obtain ⟨m, rfl⟩ : ∃ m : Nat, n = m := ⟨n.toNat, by omega⟩
        obtain ⟨c0, c1, c2, f1, f2⟩ := h.cells
        rw [St.bytes_ok q _ he hn hl]
        have hm : q.pos + m ≤ q.s.size := by omega
        go_enter Tryd.func83, Tryd.ntmps83
        go_wp2_with (first
          | (go_at_call 77; refine (left_any b q _ h hq hs).mono ?_; rintro e w' ⟨rfl, rfl⟩)
          | (go_at_call 29; refine (err_any b q _ (by exact h)).mono ?_; rintro e w' ⟨rfl, rfl⟩))
        go_region
        go_wp2
        go_ret
        have hr := h.setPos (q.pos + m)
        rw [he] at hr
        exact ⟨rfl, hr, ((Kept.refl _ _).set _ _).drew.drew⟩
      · rw [St.bytes_err q n he]
        go_enter Tryd.func83, Tryd.ntmps83
        go_wp2_with (first
          | (go_at_call 77; refine (left_any b q _ h hq hs).mono ?_; rintro e w' ⟨rfl, rfl⟩)
          | (go_at_call 29; refine (err_any b q _ (by exact h)).mono ?_; rintro e w' ⟨rfl, rfl⟩))
        go_ret
        exact ⟨rfl, h, (Kept.refl _ _).drew⟩
end Go.Proofs.YtoopaeahhbkncaaDoor
/- Contracts of the numbers that digits are: the program's, and the document's reader's. -/
namespace Go.Wire
theorem pow16 {k : Nat} (h : k ≤ 15) : 16 ^ k ≤ 1152921504606846976 := by
  have := Nat.pow_le_pow_right (n := 16) (by decide) h
  exact this
theorem val_take_lt (s : ByteArray) (k m : Nat) (hs : s.size ≤ 16) (hk : k < s.size) (h : val (s.data.toList.take k) = some m) : m < 1152921504606846976 := by
  have h1 := val_lt _ _ h
  have h2 : (s.data.toList.take k).length ≤ 15 := by rw [List.length_take]; omega
  exact Nat.lt_of_lt_of_le h1 (pow16 h2)
theorem val_step (s : ByteArray) (k m d : Nat) (hk : k < s.size) (h : val (s.data.toList.take k) = some m) (hd : dig s[k] = some d) : val (s.data.toList.take (k + 1)) = some (m * 16 + d) := by
  rw [take_snoc s k hk, val_snoc, h]; simp [vstep, hd]
theorem val_stop (s : ByteArray) (k : Nat) (hk : k < s.size) (hd : dig s[k] = none) : val s.data.toList = none := by
  rw [take_drop s k hk]; exact val_none hd
end Go.Wire
namespace Go.Proofs.YtoopaeahhbkncaaDoor
open Go.RowKit Go.Wire
set_option maxHeartbeats 400000 in
theorem value_any (s : ByteArray) (w : World) (hs : s.size ≤ 16) :
    Calls Tryd.prog 84 #[.string s] w fun e w' => e = .returned (.tuple #[.int .u64 ((val s.data.toList).getD 0 : Nat), .bool (val s.data.toList).isSome]) ∧ w' = w := by
  go_enter Tryd.func84, Tryd.ntmps84
  go_wp2
  go_loop [4, 10] (fun n i => ∃ k m : Nat, k ≤ s.size ∧ i = .int .i64 k ∧ n = .int .u64 m ∧ Hid (val (s.data.toList.take k) = some m)) (fun _ i => s.size - (intOf i).toNat)
  case atStart => exact ⟨0, 0, Nat.zero_le _, rfl, rfl, rfl⟩
  case round =>
    obtain ⟨k, m, hk, rfl, rfl, hv⟩ := hrel
    by_cases hlt : k < s.size
    · have hm := val_take_lt s k m hs hlt hv.out
      cases hd : dig s[k] with
      | none =>
        have HD : Hid (dig s[k] = none) := hd
        clear hd
        go_wp2_with (go_at_call 103; refine (digit_none _ _ HD.out).mono ?_; rintro e w' ⟨rfl, rfl⟩)
        go_ret2
        rw [val_stop s k hlt HD.out]
        exact ⟨rfl, rfl⟩
      | some d =>
        have HD : Hid (dig s[k] = some d) := hd
        have hd16 := dig_lt hd
        clear hd
        go_wp2_with (go_at_call 103; refine (digit_some _ d _ HD.out).mono ?_; rintro e w' ⟨rfl, rfl⟩)
        go_round
        case rel => exact ⟨k + 1, m * 16 + d, by omega, by go_num, by go_num, val_step s k m d hlt hv.out HD.out⟩
        case measure => simp [intOf]; omega
    · have hv2 : Hid (val s.data.toList = some m) := by have := hv.out; rw [take_all s k hlt] at this; exact this
      clear hv
      go_wp2
      go_ret2
      rw [hv2.out]
      exact ⟨rfl, rfl⟩
set_option maxHeartbeats 400000 in
theorem readerNumber_any (b : Nat) (q : St) (k : Int) (w : World) (h : Rd 85 b q w) (hq : q.pos ≤ q.s.size) (hs : q.s.size ≤ maxLen) :
    Calls Tryd.prog 59 #[.pointer (some ⟨b, 0, none⟩), .int .i64 k] w fun e w' => e = .returned (.int .u64 ((q.number k).2 : Nat)) ∧ Rd 85 b (q.number k).1 w' ∧ Kept b w w' := by
  have hs2 : q.s.size ≤ 9223372036854775807 := hs
  by_cases hk : k < 0 ∨ 8 < k
  · rw [St.number_out q k hk]
    by_cases h0 : k < 0
    · clear hk
      go_enter Tryd.func59, Tryd.ntmps59
      go_wp2_with (go_at_call 78; refine (fail_any b q 1 _ h).mono ?_; rintro e w1 ⟨rfl, h1, k1⟩)
      go_ret
      exact ⟨rfl, by assumption, by assumption⟩
    · have h8 : 8 < k := by omega
      clear hk
      go_enter Tryd.func59, Tryd.ntmps59
      go_wp2_with (go_at_call 78; refine (fail_any b q 1 _ h).mono ?_; rintro e w1 ⟨rfl, h1, k1⟩)
      go_ret
      exact ⟨rfl, by assumption, by assumption⟩
  · have h0 : ¬ k < 0 := fun x => hk (.inl x)
    have h8 : ¬ 8 < k := fun x => hk (.inr x)
    have HK : Hid (¬ (k < 0 ∨ 8 < k)) := hk
    clear hk
    have hz : (q.bytes (2 * k)).2.size ≤ 16 := Nat.le_trans (q.bytes_size (2 * k)) (by omega)
    cases hv : val (q.bytes (2 * k)).2.data.toList with
    | none =>
      have HV : Hid (val (q.bytes (2 * k)).2.data.toList = none) := hv
      clear hv
      rw [St.number_none q k HK.out HV.out]
      go_enter Tryd.func59, Tryd.ntmps59
      go_wp2_with (first
        | (go_at_call 33; refine (at_any b q _ h).mono ?_; rintro e w' ⟨rfl, rfl⟩)
        | (go_at_call 83; refine (bytes_any b q (2 * k) _ h hq hs).mono ?_))
      rintro e w1 ⟨rfl, h1, k1⟩
      go_wp2_with (first
        | (go_at_call 84; refine (value_any _ _ hz).mono ?_; rw [HV.out]; rintro e w' ⟨rfl, rfl⟩)
        | (go_at_call 76; refine (give_any b q.pos _ 6 _ h1).mono ?_))
      rintro e w2 ⟨rfl, h2, k2⟩
      go_wp2
      go_ret
      exact ⟨rfl, h2, k1.trans k2⟩
    | some n =>
      have HV : Hid (val (q.bytes (2 * k)).2.data.toList = some n) := hv
      clear hv
      rw [St.number_some q k n HK.out HV.out]
      go_enter Tryd.func59, Tryd.ntmps59
      go_wp2_with (first
        | (go_at_call 33; refine (at_any b q _ h).mono ?_; rintro e w' ⟨rfl, rfl⟩)
        | (go_at_call 83; refine (bytes_any b q (2 * k) _ h hq hs).mono ?_))
      rintro e w1 ⟨rfl, h1, k1⟩
      go_wp2_with (go_at_call 84; refine (value_any _ _ hz).mono ?_; rw [HV.out]; rintro e w' ⟨rfl, rfl⟩)
      go_ret
      exact ⟨rfl, h1, k1⟩
end Go.Proofs.YtoopaeahhbkncaaDoor
/- Contracts of the program's reader: counts, texts, digests, yes and no, the end. -/
namespace Go.Proofs.YtoopaeahhbkncaaDoor
open Go.RowKit Go.Wire
set_option maxHeartbeats 1000000 in
theorem count_any (b : Nat) (q : St) (most : Int) (w : World) (h : Rd 85 b q w) (hq : q.pos ≤ q.s.size) (hs : q.s.size ≤ maxLen) (hm1 : most ≤ 9223372036854775807) :
    Calls Tryd.prog 50 #[.pointer (some ⟨b, 0, none⟩), .int .i64 most] w fun e w' => e = .returned (.int .i64 ((q.count most).2 : Nat)) ∧ Rd 85 b (q.count most).1 w' ∧ Kept b w w' := by
  have hlt : (q.number 4).2 < 4294967296 := q.number_lt 4 (by decide)
  have hps := q.number_le 4 hq
  have hpq := q.number_s 4
  have HN : ∀ {w : World}, Rd 85 b q w → Hid (Calls Tryd.prog 59 #[.pointer (some ⟨b, 0, none⟩), .int .i64 4] w fun e w' => e = .returned (.int .u64 ((q.number 4).2 : Nat)) ∧ Rd 85 b (q.number 4).1 w' ∧ Kept b w w') := fun h => readerNumber_any b q 4 _ h hq hs
  by_cases hm : most < 0
  · rw [St.count_no q most (.inl hm)]
    generalize (q.number 4).2 = n at hlt HN
    generalize (q.number 4).1 = p at hps hpq HN
    go_enter Tryd.func50, Tryd.ntmps50
    go_wp2_with (first
      | (go_at_call 33; refine (at_any b q _ h).mono ?_; rintro e w' ⟨rfl, rfl⟩)
      | (go_at_call 59; refine (HN h).out.mono ?_; rintro e w1 ⟨rfl, h1, k1⟩)
      | (go_at_call 76; refine (give_any b q.pos p 3 _ (by assumption)).mono ?_; rintro e w2 ⟨rfl, h2, k2⟩))
    go_ret
    exact ⟨rfl, by assumption, Kept.trans (by assumption) (by assumption)⟩
  · by_cases hn : most < (q.number 4).2
    · rw [St.count_no q most (.inr hn)]
      generalize (q.number 4).2 = n at hlt HN hn
      generalize (q.number 4).1 = p at hps hpq HN
      go_enter Tryd.func50, Tryd.ntmps50
      go_wp2_with (first
        | (go_at_call 33; refine (at_any b q _ h).mono ?_; rintro e w' ⟨rfl, rfl⟩)
        | (go_at_call 59; refine (HN h).out.mono ?_; rintro e w1 ⟨rfl, h1, k1⟩)
        | (go_at_call 76; refine (give_any b q.pos p 3 _ (by assumption)).mono ?_; rintro e w2 ⟨rfl, h2, k2⟩))
      go_ret
      exact ⟨rfl, by assumption, Kept.trans (by assumption) (by assumption)⟩
    · rw [St.count_yes q most (fun x => x.elim hm hn)]
      generalize (q.number 4).2 = n at hlt HN hn
      generalize (q.number 4).1 = p at hps hpq HN
      go_enter Tryd.func50, Tryd.ntmps50
      go_wp2_with (first
        | (go_at_call 33; refine (at_any b q _ h).mono ?_; rintro e w' ⟨rfl, rfl⟩)
        | (go_at_call 59; refine (HN h).out.mono ?_; rintro e w1 ⟨rfl, h1, k1⟩))
      go_ret
      exact ⟨rfl, by assumption, by assumption⟩
set_option maxHeartbeats 1000000 in
theorem text_any (b : Nat) (q : St) (most : Int) (w : World) (h : Rd 85 b q w) (hq : q.pos ≤ q.s.size) (hs : q.s.size ≤ maxLen) (hm1 : most ≤ 9223372036854775807) :
    Calls Tryd.prog 58 #[.pointer (some ⟨b, 0, none⟩), .int .i64 most] w fun e w' => e = .returned (.string (q.text most).2) ∧ Rd 85 b (q.text most).1 w' ∧ Kept b w w' := by
  have hlt := q.count_lt most
  have hps := q.count_le most hq
  have hpq := q.count_s most
  have hne := St.back_ne (q.count most).1 q.pos 4 (by decide)
  have HN : ∀ {w : World}, Rd 85 b q w → Hid (Calls Tryd.prog 50 #[.pointer (some ⟨b, 0, none⟩), .int .i64 most] w fun e w' => e = .returned (.int .i64 ((q.count most).2 : Nat)) ∧ Rd 85 b (q.count most).1 w' ∧ Kept b w w') := fun h => count_any b q most _ h hq hs hm1
  by_cases hc : (q.s.size : Int) - (q.count most).1.pos < (q.count most).2
  · rw [St.text_cut q most hq hc]
    generalize (q.count most).2 = n at hlt HN hc
    generalize (q.count most).1 = p at hps hpq HN hc hne
    rw [← hpq] at hc hps hs
    have hbe := St.bytes_err (p.back q.pos 4) n hne
    have hbs := St.back_s p q.pos 4
    have hle := St.back_le p q.pos 4 p.s.size hps (by rw [hpq]; exact hq)
    have HB : ∀ {w : World}, Rd 85 b (p.back q.pos 4) w → Hid (Calls Tryd.prog 83 #[.pointer (some ⟨b, 0, none⟩), .int .i64 n] w fun e w' => e = .returned (.string ⟨#[]⟩) ∧ Rd 85 b (p.back q.pos 4) w' ∧ Kept b w w') := fun h => by
      have := bytes_any b _ n _ h (by rw [hbs]; exact hle) (by rw [hbs]; exact hs)
      rwa [hbe] at this
    have HG : ∀ {w : World}, Rd 85 b p w → Hid (Calls Tryd.prog 76 #[.pointer (some ⟨b, 0, none⟩), .int .i64 q.pos, .int .i64 4] w fun e w' => e = .returned (.tuple #[]) ∧ Rd 85 b (p.back q.pos 4) w' ∧ Kept b w w') := fun h => give_any b q.pos p 4 _ h
    clear hbe hbs hne hle hpq
    generalize p.back q.pos 4 = r at HB HG
    go_enter Tryd.func58, Tryd.ntmps58
    go_wp2_with (first
      | (go_at_call 33; refine (at_any b q _ h).mono ?_; rintro e w' ⟨rfl, rfl⟩)
      | (go_at_call 50; refine (HN h).out.mono ?_; rintro e w1 ⟨rfl, h1, k1⟩)
      | (go_at_call 77; refine (left_any b p _ (by assumption) hps hs).mono ?_; rintro e w' ⟨rfl, rfl⟩)
      | (go_at_call 76; refine (HG (by assumption)).out.mono ?_; rintro e w2 ⟨rfl, h2, k2⟩)
      | (go_at_call 83; refine (HB (by assumption)).out.mono ?_; rintro e w3 ⟨rfl, h3, k3⟩))
    go_ret
    exact ⟨rfl, by assumption, ((Kept.trans (by assumption) (Kept.refl _ _).drew).trans (by assumption)).trans (by assumption)⟩
  · rw [St.text_ok q most hc]
    generalize (q.count most).2 = n at hlt HN hc
    generalize (q.count most).1 = p at hps hpq HN hc
    rw [← hpq] at hc hps hs
    clear hpq
    have HB : ∀ {w : World}, Rd 85 b p w → Hid (Calls Tryd.prog 83 #[.pointer (some ⟨b, 0, none⟩), .int .i64 n] w fun e w' => e = .returned (.string (p.bytes n).2) ∧ Rd 85 b (p.bytes n).1 w' ∧ Kept b w w') := fun h => bytes_any b p n _ h hps hs
    go_enter Tryd.func58, Tryd.ntmps58
    go_wp2_with (first
      | (go_at_call 33; refine (at_any b q _ h).mono ?_; rintro e w' ⟨rfl, rfl⟩)
      | (go_at_call 50; refine (HN h).out.mono ?_; rintro e w1 ⟨rfl, h1, k1⟩)
      | (go_at_call 77; refine (left_any b p _ (by assumption) hps hs).mono ?_; rintro e w' ⟨rfl, rfl⟩)
      | (go_at_call 83; refine (HB (by assumption)).out.mono ?_; rintro e w3 ⟨rfl, h3, k3⟩))
    go_ret
    exact ⟨rfl, by assumption, (Kept.trans (by assumption) (Kept.refl _ _).drew).trans (by assumption)⟩
set_option maxHeartbeats 400000 in
theorem hash_any (b : Nat) (q : St) (w : World) (h : Rd 85 b q w) (hq : q.pos ≤ q.s.size) (hs : q.s.size ≤ maxLen) :
    Calls Tryd.prog 57 #[.pointer (some ⟨b, 0, none⟩)] w fun e w' => e = .returned (.string (q.bytes 32).2) ∧ Rd 85 b (q.bytes 32).1 w' ∧ Kept b w w' := by
  go_enter Tryd.func57, Tryd.ntmps57
  go_wp2_with (go_at_call 83; refine (bytes_any b q 32 _ h hq hs).mono ?_; rintro e w1 ⟨rfl, h1, k1⟩)
  go_ret
  exact ⟨rfl, by assumption, by assumption⟩
set_option maxHeartbeats 400000 in
theorem end_any (b : Nat) (q : St) (w : World) (h : Rd 85 b q w) (hq : q.pos ≤ q.s.size) (hs : q.s.size ≤ maxLen) :
    Calls Tryd.prog 52 #[.pointer (some ⟨b, 0, none⟩)] w fun e w' => e = .returned (.int .i64 q.fin.err) ∧ Rd 85 b q.fin w' ∧ Kept b w w' := by
  by_cases hl : 0 < (q.s.size : Int) - q.pos
  · rw [St.fin_fail q hl]
    go_enter Tryd.func52, Tryd.ntmps52
    go_wp2_with (first
      | (go_at_call 77; refine (left_any b q _ h hq hs).mono ?_; rintro e w' ⟨rfl, rfl⟩)
      | (go_at_call 78; refine (fail_any b q 5 _ (by exact h)).mono ?_; rintro e w1 ⟨rfl, h1, k1⟩)
      | (go_at_call 29; refine (err_any b (q.fail 5) _ (by assumption)).mono ?_; rintro e w' ⟨rfl, rfl⟩))
    go_ret
    exact ⟨rfl, by assumption, ((Kept.refl b w).drew).trans (by assumption)⟩
  · rw [St.fin_end q hl]
    go_enter Tryd.func52, Tryd.ntmps52
    go_wp2_with (first
      | (go_at_call 77; refine (left_any b q _ h hq hs).mono ?_; rintro e w' ⟨rfl, rfl⟩)
      | (go_at_call 29; refine (err_any b q _ (by exact h)).mono ?_; rintro e w' ⟨rfl, rfl⟩))
    go_ret
    exact ⟨rfl, h, (Kept.refl _ _).drew⟩
end Go.Proofs.YtoopaeahhbkncaaDoor
