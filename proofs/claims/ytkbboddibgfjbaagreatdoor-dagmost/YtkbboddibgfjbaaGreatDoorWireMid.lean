/- Several texts in one: WireRd, WireDigit, WireReader, WireValue, WireFnv, WireNumber, WireRef, WireRefDigits, WireRefNum. -/
import Derived.Test.YtkbboddibgfjbaaGreatDoorWirePure
import Derived.WalkKit
import Derived.WalkSpells
import Derived.WalkLawsBesides
import Derived.Deep.QuietTactic
import Derived.Deep.RegionWith
import Derived.BigQuiet
import Derived.Deep.WholeRow
import Derived.Test.YtkbboddibgfjbaaGreatDoorRows
import Derived.Test.YtkbboddibgfjbaaGreatDoorPureSha
import Derived.Laws.MakeOwn
import Derived.Laws.ResultCell
/- A reader as it lies in memory, and what leaves all but one block alone; of no program. -/
namespace Go.Wire
open Go.RowKit
/-- What was there stands, but for the block b. -/
structure Kept (b : Nat) (w w' : World) : Prop where
  below : Below b w w'
  other : ∀ k, k ≠ b → k < w.heap.size → w'.heap[k]? = w.heap[k]?
theorem Kept.refl (b : Nat) (w : World) : Kept b w w := ⟨Below.refl _ _, fun _ _ _ => rfl⟩
theorem Kept.trans {b : Nat} {w w1 w2 : World} (h : Kept b w w1) (k : Kept b w1 w2) : Kept b w w2 :=
  ⟨h.below.trans k.below, fun j hj hl => (k.other j hj (Nat.lt_of_lt_of_le hl h.below.size)).trans (h.other j hj hl)⟩
theorem Kept.drewN {b : Nat} {w w1 : World} (h : Kept b w w1) (n : Nat) : Kept b w (w1.drewN n) := ⟨⟨h.below.os, h.below.tape, h.below.output, h.below.size, h.below.block⟩, h.other⟩
theorem Kept.drew {b : Nat} {w w1 : World} (h : Kept b w w1) : Kept b w w1.drew := ⟨h.below.drew, h.other⟩
theorem Kept.set {b : Nat} {w w1 : World} (h : Kept b w w1) (i : Nat) (v : Value) : Kept b w (w1.setCell ⟨b, i, none⟩ v) :=
  ⟨h.below.setCell (p := ⟨b, i, none⟩) (Nat.le_refl _) v, fun j hj hl => (Below.heap_setCell w1 ⟨b, i, none⟩ v j hj).trans (h.other j hj hl)⟩
theorem Kept.cell {b : Nat} {w w' : World} (h : Kept b w w') {p : Addr} (hp : p.block ≠ b) (hl : p.block < w.heap.size) : w'.cell? p = w.cell? p := World.cell?_of_block (w := w) (h.other p.block hp hl)
theorem Kept.frozen {b : Nat} {w w' : World} (h : Kept b w w') {p : Addr} (hp : p.block ≠ b) (hl : p.block < w.heap.size) : w'.frozen? p = w.frozen? p := World.frozen?_of_block (w := w) (h.other p.block hp hl)
theorem Kept.of_below {b : Nat} {w w' : World} (h : Below w.heap.size w w') (hb : b < w.heap.size) : Kept b w w' :=
  ⟨h.mono (Nat.le_of_lt hb), fun k _ hl => h.block k hl⟩
/-- Cells of a block that is new are set. -/
theorem Kept.setNew {b g : Nat} {w w' : World} (h : Kept b w w') (hb : b < w.heap.size) (hg : w.heap.size ≤ g) (i : Nat) (v : Value) : Kept b w (w'.setCell ⟨g, i, none⟩ v) :=
  ⟨h.below.setCell (p := ⟨g, i, none⟩) (Nat.le_trans (Nat.le_of_lt hb) hg) v, fun j hj hl => (Below.heap_setCell w' ⟨g, i, none⟩ v j (Nat.ne_of_lt (Nat.lt_of_lt_of_le hl hg))).trans (h.other j hj hl)⟩
theorem row_lt {w : World} {g : Nat} {o : Obj} (h : w.heap[g]? = some o) : g < w.heap.size := by
  rcases Nat.lt_or_ge g w.heap.size with x | x
  · exact x
  · rw [Array.getElem?_eq_none x] at h; cases h
/-- Block b is a reader. -/
def Rd (T b : Nat) (q : St) (w : World) : Prop := w.heap[b]? = some (.cells #[.string q.s, .int .i64 q.pos, .int .i64 q.err] T (0, 0))
theorem Rd.lt {T b : Nat} {q : St} {w : World} (h : Rd T b q w) : b < w.heap.size := by
  rcases Nat.lt_or_ge b w.heap.size with k | k
  · exact k
  · unfold Rd at h; rw [Array.getElem?_eq_none k] at h; cases h
theorem Rd.of_heap {T b : Nat} {q : St} {w w' : World} (h : Rd T b q w) (e : w'.heap[b]? = w.heap[b]?) : Rd T b q w' := by unfold Rd; rw [e]; exact h
theorem Rd.cells {T b : Nat} {q : St} {w : World} (h : Rd T b q w) : w.cell? ⟨b, 0, none⟩ = some (.string q.s) ∧ w.cell? ⟨b, 1, none⟩ = some (.int .i64 q.pos) ∧ w.cell? ⟨b, 2, none⟩ = some (.int .i64 q.err) ∧ w.frozen? ⟨b, 1, none⟩ = false ∧ w.frozen? ⟨b, 2, none⟩ = false :=
  ⟨cell_of_row _ _ _ _ _ _ h, cell_of_row _ _ _ _ _ _ h, cell_of_row _ _ _ _ _ _ h, frozen_of_row _ _ _ _ _ h, frozen_of_row _ _ _ _ _ h⟩
theorem Rd.setErr {T b : Nat} {q : St} {w : World} (h : Rd T b q w) (e : Int) : Rd T b ⟨q.s, q.pos, e⟩ (w.setCell ⟨b, 2, none⟩ (.int .i64 e)) := by
  unfold Rd; rw [heap_setCell_same _ _ _ _ _ _ h]; rfl
theorem Rd.setPos {T b : Nat} {q : St} {w : World} (h : Rd T b q w) (p : Nat) : Rd T b ⟨q.s, p, q.err⟩ (w.setCell ⟨b, 1, none⟩ (.int .i64 p)) := by
  unfold Rd; rw [heap_setCell_same _ _ _ _ _ _ h]; rfl
theorem lit_ne {x : ByteArray} {a : Array UInt8} {l : List UInt8} (ha : a.toList = l) (h : x ≠ ⟨a⟩) : (x.toList == l) = false := by
  rw [beq_eq_false_iff_ne]
  intro e
  apply h
  rw [ByteArray.toList_eq, ← ha] at e
  exact ByteArray.ext (Array.toList_inj.1 e)
theorem lit_eq (x y : ByteArray) : (x.toList == y.toList) = decide (x = y) := by
  by_cases h : x = y
  · subst h; simp
  · rw [decide_eq_false h, beq_eq_false_iff_ne]
    intro e
    apply h
    rw [ByteArray.toList_eq, ByteArray.toList_eq] at e
    exact ByteArray.ext (Array.toList_inj.1 e)
end Go.Wire
/- Contracts of a digit. -/
namespace Go.Wire
theorem take_snoc (s : ByteArray) (k : Nat) (h : k < s.size) : s.data.toList.take (k + 1) = s.data.toList.take k ++ [s[k]] := by
  rw [List.take_succ_eq_append_getElem (by simpa using h)]; rfl
theorem take_all (s : ByteArray) (k : Nat) (h : ¬ k < s.size) : s.data.toList.take k = s.data.toList :=
  List.take_of_length_le (by simp only [Array.length_toList]; exact Nat.le_of_not_lt h)
theorem take_drop (s : ByteArray) (k : Nat) (h : k < s.size) : s.data.toList = s.data.toList.take k ++ s[k] :: s.data.toList.drop (k + 1) := by
  have h2 : k < s.data.toList.length := by simpa using h
  rw [show s[k] = s.data.toList[k] from rfl, List.getElem_cons_drop, List.take_append_drop]
end Go.Wire
namespace Go.Proofs.YtkbboddibgfjbaaGreatDoor
open Go.RowKit Go.Wire
set_option maxHeartbeats 400000 in
theorem digit_some (c : UInt8) (d : Nat) (w : World) (h : dig c = some d) :
    Calls Tryz.prog 181 #[.int .u8 c.toNat] w fun e w' => e = .returned (.tuple #[.int .u64 d, .bool true]) ∧ w' = w := by
  have hc := c.toNat_lt
  unfold dig at h
  generalize c.toNat = x at h hc
  by_cases h1 : 48 ≤ x ∧ x ≤ 57
  · rw [if_pos h1] at h
    cases h
    obtain ⟨h1, h2⟩ := h1
    go_enter Tryz.func181, Tryz.ntmps181
    go_wp2
    go_ret2
    refine ⟨?_, rfl⟩
    show Ending.returned (.tuple #[.int .u64 ((x : Int) - 48), .bool true]) = _
    rw [show (x : Int) - 48 = ((x - 48 : Nat) : Int) by omega]
  · rw [if_neg h1] at h
    by_cases h2 : 97 ≤ x ∧ x ≤ 102
    · rw [if_pos h2] at h
      cases h
      obtain ⟨h2, h3⟩ := h2
      have h4 : ¬ x ≤ 57 := by omega
      clear h1
      go_enter Tryz.func181, Tryz.ntmps181
      go_wp2
      go_ret2
      refine ⟨?_, rfl⟩
      show Ending.returned (.tuple #[.int .u64 ((x : Int) - 97 + 10), .bool true]) = _
      rw [show (x : Int) - 97 + 10 = ((x - 87 : Nat) : Int) by omega]
    · rw [if_neg h2] at h
      cases h
set_option maxHeartbeats 400000 in
theorem digit_none (c : UInt8) (w : World) (h : dig c = none) :
    Calls Tryz.prog 181 #[.int .u8 c.toNat] w fun e w' => e = .returned (.tuple #[.int .u64 0, .bool false]) ∧ w' = w := by
  have hc := c.toNat_lt
  unfold dig at h
  generalize c.toNat = x at h hc
  by_cases h1 : 48 ≤ x ∧ x ≤ 57
  · rw [if_pos h1] at h; cases h
  · rw [if_neg h1] at h
    by_cases h2 : 97 ≤ x ∧ x ≤ 102
    · rw [if_pos h2] at h; cases h
    · clear h
      by_cases h3 : x < 48
      · have h4 : x < 97 := by omega
        clear h1 h2
        go_enter Tryz.func181, Tryz.ntmps181
        go_wp2
        go_ret2
        exact ⟨rfl, rfl⟩
      · have h4 : 57 < x := by omega
        clear h1
        by_cases h5 : x < 97
        · clear h2
          go_enter Tryz.func181, Tryz.ntmps181
          go_wp2
          go_ret2
          exact ⟨rfl, rfl⟩
        · have h6 : 102 < x := by omega
          clear h2
          go_enter Tryz.func181, Tryz.ntmps181
          go_wp2
          go_ret2
          exact ⟨rfl, rfl⟩
end Go.Proofs.YtkbboddibgfjbaaGreatDoor
/- Contracts of the small calls of the program's reader. -/
namespace Go.Proofs.YtkbboddibgfjbaaGreatDoor
open Go.RowKit Go.Wire
set_option maxHeartbeats 400000 in
theorem err_any (b : Nat) (q : St) (w : World) (h : Rd 246 b q w) :
    Calls Tryz.prog 169 #[.pointer (some ⟨b, 0, none⟩)] w fun e w' => e = .returned (.int .i64 q.err) ∧ w' = w := by
  obtain ⟨c0, c1, c2, f1, f2⟩ := h.cells
  go_enter Tryz.func169, Tryz.ntmps169
  go_wp2
  go_ret
  exact ⟨rfl, rfl⟩
set_option maxHeartbeats 400000 in
theorem at_any (b : Nat) (q : St) (w : World) (h : Rd 246 b q w) :
    Calls Tryz.prog 161 #[.pointer (some ⟨b, 0, none⟩)] w fun e w' => e = .returned (.int .i64 q.pos) ∧ w' = w := by
  obtain ⟨c0, c1, c2, f1, f2⟩ := h.cells
  go_enter Tryz.func161, Tryz.ntmps161
  go_wp2
  go_ret
  exact ⟨rfl, rfl⟩
set_option maxHeartbeats 400000 in
theorem left_any (b : Nat) (q : St) (w : World) (h : Rd 246 b q w) (hq : q.pos ≤ q.s.size) (hs : q.s.size ≤ maxLen) :
    Calls Tryz.prog 170 #[.pointer (some ⟨b, 0, none⟩)] w fun e w' => e = .returned (.int .i64 ((q.s.size : Int) - q.pos)) ∧ w' = w.drew := by
  unfold maxLen at hs
  obtain ⟨c0, c1, c2, f1, f2⟩ := h.cells
  go_enter Tryz.func170, Tryz.ntmps170
  go_wp2
  go_region
  go_wp2
  go_ret
  exact ⟨rfl, rfl⟩
set_option maxHeartbeats 400000 in
theorem fail_any (b : Nat) (q : St) (x : Int) (w : World) (h : Rd 246 b q w) :
    Calls Tryz.prog 160 #[.pointer (some ⟨b, 0, none⟩), .int .i64 x] w fun e w' => e = .returned (.tuple #[]) ∧ Rd 246 b (q.fail x) w' ∧ Kept b w w' := by
  obtain ⟨c0, c1, c2, f1, f2⟩ := h.cells
  by_cases he : q.err = 0
  · go_enter Tryz.func160, Tryz.ntmps160
    go_wp2_with (go_at_call 169; refine (err_any b q _ h).mono ?_; rintro e w' ⟨rfl, rfl⟩)
    go_end0
    exact ⟨rfl, by rw [St.fail, if_pos he]; exact h.setErr x, (Kept.refl _ _).set _ _⟩
  · go_enter Tryz.func160, Tryz.ntmps160
    go_wp2_with (go_at_call 169; refine (err_any b q _ h).mono ?_; rintro e w' ⟨rfl, rfl⟩)
    go_end0
    exact ⟨rfl, by rw [St.fail, if_neg he]; exact h, Kept.refl _ _⟩
set_option maxHeartbeats 400000 in
theorem give_any (b p : Nat) (q : St) (x : Int) (w : World) (h : Rd 246 b q w) :
    Calls Tryz.prog 164 #[.pointer (some ⟨b, 0, none⟩), .int .i64 p, .int .i64 x] w fun e w' => e = .returned (.tuple #[]) ∧ Rd 246 b (q.back p x) w' ∧ Kept b w w' := by
  obtain ⟨c0, c1, c2, f1, f2⟩ := h.cells
  by_cases he : q.err = 0
  · go_enter Tryz.func164, Tryz.ntmps164
    go_wp2_with (go_at_call 169; refine (err_any b q _ h).mono ?_; rintro e w' ⟨rfl, rfl⟩)
    go_end0
    exact ⟨rfl, by rw [St.back, if_pos he]; exact (h.setPos p).setErr x, ((Kept.refl _ _).set _ _).set _ _⟩
  · go_enter Tryz.func164, Tryz.ntmps164
    go_wp2_with (go_at_call 169; refine (err_any b q _ h).mono ?_; rintro e w' ⟨rfl, rfl⟩)
    go_end0
    exact ⟨rfl, by rw [St.back, if_neg he]; exact h, Kept.refl _ _⟩
set_option maxHeartbeats 400000 in
theorem newReader_any (s : ByteArray) (w : World) :
    Calls Tryz.prog 126 #[.string s] w fun e w' => e = .returned (.pointer (some ⟨w.heap.size, 0, none⟩)) ∧ Rd 246 w.heap.size ⟨s, 0, 0⟩ w' ∧ Below w.heap.size w w' := by
  go_enter Tryz.func126, Tryz.ntmps126
  go_wp2
  go_ret
  exact ⟨rfl, heap_alloc_new _ _, (Below.refl _ _).alloc (Nat.le_refl _) _⟩
set_option maxHeartbeats 1000000 in
theorem bytes_any (b : Nat) (q : St) (n : Int) (w : World) (h : Rd 246 b q w) (hq : q.pos ≤ q.s.size) (hs : q.s.size ≤ maxLen) :
    Calls Tryz.prog 163 #[.pointer (some ⟨b, 0, none⟩), .int .i64 n] w fun e w' => e = .returned (.string (q.bytes n).2) ∧ Rd 246 b (q.bytes n).1 w' ∧ Kept b w w' := by
  have hs2 : q.s.size ≤ 9223372036854775807 := hs
  by_cases hn : n < 0
  · have hf := St.fail_ne q 1 (by decide)
    rw [St.bytes_neg q n hn]
    go_enter Tryz.func163, Tryz.ntmps163
    go_wp2_with (go_at_call 160; refine (fail_any b q 1 _ h).mono ?_)
    rintro e w1 ⟨rfl, h1, k1⟩
    go_wp2_with (go_at_call 169; refine (err_any b _ _ h1).mono ?_; rintro e w' ⟨rfl, rfl⟩)
    go_ret
    exact ⟨rfl, h1, k1⟩
  · by_cases hl : (q.s.size : Int) - q.pos < n
    · have hf := St.fail_ne q 4 (by decide)
      rw [St.bytes_cut q n hn hl]
      go_enter Tryz.func163, Tryz.ntmps163
      go_wp2_with (first
        | (go_at_call 170; refine (left_any b q _ h hq hs).mono ?_; rintro e w' ⟨rfl, rfl⟩)
        | (go_at_call 160; refine (fail_any b q 4 _ (by exact h)).mono ?_))
      rintro e w1 ⟨rfl, h1, k1⟩
      go_wp2_with (go_at_call 169; refine (err_any b _ _ h1).mono ?_; rintro e w' ⟨rfl, rfl⟩)
      go_ret
      exact ⟨rfl, h1, ((Kept.refl b w).drew).trans k1⟩
    · by_cases he : q.err = 0
      · obtain ⟨m, rfl⟩ : ∃ m : Nat, n = m := ⟨n.toNat, by omega⟩
        obtain ⟨c0, c1, c2, f1, f2⟩ := h.cells
        rw [St.bytes_ok q _ he hn hl]
        have hm : q.pos + m ≤ q.s.size := by omega
        go_enter Tryz.func163, Tryz.ntmps163
        go_wp2_with (first
          | (go_at_call 170; refine (left_any b q _ h hq hs).mono ?_; rintro e w' ⟨rfl, rfl⟩)
          | (go_at_call 169; refine (err_any b q _ (by exact h)).mono ?_; rintro e w' ⟨rfl, rfl⟩))
        go_region
        go_wp2
        go_ret
        have hr := h.setPos (q.pos + m)
        rw [he] at hr
        exact ⟨rfl, hr, ((Kept.refl _ _).set _ _).drew.drew⟩
      · rw [St.bytes_err q n he]
        go_enter Tryz.func163, Tryz.ntmps163
        go_wp2_with (first
          | (go_at_call 170; refine (left_any b q _ h hq hs).mono ?_; rintro e w' ⟨rfl, rfl⟩)
          | (go_at_call 169; refine (err_any b q _ (by exact h)).mono ?_; rintro e w' ⟨rfl, rfl⟩))
        go_ret
        exact ⟨rfl, h, (Kept.refl _ _).drew⟩
end Go.Proofs.YtkbboddibgfjbaaGreatDoor
/- Contracts of the numbers that digits are: the program's, and the document's reader's. -/
namespace Go.Wire
theorem pow16 {k : Nat} (h : k ≤ 15) : 16 ^ k ≤ 1152921504606846976 := by
  have := Nat.pow_le_pow_right (n := 16) (by decide) h
  exact this
theorem val_take_lt (s : ByteArray) (k m : Nat) (hs : s.size ≤ 16) (hk : k < s.size) (h : val (s.data.toList.take k) = some m) : m < 1152921504606846976 := by
  have h1 := val_lt _ _ h
  have h2 : (s.data.toList.take k).length ≤ 15 := by rw [List.length_take]; omega
  exact Nat.lt_of_lt_of_le h1 (pow16 h2)
theorem val_step (s : ByteArray) (k m d : Nat) (hk : k < s.size) (h : val (s.data.toList.take k) = some m) (hd : dig s[k] = some d) : val (s.data.toList.take (k + 1)) = some (m * 16 + d) := by
  rw [take_snoc s k hk, val_snoc, h]; simp [vstep, hd]
theorem val_stop (s : ByteArray) (k : Nat) (hk : k < s.size) (hd : dig s[k] = none) : val s.data.toList = none := by
  rw [take_drop s k hk]; exact val_none hd
end Go.Wire
namespace Go.Proofs.YtkbboddibgfjbaaGreatDoor
open Go.RowKit Go.Wire
set_option maxHeartbeats 400000 in
theorem value_any (s : ByteArray) (w : World) (hs : s.size ≤ 16) :
    Calls Tryz.prog 162 #[.string s] w fun e w' => e = .returned (.tuple #[.int .u64 ((val s.data.toList).getD 0 : Nat), .bool (val s.data.toList).isSome]) ∧ w' = w := by
  go_enter Tryz.func162, Tryz.ntmps162
  go_wp2
  go_loop [4, 10] (fun n i => ∃ k m : Nat, k ≤ s.size ∧ i = .int .i64 k ∧ n = .int .u64 m ∧ Hid (val (s.data.toList.take k) = some m)) (fun _ i => s.size - (intOf i).toNat)
  case atStart => exact ⟨0, 0, Nat.zero_le _, rfl, rfl, rfl⟩
  case round =>
    obtain ⟨k, m, hk, rfl, rfl, hv⟩ := hrel
    by_cases hlt : k < s.size
    · have hm := val_take_lt s k m hs hlt hv.out
      cases hd : dig s[k] with
      | none =>
        have HD : Hid (dig s[k] = none) := hd
        clear hd
        go_wp2_with (go_at_call 181; refine (digit_none _ _ HD.out).mono ?_; rintro e w' ⟨rfl, rfl⟩)
        go_ret2
        rw [val_stop s k hlt HD.out]
        exact ⟨rfl, rfl⟩
      | some d =>
        have HD : Hid (dig s[k] = some d) := hd
        have hd16 := dig_lt hd
        clear hd
        go_wp2_with (go_at_call 181; refine (digit_some _ d _ HD.out).mono ?_; rintro e w' ⟨rfl, rfl⟩)
        go_round
        case rel => exact ⟨k + 1, m * 16 + d, by omega, by go_num, by go_num, val_step s k m d hlt hv.out HD.out⟩
        case measure => simp [intOf]; omega
    · have hv2 : Hid (val s.data.toList = some m) := by have := hv.out; rw [take_all s k hlt] at this; exact this
      clear hv
      go_wp2
      go_ret2
      rw [hv2.out]
      exact ⟨rfl, rfl⟩
set_option maxHeartbeats 400000 in
theorem readerNumber_any (b : Nat) (q : St) (k : Int) (w : World) (h : Rd 246 b q w) (hq : q.pos ≤ q.s.size) (hs : q.s.size ≤ maxLen) :
    Calls Tryz.prog 127 #[.pointer (some ⟨b, 0, none⟩), .int .i64 k] w fun e w' => e = .returned (.int .u64 ((q.number k).2 : Nat)) ∧ Rd 246 b (q.number k).1 w' ∧ Kept b w w' := by
  have hs2 : q.s.size ≤ 9223372036854775807 := hs
  by_cases hk : k < 0 ∨ 8 < k
  · rw [St.number_out q k hk]
    by_cases h0 : k < 0
    · clear hk
      go_enter Tryz.func127, Tryz.ntmps127
      go_wp2_with (go_at_call 160; refine (fail_any b q 1 _ h).mono ?_; rintro e w1 ⟨rfl, h1, k1⟩)
      go_ret
      exact ⟨rfl, by assumption, by assumption⟩
    · have h8 : 8 < k := by omega
      clear hk
      go_enter Tryz.func127, Tryz.ntmps127
      go_wp2_with (go_at_call 160; refine (fail_any b q 1 _ h).mono ?_; rintro e w1 ⟨rfl, h1, k1⟩)
      go_ret
      exact ⟨rfl, by assumption, by assumption⟩
  · have h0 : ¬ k < 0 := fun x => hk (.inl x)
    have h8 : ¬ 8 < k := fun x => hk (.inr x)
    have HK : Hid (¬ (k < 0 ∨ 8 < k)) := hk
    clear hk
    have hz : (q.bytes (2 * k)).2.size ≤ 16 := Nat.le_trans (q.bytes_size (2 * k)) (by omega)
    cases hv : val (q.bytes (2 * k)).2.data.toList with
    | none =>
      have HV : Hid (val (q.bytes (2 * k)).2.data.toList = none) := hv
      clear hv
      rw [St.number_none q k HK.out HV.out]
      go_enter Tryz.func127, Tryz.ntmps127
      go_wp2_with (first
        | (go_at_call 161; refine (at_any b q _ h).mono ?_; rintro e w' ⟨rfl, rfl⟩)
        | (go_at_call 163; refine (bytes_any b q (2 * k) _ h hq hs).mono ?_))
      rintro e w1 ⟨rfl, h1, k1⟩
      go_wp2_with (first
        | (go_at_call 162; refine (value_any _ _ hz).mono ?_; rw [HV.out]; rintro e w' ⟨rfl, rfl⟩)
        | (go_at_call 164; refine (give_any b q.pos _ 6 _ h1).mono ?_))
      rintro e w2 ⟨rfl, h2, k2⟩
      go_wp2
      go_ret
      exact ⟨rfl, h2, k1.trans k2⟩
    | some n =>
      have HV : Hid (val (q.bytes (2 * k)).2.data.toList = some n) := hv
      clear hv
      rw [St.number_some q k n HK.out HV.out]
      go_enter Tryz.func127, Tryz.ntmps127
      go_wp2_with (first
        | (go_at_call 161; refine (at_any b q _ h).mono ?_; rintro e w' ⟨rfl, rfl⟩)
        | (go_at_call 163; refine (bytes_any b q (2 * k) _ h hq hs).mono ?_))
      rintro e w1 ⟨rfl, h1, k1⟩
      go_wp2_with (go_at_call 162; refine (value_any _ _ hz).mono ?_; rw [HV.out]; rintro e w' ⟨rfl, rfl⟩)
      go_ret
      exact ⟨rfl, h1, k1⟩
end Go.Proofs.YtkbboddibgfjbaaGreatDoor
/- Contracts of the check of bytes, and of the value of a letter. -/
namespace Go.Wire
theorem fnv_u32 (s : ByteArray) (k : Nat) (h : k < s.size) : bits .xor .u32 (fnv (s.data.toList.take k) : Int) ((s[k].toNat : Nat) : Int) * 16777619 % 4294967296 = (fnv (s.data.toList.take (k + 1)) : Int) := by
  rw [take_snoc s k h, fnv_snoc, xor_u32 _ _ (fnv_lt _), step]
  simp
theorem fnv_u64 (s : ByteArray) (k : Nat) (h : k < s.size) : bits .xor .u64 (fnv (s.data.toList.take k) : Int) ((s[k].toNat : Nat) : Int) * 16777619 % 18446744073709551616 % 4294967296 = (fnv (s.data.toList.take (k + 1)) : Int) := by
  rw [take_snoc s k h, fnv_snoc, xor_u64 _ _ (fnv_lt _), step]
  have := xor_lt _ s[k] (fnv_lt (s.data.toList.take k))
  generalize fnv (s.data.toList.take k) ^^^ s[k].toNat = x at this
  omega
theorem byte_mod (c : UInt8) (m : Int) (h : 256 ≤ m) : ((c.toNat : Nat) : Int) % m = ((c.toNat : Nat) : Int) :=
  Int.emod_eq_of_lt (by omega) (by have := c.toNat_lt; omega)
end Go.Wire
namespace Go.Proofs.YtkbboddibgfjbaaGreatDoor
open Go.RowKit Go.Wire
set_option maxHeartbeats 400000 in
theorem rvalue_some (c : UInt8) (d : Nat) (w : World) (h : dig c = some d) :
    Calls Tryz.prog 94 #[.int .u8 c.toNat] w fun e w' => e = .returned (.int .u64 d) ∧ w' = w := by
  have hc := c.toNat_lt
  unfold dig at h
  generalize c.toNat = x at h hc
  by_cases h1 : 48 ≤ x ∧ x ≤ 57
  · rw [if_pos h1] at h
    cases h
    obtain ⟨h1, h2⟩ := h1
    go_enter Tryz.func94, Tryz.ntmps94
    go_wp2
    go_ret
    refine ⟨?_, rfl⟩
    show Ending.returned (.int .u64 ((x : Int) - 48)) = _
    rw [show (x : Int) - 48 = ((x - 48 : Nat) : Int) by omega]
  · rw [if_neg h1] at h
    by_cases h2 : 97 ≤ x ∧ x ≤ 102
    · rw [if_pos h2] at h
      cases h
      obtain ⟨h2, h3⟩ := h2
      have h4 : ¬ x ≤ 57 := by omega
      clear h1
      go_enter Tryz.func94, Tryz.ntmps94
      go_wp2
      go_ret
      refine ⟨?_, rfl⟩
      show Ending.returned (.int .u64 ((x : Int) - 87)) = _
      rw [show (x : Int) - 87 = ((x - 87 : Nat) : Int) by omega]
    · rw [if_neg h2] at h
      cases h
set_option maxHeartbeats 400000 in
theorem rvalue_none (c : UInt8) (w : World) (h : dig c = none) :
    Calls Tryz.prog 94 #[.int .u8 c.toNat] w fun e w' => e = .returned (.int .u64 16) ∧ w' = w := by
  have hc := c.toNat_lt
  unfold dig at h
  generalize c.toNat = x at h hc
  by_cases h1 : 48 ≤ x ∧ x ≤ 57
  · rw [if_pos h1] at h; cases h
  · rw [if_neg h1] at h
    by_cases h2 : 97 ≤ x ∧ x ≤ 102
    · rw [if_pos h2] at h; cases h
    · clear h
      by_cases h3 : x < 48
      · have h4 : x < 97 := by omega
        clear h1 h2
        go_enter Tryz.func94, Tryz.ntmps94
        go_wp2
        go_ret
        exact ⟨rfl, rfl⟩
      · have h4 : 57 < x := by omega
        clear h1
        by_cases h5 : x < 97
        · clear h2
          go_enter Tryz.func94, Tryz.ntmps94
          go_wp2
          go_ret
          exact ⟨rfl, rfl⟩
        · have h6 : 102 < x := by omega
          clear h2
          go_enter Tryz.func94, Tryz.ntmps94
          go_wp2
          go_ret
          exact ⟨rfl, rfl⟩
end Go.Proofs.YtkbboddibgfjbaaGreatDoor
/- The contract of a number's digits. -/
namespace Go.ByteRow
open Go.RowKit Go.Sha
/-- A row of noughts that a call has made. -/
theorem Has.made {base : Nat} {w : World} (hb : base ≤ w.heap.size) (m : Nat) (e : TypeId) : Has base (w.alloc (.cells (madeCells #[Value.int .u8 0] m) e)) (.slice (some ⟨w.heap.size, 0, none⟩) m m) (List.replicate m 0) := by
  have hc : madeCells #[Value.int .u8 0] m = ((List.replicate m (0 : UInt8)).map byteV).toArray := by
    apply Array.ext_getElem?
    intro i
    by_cases h : i < m
    · simp [madeCells, byteV, h, Nat.mod_one]
    · simp [madeCells, h]
  rw [hc]
  have hh := heap_alloc_new w (.cells ((List.replicate m (0 : UInt8)).map byteV).toArray e (0, 0))
  refine .inr ⟨w.heap.size, m, by simp, hb, by simp, by simp, fun j c hj => ?_, fun j hj => ?_⟩
  · rw [cell_of_row _ _ _ _ _ _ hh, List.getElem?_toArray, List.getElem?_map, hj]; rfl
  · exact ⟨by rw [cell_of_row _ _ _ _ _ _ hh, List.getElem?_toArray, List.getElem?_map, List.getElem?_replicate, if_pos hj]; rfl, frozen_of_row _ _ _ _ _ hh⟩
theorem Has.set {base g n cap m : Nat} {w : World} {l : List UInt8} {d : UInt8} (h : Has base w (.slice (some ⟨g, 0, none⟩) n cap) l) (hm : m < l.length) : Has base (w.setCell ⟨g, m, none⟩ (.int .u8 d.toNat)) (.slice (some ⟨g, 0, none⟩) n cap) (l.set m d) := by
  rcases h with ⟨h, _⟩ | ⟨g', cap', h1, h2, h3, h4, h5, h6⟩
  · cases h
  · simp only [Value.slice.injEq, Option.some.injEq, Addr.mk.injEq] at h1
    obtain ⟨⟨rfl, -, -⟩, hn, rfl⟩ := h1
    refine .inr ⟨g, cap, by simp [hn], h2, by simpa [World.setCell] using h3, by rw [List.length_set]; exact h4, fun j c hj => ?_, fun j hj => ?_⟩
    · by_cases e : j = m
      · subst e
        rw [List.getElem?_set_self hm] at hj
        cases hj
        obtain ⟨u, hu⟩ := Option.isSome_iff_exists.1 (h6 j (by omega)).1
        exact World.cell?_setCell_same w _ _ hu
      · rw [List.getElem?_set_ne (fun e2 => e e2.symm)] at hj
        rw [World.cell?_setCell_other w _ _ _ (by intro e2; simp only [Addr.mk.injEq, true_and, and_true] at e2; exact e e2.symm)]
        exact h5 j c hj
    · refine ⟨?_, by rw [World.frozen?_setCell]; exact (h6 j hj).2⟩
      obtain ⟨u, hu⟩ := Option.isSome_iff_exists.1 (h6 j hj).1
      obtain ⟨u', hu'⟩ := cell?_setCell_some (p := ⟨g, m, none⟩) (x := .int .u8 d.toNat) hu
      rw [hu']; rfl
theorem Has.cell {base g n cap m : Nat} {w : World} {l : List UInt8} {d : UInt8} (h : Has base w (.slice (some ⟨g, 0, none⟩) n cap) l) (hm : l[m]? = some d) : w.cell? ⟨g, m, none⟩ = some (.int .u8 d.toNat) ∧ w.frozen? ⟨g, m, none⟩ = false ∧ base ≤ g := by
  have hl := (List.getElem?_eq_some_iff.1 hm).1
  rcases h with ⟨h, _⟩ | ⟨g', cap', h1, h2, h3, h4, h5, h6⟩
  · cases h
  · simp only [Value.slice.injEq, Option.some.injEq, Addr.mk.injEq] at h1
    obtain ⟨⟨rfl, -, -⟩, hn, rfl⟩ := h1
    exact ⟨h5 m d hm, (h6 m (by omega)).2, h2⟩
end Go.ByteRow
namespace Go.Wire
theorem digits_at (d : Nat) (h : d < 16) : (⟨#[48, 49, 50, 51, 52, 53, 54, 55, 56, 57, 97, 98, 99, 100, 101, 102]⟩ : ByteArray)[d]'h = hexd d := by
  have key : ∀ d, (h : d < 16) → (⟨#[48, 49, 50, 51, 52, 53, 54, 55, 56, 57, 97, 98, 99, 100, 101, 102]⟩ : ByteArray)[d]'h = hexd d := by decide
  exact key d h
theorem num_round {m n i N : Nat} {l : List UInt8} (hil : i < l.length) (hp : num (i + 1) N ++ l.drop (i + 1) = num m n) : num i (N / 16) ++ (l.set i (hexd (N % 16))).drop i = num m n := by
  have h1 : (l.set i (hexd (N % 16))).drop i = hexd (N % 16) :: l.drop (i + 1) := by
    rw [List.drop_eq_getElem_cons (by rw [List.length_set]; exact hil), List.getElem_set_self, List.drop_set_of_lt (Nat.lt_succ_self i)]
  rw [h1, ← hp, num, List.append_assoc]
  rfl
end Go.Wire
namespace Go.Proofs.YtkbboddibgfjbaaGreatDoor
open Go.RowKit Go.Wire
theorem info5 : (Tryz.prog.info? 5).map (fun i => (i.zero, i.size, i.bytes)) = some (some (.int .u8 0), 1, 1) := by kernel_rfl
theorem underB : Tryz.prog.underlying 44 = some (.slice 5) := by kernel_rfl
theorem under5 : Tryz.prog.underlying 5 = some (.int .u8) := by kernel_rfl
theorem under9 : Tryz.prog.underlying 9 = some .string := by kernel_rfl
theorem make_bytes (m : Nat) (L : Int) (hL : L = m) (hm : m ≤ 1000) (w : World) :
    (Instr.makeSlice 44 (.int .i64 L) (.int .i64 L)).run Tryz.prog w = .ok (.slice (some ⟨w.heap.size, 0, none⟩) m m) (w.alloc (.cells (madeCells #[Value.int .u8 0] m) 5)) := by
  obtain ⟨i0, hi, hz0, hz1, hz2⟩ := info_parts info5
  subst hL
  have := run_make (P := Tryz.prog) w 44 5 i0 (.int .u8 0) underB hi hz0 .i64 .i64 m m (by omega) (by omega) (by rw [hz2]; omega) (by omega)
  rw [hz1, Int.toNat_natCast, Nat.mul_one] at this
  exact this
set_option maxHeartbeats 1000000 in
theorem number_mid (n k : Nat) (w : World) (hn : n < 18446744073709551616) (hk : k ≤ 8) :
    Calls Tryz.prog 144 #[.int .u64 n, .int .i64 k] w fun e w' => e = .returned (.string (numB (2 * k) n)) ∧ Below w.heap.size w w' := by
  have hmk := make_bytes (2 * k) (2 * (k : Int)) (by omega) (by omega) w
  have hk8 : (k : Int) ≤ 8 := by omega
  go_enter Tryz.func144, Tryz.ntmps144
  go_wp2_with fail
  have H0 := ByteRow.Has.made (Nat.le_refl w.heap.size) (2 * k) 5
  have HB := (Below.refl w.heap.size w).alloc (Nat.le_refl _) (.cells (madeCells #[Value.int .u8 0] (2 * k)) 5)
  clear hmk
  generalize hgg : w.heap.size = g at H0 HB
  generalize w.alloc (.cells (madeCells #[Value.int .u8 0] (2 * k)) 5) = W at H0 HB
  go_loopw [0, 6] (fun nv iv wr => ∃ (j N : Nat) (l : List UInt8), j ≤ (2 * k) ∧ N < 18446744073709551616 ∧ iv = .int .i64 ((j : Int) - 1) ∧ nv = .int .u64 N ∧ Hid (num j N ++ l.drop j = num (2 * k) n) ∧ Hid (l.length = (2 * k) ∧ ByteRow.Has g wr (.slice (some ⟨g, 0, none⟩) (2 * k) (2 * k)) l ∧ Below g w wr)) (fun _ i _ => (intOf i + 1).toNat)
  case atStart => exact ⟨(2 * k), n, _, Nat.le_refl _, hn, by go_num, rfl, (by simp : num (2 * k) n ++ (List.replicate (2 * k) (0 : UInt8)).drop (2 * k) = num (2 * k) n), List.length_replicate, H0, HB⟩
  case round =>
    clear H0 HB
    obtain ⟨j, N, l, hj, hN, rfl, rfl, hp, HH⟩ := hrel
    by_cases hlt : 0 < j
    · obtain ⟨i, rfl⟩ : ∃ i, j = i + 1 := ⟨j - 1, by omega⟩
      have e1 : ((i + 1 : Nat) : Int) - 1 = (i : Int) := by omega
      rw [e1]
      have hil : i < l.length := by rw [HH.out.1]; omega
      obtain ⟨d, hd⟩ : ∃ d, l[i]? = some d := ⟨l[i], List.getElem?_eq_getElem hil⟩
      obtain ⟨hc1, hc2, _⟩ := HH.out.2.1.cell hd
      clear hd
      go_wp2_with fail
      rw [digits_at (N % 16) (Nat.mod_lt _ (by decide))]
      refine ⟨⟨i, N / 16, l.set i (hexd (N % 16)), by omega, by omega, rfl, by go_num, num_round hil hp.out, by rw [List.length_set]; exact HH.out.1, HH.out.2.1.set hil, HH.out.2.2.setCell (p := ⟨g, i, none⟩) (Nat.le_refl _) _⟩, by simp [intOf]⟩
    · have hj0 : j = 0 := by omega
      subst hj0
      have hl : l = num (2 * k) n := hp.out
      subst hl
      rcases Nat.eq_zero_or_pos k with rfl | hk0
      · have hcv : (convert 44 9 (.slice (some ⟨g, 0, none⟩) 0 0)).run Tryz.prog wr = .ok (.string ⟨#[]⟩) wr := run_convert_bytes_back wr _ _ 5 ⟨g, 0, none⟩ 0 [] underB under5 under9 (fun j hj => by cases hj)
        go_wp2_with fail
        go_ret
        rw [hgg]
        exact ⟨rfl, HH.out.2.2⟩
      · have HL : Hid (num (2 * k) n ≠ []) := by
          have := num_length (2 * k) n
          intro x; rw [x] at this; simp at this; omega
        have HF : Hid (ByteRow.Has g wr (.slice (some ⟨g, 0, none⟩) (2 * k) (2 * k)) (num (2 * k) n)) := HH.out.2.1
        go_wp2_with (refine ByteRow.to_string _ rfl 44 9 5 _ rfl (num (2 * k) n) rfl HF.out HL.out underB under5 under9 ?_)
        go_ret
        rw [hgg]
        exact ⟨rfl, HH.out.2.2⟩
set_option maxHeartbeats 1000000 in
theorem number_big (n : Nat) (b : Int) (w : World) (hn : n < 18446744073709551616) (hb : 8 < b) :
    Calls Tryz.prog 144 #[.int .u64 n, .int .i64 b] w fun e w' => e = .returned (.string (numB 16 n)) ∧ Below w.heap.size w w' := by
  have hmk := make_bytes 16 16 (by omega) (by omega) w
  have hb0 : 0 ≤ b := by omega
  go_enter Tryz.func144, Tryz.ntmps144
  go_wp2_with fail
  have H0 := ByteRow.Has.made (Nat.le_refl w.heap.size) 16 5
  have HB := (Below.refl w.heap.size w).alloc (Nat.le_refl _) (.cells (madeCells #[Value.int .u8 0] 16) 5)
  clear hmk
  generalize hgg : w.heap.size = g at H0 HB
  generalize w.alloc (.cells (madeCells #[Value.int .u8 0] 16) 5) = W at H0 HB
  go_loopw [0, 6] (fun nv iv wr => ∃ (j N : Nat) (l : List UInt8), j ≤ 16 ∧ N < 18446744073709551616 ∧ iv = .int .i64 ((j : Int) - 1) ∧ nv = .int .u64 N ∧ Hid (num j N ++ l.drop j = num 16 n) ∧ Hid (l.length = 16 ∧ ByteRow.Has g wr (.slice (some ⟨g, 0, none⟩) 16 16) l ∧ Below g w wr)) (fun _ i _ => (intOf i + 1).toNat)
  case atStart => exact ⟨16, n, _, Nat.le_refl _, hn, by go_num, rfl, (by simp : num 16 n ++ (List.replicate 16 (0 : UInt8)).drop 16 = num 16 n), List.length_replicate, H0, HB⟩
  case round =>
    clear H0 HB
    obtain ⟨j, N, l, hj, hN, rfl, rfl, hp, HH⟩ := hrel
    by_cases hlt : 0 < j
    · obtain ⟨i, rfl⟩ : ∃ i, j = i + 1 := ⟨j - 1, by omega⟩
      have e1 : ((i + 1 : Nat) : Int) - 1 = (i : Int) := by omega
      rw [e1]
      have hil : i < l.length := by rw [HH.out.1]; omega
      obtain ⟨d, hd⟩ : ∃ d, l[i]? = some d := ⟨l[i], List.getElem?_eq_getElem hil⟩
      obtain ⟨hc1, hc2, _⟩ := HH.out.2.1.cell hd
      clear hd
      go_wp2_with fail
      rw [digits_at (N % 16) (Nat.mod_lt _ (by decide))]
      refine ⟨⟨i, N / 16, l.set i (hexd (N % 16)), by omega, by omega, rfl, by go_num, num_round hil hp.out, by rw [List.length_set]; exact HH.out.1, HH.out.2.1.set hil, HH.out.2.2.setCell (p := ⟨g, i, none⟩) (Nat.le_refl _) _⟩, by simp [intOf]⟩
    · have hj0 : j = 0 := by omega
      subst hj0
      have hl : l = num 16 n := hp.out
      subst hl
      have HL : Hid (num 16 n ≠ []) := by
        have := num_length 16 n
        intro x; rw [x] at this; simp at this
      have HF : Hid (ByteRow.Has g wr (.slice (some ⟨g, 0, none⟩) 16 16) (num 16 n)) := HH.out.2.1
      go_wp2_with (refine ByteRow.to_string _ rfl 44 9 5 _ rfl (num 16 n) rfl HF.out HL.out underB under5 under9 ?_)
      go_ret
      rw [hgg]
      exact ⟨rfl, HH.out.2.2⟩
set_option maxHeartbeats 1000000 in
theorem number_neg (n : Nat) (b : Int) (w : World) (hb : b < 0) :
    Calls Tryz.prog 144 #[.int .u64 n, .int .i64 b] w fun e w' => e = .returned (.string ⟨#[]⟩) ∧ Below w.heap.size w w' := by
  have hmk := make_bytes 0 0 (by omega) (by omega) w
  go_enter Tryz.func144, Tryz.ntmps144
  go_wp2_with fail
  have HB := (Below.refl w.heap.size w).alloc (Nat.le_refl _) (.cells (madeCells #[Value.int .u8 0] 0) 5)
  clear hmk
  have hcv : (convert 44 9 (.slice (some ⟨w.heap.size, 0, none⟩) 0 0)).run Tryz.prog (w.alloc (.cells (madeCells #[Value.int .u8 0] 0) 5)) = .ok (.string ⟨#[]⟩) (w.alloc (.cells (madeCells #[Value.int .u8 0] 0) 5)) := run_convert_bytes_back _ _ _ 5 ⟨w.heap.size, 0, none⟩ 0 [] underB under5 under9 (fun j hj => by cases hj)
  generalize hgg : w.heap.size = g at HB hcv
  generalize w.alloc (.cells (madeCells #[Value.int .u8 0] 0) 5) = W at HB hcv
  go_loop [6] (fun i => i = .int .i64 (-1)) (fun _ => 0)
  case atStart => rfl
  case round =>
    subst hrel
    go_wp2_with fail
    go_ret
    exact ⟨rfl, HB⟩
theorem number_any (n : Nat) (b : Int) (w : World) (hn : n < 18446744073709551616) :
    Calls Tryz.prog 144 #[.int .u64 n, .int .i64 b] w fun e w' => e = .returned (.string (numB (2 * (min (max b 0) 8).toNat) n)) ∧ Below w.heap.size w w' := by
  by_cases h0 : b < 0
  · rw [show (min (max b 0) 8).toNat = 0 by omega]
    exact number_neg n b w h0
  · by_cases h8 : 8 < b
    · rw [show (min (max b 0) 8).toNat = 8 by omega]
      exact number_big n b w hn h8
    · obtain ⟨k, rfl⟩ : ∃ k : Nat, b = k := ⟨b.toNat, by omega⟩
      rw [show (min (max (k : Int) 0) 8).toNat = k by omega]
      exact number_mid n k w hn (by omega)
end Go.Proofs.YtkbboddibgfjbaaGreatDoor
/- Contracts of the document's reader: a value, and the reader behind each call. -/
namespace Go.Wire
open Go.RowKit
/-- A reader as a value. -/
def St.v (q : St) : Value := .agg #[.string q.s, .int .i64 q.pos, .int .i64 q.err]
theorem results_cell2_row {P : Program} {fn : Func} {p u : Tmp} {ty : TypeId} (h : fn.results = #[.cell p ty, .tmp u]) (tmps : Array Value) (w : World) (g : Nat) (t : TypeId) (cs : Array Value) (fr : Nat × Nat) (d : TypeDesc)
    (hp : tmps.getD p undef = .pointer (some ⟨g, 0, none⟩)) (hg : w.heap[g]? = some (.cells cs t fr))
    (hu : P.underlying ty = some d) (hd : (match d with | .struct _ | .array _ _ => true | _ => false) = true) (hi : (P.info? ty).map (·.size) = some cs.size) :
    (results fn tmps).run P w = .ok (.tuple #[.agg cs, tmps.getD u undef]) w := by
  rw [results_cell_tmp h, hp]
  simp [asAddr, Result.andThen, run_loadVar_row w g t ty cs fr d hg hu hd hi]
theorem cells3 {w : World} {g : Nat} {a b c : Value} {T : TypeId} (h : w.heap[g]? = some (.cells #[a, b, c] T (0, 0))) :
    w.cell? ⟨g, 0, none⟩ = some a ∧ w.cell? ⟨g, 1, none⟩ = some b ∧ w.cell? ⟨g, 2, none⟩ = some c ∧ w.frozen? ⟨g, 0, none⟩ = false ∧ w.frozen? ⟨g, 1, none⟩ = false ∧ w.frozen? ⟨g, 2, none⟩ = false :=
  ⟨cell_of_row _ _ _ _ _ _ h, cell_of_row _ _ _ _ _ _ h, cell_of_row _ _ _ _ _ _ h, frozen_of_row _ _ _ _ _ h, frozen_of_row _ _ _ _ _ h, frozen_of_row _ _ _ _ _ h⟩
theorem set3 {w : World} {g : Nat} {a b c : Value} {T : TypeId} (h : w.heap[g]? = some (.cells #[a, b, c] T (0, 0))) (x y z : Value) :
    (((w.setCell ⟨g, 0, none⟩ x).setCell ⟨g, 1, none⟩ y).setCell ⟨g, 2, none⟩ z).heap[g]? = some (.cells #[x, y, z] T (0, 0)) := by
  have h1 : (w.setCell ⟨g, 0, none⟩ x).heap[g]? = some (.cells #[x, b, c] T (0, 0)) := by rw [heap_setCell_same _ _ _ _ _ _ h]; rfl
  have h2 : ((w.setCell ⟨g, 0, none⟩ x).setCell ⟨g, 1, none⟩ y).heap[g]? = some (.cells #[x, y, c] T (0, 0)) := by rw [heap_setCell_same _ _ _ _ _ _ h1]; rfl
  rw [heap_setCell_same _ _ _ _ _ _ h2]; rfl
theorem below3 {B g : Nat} {w w1 : World} (h : Below B w w1) (hg : B ≤ g) (x y z : Value) : Below B w (((w1.setCell ⟨g, 0, none⟩ x).setCell ⟨g, 1, none⟩ y).setCell ⟨g, 2, none⟩ z) :=
  ((h.setCell (p := ⟨g, 0, none⟩) hg x).setCell (p := ⟨g, 1, none⟩) hg y).setCell (p := ⟨g, 2, none⟩) hg z
theorem kept_block {w w1 : World} {g : Nat} {o : Obj} (h : w.heap[g]? = some o) (k : Below w.heap.size w w1) : w1.heap[g]? = some o :=
  (k.block g (by
    rcases Nat.lt_or_ge g w.heap.size with x | x
    · exact x
    · rw [Array.getElem?_eq_none x] at h; cases h)).trans h
theorem kept_alloc {w : World} {g : Nat} {o : Obj} (h : w.heap[g]? = some o) (C : Obj) : (w.alloc C).heap[g]? = some o :=
  kept_block h ((Below.refl _ _).alloc (Nat.le_refl _) C)
/-- What two new blocks are behind a call. -/
theorem two_below {w w1 : World} {A B : Obj} (k : Below ((w.alloc A).alloc B).heap.size ((w.alloc A).alloc B) w1) : w1.heap[w.heap.size]? = some A ∧ w1.heap[w.heap.size + 1]? = some B ∧ Below w.heap.size w w1 := by
  have hz : ((w.alloc A).alloc B).heap.size = w.heap.size + 2 := by simp
  refine ⟨(k.block _ (by omega)).trans (heap_alloc2_old _ _ _), (k.block _ (by omega)).trans (heap_alloc2_new _ _ _), ?_⟩
  exact (((Below.refl w.heap.size w).alloc (Nat.le_refl _) A).alloc (by simp) B).trans (k.mono (by omega))
end Go.Wire
namespace Go.Proofs.YtkbboddibgfjbaaGreatDoor
open Go.RowKit Go.Wire
theorem infoRef : (Tryz.prog.info? 119).map (·.size) = some 3 := by kernel_rfl
set_option maxHeartbeats 400000 in
theorem with_any (s : ByteArray) (p : Nat) (err x : Int) (w : World) :
    Calls Tryz.prog 93 #[.agg #[.string s, .int .i64 p, .int .i64 err], .int .i64 x] w fun e w' => e = .returned (.agg #[.string s, .int .i64 p, .int .i64 x]) ∧ Below w.heap.size w w' := by
  go_enter Tryz.func93, Tryz.ntmps93
  go_wp2
  exact bodyPost_ret (results_cell_row Tryz.results93 _ _ _ _ _ (0, 0) _ rfl (heap_alloc2_new _ _ _) Tryz.underlying119 rfl infoRef) rfl ⟨rfl, ((Below.refl _ _).alloc (Nat.le_refl _) _).alloc (by simp) _⟩
set_option maxHeartbeats 1000000 in
theorem rbytes_any (q : St) (n : Int) (w : World) (hq : q.pos ≤ q.s.size) (hs : q.s.size ≤ maxLen) :
    Calls Tryz.prog 61 #[q.v, .int .i64 n] w fun e w' => e = .returned (.tuple #[(q.bytes n).1.v, .string (q.bytes n).2]) ∧ Below w.heap.size w w' := by
  have hs2 : q.s.size ≤ 9223372036854775807 := hs
  by_cases he : q.err = 0
  · obtain ⟨s, p, err⟩ := q
    simp only at he hq hs hs2
    subst he
    by_cases hn : n < 0
    · rw [St.bytes_neg _ n hn, St.fail, if_pos rfl]
      unfold St.v
      go_enter Tryz.func61, Tryz.ntmps61
      go_wp2_with (go_at_call 93; refine (with_any _ _ _ _ _).mono ?_; rintro e w1 ⟨rfl, k1⟩; obtain ⟨ha, hb, k0⟩ := two_below k1; obtain ⟨c0, c1, c2, f0, f1, f2⟩ := cells3 hb)
      exact bodyPost_ret (results_cell2_row Tryz.results61 _ _ _ _ _ (0, 0) _ rfl (set3 (by assumption) _ _ _) Tryz.underlying119 rfl infoRef) rfl ⟨rfl, below3 (by assumption) (Nat.le_succ _) _ _ _⟩
    · by_cases hl : (s.size : Int) - p < n
      · rw [St.bytes_cut _ n hn hl, St.fail, if_pos rfl]
        unfold St.v
        go_enter Tryz.func61, Tryz.ntmps61
        go_wp2_with (go_at_call 93; refine (with_any _ _ _ _ _).mono ?_; rintro e w1 ⟨rfl, k1⟩; obtain ⟨ha, hb, k0⟩ := two_below k1; obtain ⟨c0, c1, c2, f0, f1, f2⟩ := cells3 hb)
        exact bodyPost_ret (results_cell2_row Tryz.results61 _ _ _ _ _ (0, 0) _ rfl (set3 (by assumption) _ _ _) Tryz.underlying119 rfl infoRef) rfl ⟨rfl, below3 (by assumption) (Nat.le_succ _) _ _ _⟩
      · obtain ⟨m, rfl⟩ : ∃ m : Nat, n = m := ⟨n.toNat, by omega⟩
        rw [St.bytes_ok _ _ rfl hn hl]
        have hm : p + m ≤ s.size := by omega
        unfold St.v
        go_enter Tryz.func61, Tryz.ntmps61
        go_wp2
        go_region
        go_wp2
        exact bodyPost_ret (results_cell2_row Tryz.results61 _ _ _ _ _ (0, 0) _ rfl (heap_alloc2_new _ _ _) Tryz.underlying119 rfl infoRef) rfl ⟨rfl, (((Below.refl _ _).alloc (Nat.le_refl _) _).alloc (by simp) _).drew⟩
  · rw [St.bytes_err q n he]
    unfold St.v
    go_enter Tryz.func61, Tryz.ntmps61
    go_wp2
    exact bodyPost_ret (results_cell2_row Tryz.results61 _ _ _ _ _ (0, 0) _ rfl (heap_alloc2_new _ _ _) Tryz.underlying119 rfl infoRef) rfl ⟨rfl, ((Below.refl _ _).alloc (Nat.le_refl _) _).alloc (by simp) _⟩
end Go.Proofs.YtkbboddibgfjbaaGreatDoor
/- Contracts of a digit's letter and a number's digits, as the document has them. -/
namespace Go.Proofs.YtkbboddibgfjbaaGreatDoor
open Go.RowKit Go.Wire
set_option maxHeartbeats 400000 in
theorem rdigit_any (d : Nat) (w : World) (hd : d < 16) :
    Calls Tryz.prog 69 #[.int .u64 d] w fun e w' => e = .returned (.string ⟨#[hexd d]⟩) ∧ Below w.heap.size w w' := by
  by_cases h : d < 10
  · have hu : Value.int .u8 (48 + (d : Int)) = Sha.byteV (hexd d) := by
      have hc : hexd d = UInt8.ofNat (48 + d) := by unfold hexd; rw [if_pos h]
      have : (UInt8.ofNat (48 + d)).toNat = 48 + d := by simp; omega
      unfold Sha.byteV; rw [hc, this]; go_num
    have HU : Hid (Value.int .u8 (48 + (d : Int)) = Sha.byteV (hexd d)) := hu
    clear hu
    generalize hexd d = c at HU
    go_enter Tryz.func69, Tryz.ntmps69
    go_wp2_with (refine ByteRow.to_string _ rfl 44 9 5 _ rfl [c] rfl (ByteRow.Has.one (Nat.le_refl _) _ _ HU.out 5) (by simp) underB under5 under9 ?_)
    go_ret
    exact ⟨rfl, (Below.refl _ _).alloc (Nat.le_refl _) _⟩
  · have hu : Value.int .u8 (87 + (d : Int)) = Sha.byteV (hexd d) := by
      have hc : hexd d = UInt8.ofNat (87 + d) := by unfold hexd; rw [if_neg h]
      have : (UInt8.ofNat (87 + d)).toNat = 87 + d := by simp; omega
      unfold Sha.byteV; rw [hc, this]; go_num
    have HU : Hid (Value.int .u8 (87 + (d : Int)) = Sha.byteV (hexd d)) := hu
    clear hu
    generalize hexd d = c at HU
    go_enter Tryz.func69, Tryz.ntmps69
    go_wp2_with (refine ByteRow.to_string _ rfl 44 9 5 _ rfl [c] rfl (ByteRow.Has.one (Nat.le_refl _) _ _ HU.out 5) (by simp) underB under5 under9 ?_)
    go_ret
    exact ⟨rfl, (Below.refl _ _).alloc (Nat.le_refl _) _⟩
theorem size_one (c : UInt8) (t : ByteArray) : ((⟨#[c]⟩ : ByteArray) ++ t).size = t.size + 1 := by
  rw [ByteArray.size_append, Nat.add_comm]; rfl
theorem num_rround {m n j N : Nat} {t : ByteArray} (hj : j < m) (hp : num (m - j) N ++ t.data.toList = num m n) : num (m - (j + 1)) (N / 16) ++ ((⟨#[hexd (N % 16)]⟩ : ByteArray) ++ t).data.toList = num m n := by
  obtain ⟨i, hi⟩ : ∃ i, m - j = i + 1 := ⟨m - j - 1, by omega⟩
  rw [← hp, hi, show m - (j + 1) = i by omega, num, List.append_assoc]
  simp
set_option maxHeartbeats 1000000 in
theorem rnum_any (n b : Nat) (w : World) (hn : n < 18446744073709551616) (hb : b ≤ 1000) :
    Calls Tryz.prog 42 #[.int .u64 n, .int .i64 b] w fun e w' => e = .returned (.string (numB (2 * min b 8) n)) ∧ Below w.heap.size w w' := by
  by_cases h8 : 8 < b
  · rw [show min b 8 = 8 by omega]
    have hb8 : (8 : Int) < b := by omega
    clear h8
    go_enter Tryz.func42, Tryz.ntmps42
    go_wp2_with fail
    go_loopw [0, 5, 7] (fun nv sv iv wr => ∃ (j N : Nat) (t : ByteArray), j ≤ 16 ∧ N < 18446744073709551616 ∧ iv = .int .i64 j ∧ nv = .int .u64 N ∧ sv = .string t ∧ t.size = j ∧ Hid (num (16 - j) N ++ t.data.toList = num 16 n) ∧ Hid (Below w.heap.size w wr)) (fun _ _ i _ => 16 - (intOf i).toNat)
    case atStart => exact ⟨0, n, ⟨#[]⟩, Nat.zero_le _, hn, rfl, rfl, rfl, rfl, (by simp : num 16 n ++ [] = num 16 n), Below.refl _ _⟩
    case round =>
      obtain ⟨j, N, t, hj, hN, rfl, rfl, rfl, ht, hp, HB⟩ := hrel
      by_cases hlt : j < 16
      · have hd : N % 16 < 16 := Nat.mod_lt _ (by decide)
        go_wp2_with (go_at_call 69; refine (rdigit_any (N % 16) _ hd).mono ?_; rintro e w1 ⟨rfl, k1⟩)
        go_roundw
        case rel => exact ⟨j + 1, N / 16, _, by omega, by omega, by go_num, by go_num, rfl, by rw [size_one, ht], num_rround hlt hp.out, HB.out.trans (Below.mono (by assumption) HB.out.size)⟩
        case measure => simp [intOf]; omega
      · have hj0 : j = 16 := by omega
        subst hj0
        have hl : t = numB 16 n := by
          have := hp.out
          rw [Nat.sub_self] at this
          exact ByteArray.ext (Array.toList_inj.1 (this.trans (numB_list 16 n).symm))
        go_wp2_with fail
        go_ret
        rw [← hl]
        exact ⟨rfl, HB.out⟩
  · rw [show min b 8 = b by omega]
    have hb8 : (b : Int) ≤ 8 := by omega
    go_enter Tryz.func42, Tryz.ntmps42
    go_wp2_with fail
    go_loopw [0, 5, 7] (fun nv sv iv wr => ∃ (j N : Nat) (t : ByteArray), j ≤ 2 * b ∧ N < 18446744073709551616 ∧ iv = .int .i64 j ∧ nv = .int .u64 N ∧ sv = .string t ∧ t.size = j ∧ Hid (num (2 * b - j) N ++ t.data.toList = num (2 * b) n) ∧ Hid (Below w.heap.size w wr)) (fun _ _ i _ => 2 * b - (intOf i).toNat)
    case atStart => exact ⟨0, n, ⟨#[]⟩, Nat.zero_le _, hn, rfl, rfl, rfl, rfl, (by simp : num (2 * b) n ++ [] = num (2 * b) n), Below.refl _ _⟩
    case round =>
      obtain ⟨j, N, t, hj, hN, rfl, rfl, rfl, ht, hp, HB⟩ := hrel
      by_cases hlt : j < 2 * b
      · have hd : N % 16 < 16 := Nat.mod_lt _ (by decide)
        go_wp2_with (go_at_call 69; refine (rdigit_any (N % 16) _ hd).mono ?_; rintro e w1 ⟨rfl, k1⟩)
        go_roundw
        case rel => exact ⟨j + 1, N / 16, _, by omega, by omega, by go_num, by go_num, rfl, by rw [size_one, ht], num_rround hlt hp.out, HB.out.trans (Below.mono (by assumption) HB.out.size)⟩
        case measure => simp [intOf]; omega
      · have hj0 : j = 2 * b := by omega
        subst hj0
        have hl : t = numB (2 * b) n := by
          have := hp.out
          rw [Nat.sub_self] at this
          exact ByteArray.ext (Array.toList_inj.1 (this.trans (numB_list (2 * b) n).symm))
        go_wp2_with fail
        go_ret
        rw [← hl]
        exact ⟨rfl, HB.out⟩
end Go.Proofs.YtkbboddibgfjbaaGreatDoor
/- The contract of the document's reader's numbers. -/
namespace Go.Proofs.YtkbboddibgfjbaaGreatDoor
open Go.RowKit Go.Wire
set_option maxHeartbeats 1000000 in
theorem rnumber_any (q : St) (k : Int) (w : World) (hq : q.pos ≤ q.s.size) (hs : q.s.size ≤ maxLen) :
    Calls Tryz.prog 60 #[q.v, .int .i64 k] w fun e w' => e = .returned (.tuple #[(q.number k).1.v, .int .u64 ((q.number k).2 : Nat)]) ∧ Below w.heap.size w w' := by
  have hs2 : q.s.size ≤ 9223372036854775807 := hs
  by_cases he : q.err = 0
  · by_cases hk : k < 0 ∨ 8 < k
    · rw [St.number_out q k hk, St.fail, if_pos he]
      obtain ⟨s, p, err⟩ := q
      simp only at he hq hs hs2
      subst he
      unfold St.v
      by_cases h0 : k < 0
      · clear hk
        go_enter Tryz.func60, Tryz.ntmps60
        go_wp2_with (go_at_call 93; refine (with_any _ _ _ _ _).mono ?_; rintro e w1 ⟨rfl, k1⟩; obtain ⟨ha, hb, k0⟩ := two_below k1; obtain ⟨c0, c1, c2, f0, f1, f2⟩ := cells3 hb)
        exact bodyPost_ret (results_cell2_row Tryz.results60 _ _ _ _ _ (0, 0) _ rfl (set3 (by assumption) _ _ _) Tryz.underlying119 rfl infoRef) rfl ⟨rfl, below3 (by assumption) (Nat.le_succ _) _ _ _⟩
      · have h8 : 8 < k := by omega
        clear hk
        go_enter Tryz.func60, Tryz.ntmps60
        go_wp2_with (go_at_call 93; refine (with_any _ _ _ _ _).mono ?_; rintro e w1 ⟨rfl, k1⟩; obtain ⟨ha, hb, k0⟩ := two_below k1; obtain ⟨c0, c1, c2, f0, f1, f2⟩ := cells3 hb)
        exact bodyPost_ret (results_cell2_row Tryz.results60 _ _ _ _ _ (0, 0) _ rfl (set3 (by assumption) _ _ _) Tryz.underlying119 rfl infoRef) rfl ⟨rfl, below3 (by assumption) (Nat.le_succ _) _ _ _⟩
    · have h0 : ¬ k < 0 := fun x => hk (.inl x)
      have h8 : ¬ 8 < k := fun x => hk (.inr x)
      have HK : Hid (¬ (k < 0 ∨ 8 < k)) := hk
      clear hk
      have hz : (q.bytes (2 * k)).2.size ≤ 16 := Nat.le_trans (q.bytes_size (2 * k)) (by omega)
      have hk2 : k + k = 2 * k := by omega
      have HB : Hid (∀ w : World, Calls Tryz.prog 61 #[q.v, .int .i64 (k + k)] w fun e w' => e = .returned (.tuple #[(q.bytes (2 * k)).1.v, .string (q.bytes (2 * k)).2]) ∧ Below w.heap.size w w') := fun w => by rw [hk2]; exact rbytes_any q (2 * k) w hq hs
      clear hk2
      have HNone : Hid (val (q.bytes (2 * k)).2.data.toList = none → q.number k = (⟨q.s, q.pos, 6⟩, 0)) := fun hv => by
        unfold St.number; rw [if_neg (fun x => HK.out x.2), hv]
      have HSome : Hid (∀ n, val (q.bytes (2 * k)).2.data.toList = some n → q.number k = ((q.bytes (2 * k)).1, n)) := fun n hv => St.number_some q k n HK.out hv
      obtain ⟨s, p, err⟩ := q
      simp only at he hq hs hs2
      subst he
      generalize (St.mk s p 0).number k = r at HNone HSome
      generalize (St.bytes (St.mk s p 0) (2 * k)).2 = t at hz HB HNone HSome
      generalize (St.bytes (St.mk s p 0) (2 * k)).1 = q1 at HB HNone HSome
      obtain ⟨s1, p1, e1⟩ := q1
      unfold St.v at HB ⊢
      go_enter Tryz.func60, Tryz.ntmps60
      go_wp2_with (go_at_call 61; refine (HB.out _).mono ?_; rintro e w1 ⟨rfl, k1⟩; obtain ⟨ha, hb, k0⟩ := two_below k1; obtain ⟨c0, c1, c2, f0, f1, f2⟩ := cells3 hb)
      have HC := heap_alloc_new w1 (.cells #[.string s1, .int .i64 p1, .int .i64 e1] 119 (0, 0))
      have hz1 := k1.size
      have HA := (Below.heap_alloc w1 (.cells #[.string s1, .int .i64 p1, .int .i64 e1] 119 (0, 0)) w.heap.size (by simp at hz1; omega)).trans ha
      have HD := (Below.heap_alloc w1 (.cells #[.string s1, .int .i64 p1, .int .i64 e1] 119 (0, 0)) (w.heap.size + 1) (by simp at hz1; omega)).trans hb
      have HE := k0.alloc k0.size (.cells #[.string s1, .int .i64 p1, .int .i64 e1] 119 (0, 0))
      clear hz1 c0 c1 c2 f0 f1 f2 ha hb k0 k1
      generalize w1.alloc (.cells #[.string s1, .int .i64 p1, .int .i64 e1] 119 (0, 0)) = W at HA HC HD HE
      generalize w1.heap.size = g at HC
      clear w1
      obtain ⟨a0, a1, a2, -, -, -⟩ := cells3 HA
      obtain ⟨b0, b1, b2, b3, b4, b5⟩ := cells3 HC
      obtain ⟨d0, d1, d2, d3, d4, d5⟩ := cells3 HD
      have HW : Hid (W.heap[w.heap.size + 1]? = some (.cells #[.string ⟨#[]⟩, .int .i64 0, .int .i64 0] 119 (0, 0)) ∧ Below w.heap.size w W) := ⟨HD, HE⟩
      clear HA HC HD HE
      go_loop [8, 9] (fun n i => ∃ k m : Nat, k ≤ t.size ∧ i = .int .i64 k ∧ n = .int .u64 m ∧ Hid (val (t.data.toList.take k) = some m)) (fun _ i => t.size - (intOf i).toNat)
      case atStart => exact ⟨0, 0, Nat.zero_le _, rfl, rfl, rfl⟩
      case round =>
        obtain ⟨k, m, hk, rfl, rfl, hv⟩ := hrel
        by_cases hlt : k < t.size
        · have hm := val_take_lt t k m hz hlt hv.out
          cases hd : dig t[k] with
          | none =>
            have HD : Hid (dig t[k] = none) := hd
            clear hd
            go_wp2_with (first
              | (go_at_call 94; refine (rvalue_none _ _ HD.out).mono ?_; rintro e w' ⟨rfl, rfl⟩)
              | (go_at_call 93; refine (with_any _ _ _ _ _).mono ?_; rintro e w1 ⟨rfl, k1⟩; have hb := kept_block HW.out.1 k1; have k0 := HW.out.2.trans (k1.mono HW.out.2.size); obtain ⟨c0, c1, c2, f0, f1, f2⟩ := cells3 hb))
            rw [HNone.out (val_stop t k hlt HD.out)]
            exact bodyPost_ret (results_cell2_row Tryz.results60 _ _ _ _ _ (0, 0) _ rfl (set3 (by assumption) _ _ _) Tryz.underlying119 rfl infoRef) rfl ⟨rfl, below3 (by assumption) (Nat.le_succ _) _ _ _⟩
          | some d =>
            have HD : Hid (dig t[k] = some d) := hd
            have hd16 := dig_lt hd
            clear hd
            go_wp2_with (go_at_call 94; refine (rvalue_some _ d _ HD.out).mono ?_; rintro e w' ⟨rfl, rfl⟩)
            go_round
            case rel => exact ⟨k + 1, m * 16 + d, by omega, by go_num, by go_num, val_step t k m d hlt hv.out HD.out⟩
            case measure => simp [intOf]; omega
        · have hv2 : Hid (val t.data.toList = some m) := by have := hv.out; rw [take_all t k hlt] at this; exact this
          clear hv
          go_wp2
          rw [HSome.out m hv2.out]
          exact bodyPost_ret (results_cell2_row Tryz.results60 _ _ _ _ _ (0, 0) _ rfl (set3 HW.out.1 _ _ _) Tryz.underlying119 rfl infoRef) rfl ⟨rfl, below3 HW.out.2 (Nat.le_succ _) _ _ _⟩
  · rw [St.err_keeps q he]
    have HB : Hid (∀ (n : Int) (w : World), Calls Tryz.prog 61 #[q.v, .int .i64 n] w fun e w' => e = .returned (.tuple #[q.v, .string ⟨#[]⟩]) ∧ Below w.heap.size w w') := fun n w => by
      have := rbytes_any q n w hq hs
      rwa [St.bytes_err q n he] at this
    unfold St.v at HB ⊢
    go_enter Tryz.func60, Tryz.ntmps60
    go_wp2_with (go_at_call 61; refine (HB.out _ _).mono ?_; rintro e w1 ⟨rfl, k1⟩; obtain ⟨ha, hb, k0⟩ := two_below k1; obtain ⟨c0, c1, c2, f0, f1, f2⟩ := cells3 hb)
    have HD := kept_alloc hb (.cells #[.string q.s, .int .i64 q.pos, .int .i64 q.err] 119 (0, 0))
    have HE := k0.alloc k0.size (.cells #[.string q.s, .int .i64 q.pos, .int .i64 q.err] 119 (0, 0))
    obtain ⟨d0, d1, d2, d3, d4, d5⟩ := cells3 HD
    clear c0 c1 c2 f0 f1 f2 ha hb k0 k1
    go_loop [8, 9] (fun n i => n = .int .u64 0 ∧ i = .int .i64 0) (fun _ _ => 0)
    case atStart => exact ⟨rfl, rfl⟩
    case round =>
      obtain ⟨rfl, rfl⟩ := hrel
      go_wp2
      exact bodyPost_ret (results_cell2_row Tryz.results60 _ _ _ _ _ (0, 0) _ rfl (set3 HD _ _ _) Tryz.underlying119 rfl infoRef) rfl ⟨rfl, below3 HE (Nat.le_succ _) _ _ _⟩
end Go.Proofs.YtkbboddibgfjbaaGreatDoor
