/- Contracts of the small functions of tags: a block turned, two texts held against each other, texts cut at 400 bytes. -/
import Derived.Test.YtcfjlnceofdcdaaDoorRows
import Derived.Test.YtcfjlnceofdcdaaDoorMacMath
import Derived.Test.YtcfjlnceofdcdaaDoorShaSpread
import Derived.Test.YtcfjlnceofdcdaaDoorShaNumber
import Derived.Test.YtcfjlnceofdcdaaDoorShaEnding
import Derived.Test.YtcfjlnceofdcdaaDoorBytes
import Derived.WalkKit
import Derived.WalkSpells
import Derived.WalkLawsBesides
import Derived.Deep.QuietTactic
import Derived.Deep.RegionWith
import Derived.BigQuiet
import Derived.Deep.WholeRow
import Derived.Lib.BufferWrite
namespace Go.Sha
def cut400 (s : ByteArray) : ByteArray := if 400 < s.size then s.extract 0 400 else s
theorem cut400_size (s : ByteArray) : (cut400 s).size ≤ 400 := by
  unfold cut400
  split
  · rw [ByteArray.size_extract]; omega
  · omega
/-- A block, as it lies in memory. -/
def cells (l : List UInt8) : Array Value := (l.map byteV).toArray
theorem cells_size (l : List UInt8) : (cells l).size = l.length := by simp [cells]
theorem cells_one (l : List UInt8) : (cells l).all (·.oneCell') = true := by simp [cells, byteV, Value.oneCell']
theorem cells_at {l : List UInt8} {i : Nat} {c : UInt8} (h : l[i]? = some c) : (cells l)[i]? = some (byteV c) := by simp [cells, h]
theorem cells_set (l : List UInt8) (i : Nat) (c : UInt8) : (cells l).setIfInBounds i (byteV c) = cells (l.set i c) := by
  simp [cells, List.map_set]
/-- A block of noughts. -/
def noughts : List UInt8 := List.replicate 128 0
theorem noughts_length : noughts.length = 128 := by simp [noughts]
/-- The first i bytes turned. -/
def turnedTo (t : UInt8) (i : Nat) (l : List UInt8) : List UInt8 := turned t (l.take i) ++ l.drop i
theorem turnedTo_length (t : UInt8) (i : Nat) (l : List UInt8) : (turnedTo t i l).length = l.length := by simp [turnedTo, turned]; omega
theorem turnedTo_at (t : UInt8) (i : Nat) (l : List UInt8) (h : i < l.length) : (turnedTo t i l)[i]? = l[i]? := by
  rw [turnedTo, List.getElem?_append_right (by rw [turned_length, List.length_take]; omega), turned_length, List.length_take_of_le (by omega), List.getElem?_drop]; simp
theorem turnedTo_set (t c : UInt8) (i : Nat) (l : List UInt8) (h : l[i]? = some c) : (turnedTo t i l).set i (c ^^^ t) = turnedTo t (i + 1) l := by
  have hi := (List.getElem?_eq_some_iff.1 h).1
  have hd : l.drop i = c :: l.drop (i + 1) := by rw [List.drop_eq_getElem_cons hi, (List.getElem?_eq_some_iff.1 h).2]
  rw [turnedTo, turnedTo, take_next h, hd, List.set_append_right _ _ (by simp [turned]; omega)]
  have e : i - (turned t (l.take i)).length = 0 := by simp [turned]; omega
  rw [e]
  simp [turned]
theorem turnedTo_all (t : UInt8) (i : Nat) (l : List UInt8) (h : l.length ≤ i) : turnedTo t i l = turned t l := by
  rw [turnedTo, List.take_of_length_le h, List.drop_eq_nil_of_le h, List.append_nil]
end Go.Sha
namespace Go.ByteRow
open Go.RowKit
theorem lt_of_block {w : World} {g : Nat} {o : Obj} (h : w.heap[g]? = some o) : g < w.heap.size := by
  rcases Nat.lt_or_ge g w.heap.size with h1 | h1
  · exact h1
  · rw [Array.getElem?_eq_none h1] at h; cases h
/-- A block of bytes, sliced whole. -/
theorem Has.of_row {base g : Nat} {w : World} {l : List UInt8} {e : TypeId} (hh : w.heap[g]? = some (.cells (Sha.cells l) e (0, 0))) (hb : base ≤ g) : Has base w (.slice (some ⟨g, 0, none⟩) l.length l.length) l := by
  refine .inr ⟨g, l.length, rfl, hb, lt_of_block hh, Nat.le_refl _, fun j c hj => ?_, fun j hj => ?_⟩
  · rw [cell_of_row _ _ _ _ _ _ hh]; exact Sha.cells_at hj
  · exact ⟨by rw [cell_of_row _ _ _ _ _ _ hh, Sha.cells_at (List.getElem?_eq_getElem hj)]; rfl, frozen_of_row _ _ _ _ _ hh⟩
end Go.ByteRow
namespace Go.Proofs.YtcfjlnceofdcdaaDoor
open Go.RowKit
theorem zero43 : (Tryd.prog.info? 43).map (fun i => (i.zero, i.size)) = some (some (.agg (Sha.cells Sha.noughts)), 128) := by kernel_rfl
theorem info43 : (Tryd.prog.info? 43).map (·.size) = some 128 := (zero_of_info zero43).2
theorem under43 : Tryd.prog.underlying 43 = some (.array 128 5) := by kernel_rfl
set_option maxHeartbeats 400000 in
theorem cut400_any (s : ByteArray) (w : World) (hs : s.size ≤ maxLen) :
    Calls Tryd.prog 9 #[.string s] w fun e w' => e = .returned (.string (Sha.cut400 s)) ∧ w' = w := by
  unfold maxLen at hs
  by_cases h : 400 < s.size
  · go_enter Tryd.func9, Tryd.ntmps9
    go_wp2
    go_ret
    exact ⟨by rw [Sha.cut400, if_pos h]; rfl, rfl⟩
  · go_enter Tryd.func9, Tryd.ntmps9
    go_wp2
    go_ret
    exact ⟨by rw [Sha.cut400, if_neg h]; rfl, rfl⟩
set_option maxHeartbeats 400000 in
theorem same_any (a b : ByteArray) (w : World) (hs : a.size ≤ 1000000) :
    Calls Tryd.prog 22 #[.string a, .string b] w fun e w' => e = .returned (.bool (decide (a = b))) ∧ ∃ n, w' = w.drewN n := by
  by_cases h : a.size = b.size
  · have h2 : (b.size : Int) = a.size := by omega
    go_enter Tryd.func22, Tryd.ntmps22
    go_wp2_with fail
    go_loopw [5, 14] (fun v t wr => ∃ (i : Nat) (u : UInt8) (n : Nat), i ≤ a.size ∧ t = .int .i64 i ∧ v = .int .u8 u.toNat ∧ wr = w.drewN n ∧ Hid (u = 0 ↔ a.data.toList.take i = b.data.toList.take i)) (fun _ t _ => a.size - (intOf t).toNat)
    case atStart => exact ⟨0, 0, 0, by omega, rfl, rfl, rfl, by show _ ↔ _; simp⟩
    case round =>
      obtain ⟨i, u, n, hi, rfl, rfl, rfl, HU⟩ := hrel
      by_cases hlt : i < a.size
      · have hlb : i < b.size := by omega
        have hx : a.data.toList[i]? = some a[i] := List.getElem?_eq_getElem (by simpa using hlt)
        have hy : b.data.toList[i]? = some b[i] := List.getElem?_eq_getElem (by simpa using hlb)
        have HX : Hid (u ||| (a[i] ^^^ b[i]) = 0 ↔ a.data.toList.take (i + 1) = b.data.toList.take (i + 1)) := Sha.unlike_next hx hy HU.out
        clear hx hy HU
        go_wp2_with fail
        go_quiet (fail)
        go_wp2
        go_roundw
        case rel => exact ⟨i + 1, u ||| (a[i] ^^^ b[i]), n + nq, by omega, by go_num, by rw [Sha.xor_byte, Sha.or_bytes], rfl, HX⟩
        case measure => simp [intOf]; omega
      · have hu : u = 0 ↔ a = b := by
          rw [← Sha.ba_list, ← List.take_of_length_le (l := a.data.toList) (i := i) (by simpa using hlt), ← List.take_of_length_le (l := b.data.toList) (i := i) (by rw [← h.symm] at *; simpa [h] using hlt)]
          simpa using HU.out
        go_wp2
        go_ret
        refine ⟨?_, n, rfl⟩
        have e : ((u.toNat : Int) == 0) = decide (a = b) := by
          rw [show (decide (a = b)) = decide (u = 0) from decide_eq_decide.2 hu.symm, Bool.eq_iff_iff]
          simp [← UInt8.toNat_inj]
        show Ending.returned (.bool ((u.toNat : Int) == 0)) = _
        rw [e]
  · have hne : ¬ a = b := fun e => h (by rw [e])
    have h2 : ((a.size : Int) != b.size) = true := by simp; omega
    rw [decide_eq_false hne]
    go_enter Tryd.func22, Tryd.ntmps22
    go_wp2
    go_ret
    exact ⟨rfl, 0, rfl⟩
set_option maxRecDepth 100000 in
set_option maxHeartbeats 400000 in
theorem turned_any (l : List UInt8) (t : UInt8) (w : World) (hl : l.length = 128) :
    Calls Tryd.prog 19 #[.agg (Sha.cells l), .int .u8 t.toNat] w fun e w' => e = .returned (.string ⟨(Sha.turned t l).toArray⟩) ∧ Below w.heap.size w w' := by
  go_enter Tryd.func19, Tryd.ntmps19
  go_wp2_with fail
  go_loopw [6] (fun v wr => ∃ (i : Nat), i ≤ 128 ∧ v = .int .i64 i ∧ Hid (wr.heap[w.heap.size]? = some (.cells (Sha.cells (Sha.turnedTo t i l)) 43 (0, 0)) ∧ Below w.heap.size w wr)) (fun v _ => 128 - (intOf v).toNat)
  case atStart => exact ⟨0, by omega, rfl, heap_alloc_new _ _, (Below.refl _ _).alloc (Nat.le_refl _) _⟩
  case round =>
    obtain ⟨i, hi, rfl, HH⟩ := hrel
    by_cases hlt : i < 128
    · obtain ⟨c, hc⟩ : ∃ c, l[i]? = some c := ⟨_, List.getElem?_eq_getElem (by omega)⟩
      have hcell : wr.cell? ⟨w.heap.size, i, none⟩ = some (.int .u8 c.toNat) := by rw [cell_of_row _ _ _ _ _ _ HH.out.1]; exact Sha.cells_at (by rw [Sha.turnedTo_at _ _ _ (by omega)]; exact hc)
      have hfr : wr.frozen? ⟨w.heap.size, i, none⟩ = false := frozen_of_row _ _ _ _ _ HH.out.1
      have HC : Hid (l[i]? = some c) := hc
      clear hc
      have hx := Sha.xor_byte c t
      go_wp2
      go_roundw
      case rel =>
        refine ⟨i + 1, by omega, by go_num, ?_, HH.out.2.setCell (p := ⟨w.heap.size, i, none⟩) (Nat.le_refl _) _⟩
        rw [← Sha.turnedTo_set t c i l HC.out, ← Sha.cells_set]
        exact heap_setCell_same _ _ _ _ _ _ HH.out.1
      case measure => simp [intOf]; omega
    · have hi8 : i = 128 := by omega
      subst hi8
      rw [Sha.turnedTo_all _ _ _ (by omega)] at HH
      have HF : Hid (ByteRow.Has w.heap.size wr (.slice (some ⟨w.heap.size, 0, none⟩) 128 128) (Sha.turned t l)) := by
        have hh := ByteRow.Has.of_row HH.out.1 (Nat.le_refl _)
        rw [Sha.turned_length, hl] at hh
        exact hh
      go_wp2_with (refine ByteRow.to_string _ rfl 40 9 5 _ rfl (Sha.turned t l) rfl HF.out (by rw [ne_eq, ← List.length_eq_zero_iff, Sha.turned_length]; omega) under46 under5 under9 ?_)
      go_ret
      exact ⟨rfl, HH.out.2⟩
end Go.Proofs.YtcfjlnceofdcdaaDoor
