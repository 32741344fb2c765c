/- Several texts in one: MacLeaves, MacFill, MacOfAny, MacRing, MacNewRing. -/
import Derived.Test.YtkbboddibgfjbaaGreatDoorRows
import Derived.Test.YtkbboddibgfjbaaGreatDoorPureSha
import Derived.Test.YtkbboddibgfjbaaGreatDoorShaOne
import Derived.Test.YtkbboddibgfjbaaGreatDoorShaTwo
import Derived.WalkKit
import Derived.WalkSpells
import Derived.WalkLawsBesides
import Derived.Deep.QuietTactic
import Derived.Deep.RegionWith
import Derived.BigQuiet
import Derived.Deep.WholeRow
import Derived.Lib.BufferWrite
import Derived.Test.YtkbboddibgfjbaaGreatDoorShaThree
import Derived.Test.YtkbboddibgfjbaaGreatDoorRowsTwo
import Derived.Deep.RegionLaw
/- Contracts of the small functions of tags: a block turned, two texts held against each other, texts cut at 400 bytes. -/
namespace Go.Sha
def cut400 (s : ByteArray) : ByteArray := if 400 < s.size then s.extract 0 400 else s
theorem cut400_size (s : ByteArray) : (cut400 s).size ≤ 400 := by
  unfold cut400
  split
  · rw [ByteArray.size_extract]; omega
  · omega
/-- A block, as it lies in memory. -/
def cells (l : List UInt8) : Array Value := (l.map byteV).toArray
theorem cells_size (l : List UInt8) : (cells l).size = l.length := by simp [cells]
theorem cells_one (l : List UInt8) : (cells l).all (·.oneCell') = true := by simp [cells, byteV, Value.oneCell']
theorem cells_at {l : List UInt8} {i : Nat} {c : UInt8} (h : l[i]? = some c) : (cells l)[i]? = some (byteV c) := by simp [cells, h]
theorem cells_set (l : List UInt8) (i : Nat) (c : UInt8) : (cells l).setIfInBounds i (byteV c) = cells (l.set i c) := by
  simp [cells, List.map_set]
/-- A block of noughts. -/
def noughts : List UInt8 := List.replicate 128 0
theorem noughts_length : noughts.length = 128 := by simp [noughts]
/-- The first i bytes turned. -/
def turnedTo (t : UInt8) (i : Nat) (l : List UInt8) : List UInt8 := turned t (l.take i) ++ l.drop i
theorem turnedTo_length (t : UInt8) (i : Nat) (l : List UInt8) : (turnedTo t i l).length = l.length := by simp [turnedTo, turned]; omega
theorem turnedTo_at (t : UInt8) (i : Nat) (l : List UInt8) (h : i < l.length) : (turnedTo t i l)[i]? = l[i]? := by
  rw [turnedTo, List.getElem?_append_right (by rw [turned_length, List.length_take]; omega), turned_length, List.length_take_of_le (by omega), List.getElem?_drop]; simp
theorem turnedTo_set (t c : UInt8) (i : Nat) (l : List UInt8) (h : l[i]? = some c) : (turnedTo t i l).set i (c ^^^ t) = turnedTo t (i + 1) l := by
  have hi := (List.getElem?_eq_some_iff.1 h).1
  have hd : l.drop i = c :: l.drop (i + 1) := by rw [List.drop_eq_getElem_cons hi, (List.getElem?_eq_some_iff.1 h).2]
  rw [turnedTo, turnedTo, take_next h, hd, List.set_append_right _ _ (by simp [turned]; omega)]
  have e : i - (turned t (l.take i)).length = 0 := by simp [turned]; omega
  rw [e]
  simp [turned]
theorem turnedTo_all (t : UInt8) (i : Nat) (l : List UInt8) (h : l.length ≤ i) : turnedTo t i l = turned t l := by
  rw [turnedTo, List.take_of_length_le h, List.drop_eq_nil_of_le h, List.append_nil]
end Go.Sha
namespace Go.ByteRow
open Go.RowKit
theorem lt_of_block {w : World} {g : Nat} {o : Obj} (h : w.heap[g]? = some o) : g < w.heap.size := by
  rcases Nat.lt_or_ge g w.heap.size with h1 | h1
  · exact h1
  · rw [Array.getElem?_eq_none h1] at h; cases h
/-- A block of bytes, sliced whole. -/
theorem Has.of_row {base g : Nat} {w : World} {l : List UInt8} {e : TypeId} (hh : w.heap[g]? = some (.cells (Sha.cells l) e (0, 0))) (hb : base ≤ g) : Has base w (.slice (some ⟨g, 0, none⟩) l.length l.length) l := by
  refine .inr ⟨g, l.length, rfl, hb, lt_of_block hh, Nat.le_refl _, fun j c hj => ?_, fun j hj => ?_⟩
  · rw [cell_of_row _ _ _ _ _ _ hh]; exact Sha.cells_at hj
  · exact ⟨by rw [cell_of_row _ _ _ _ _ _ hh, Sha.cells_at (List.getElem?_eq_getElem hj)]; rfl, frozen_of_row _ _ _ _ _ hh⟩
end Go.ByteRow
namespace Go.Proofs.YtkbboddibgfjbaaGreatDoor
open Go.RowKit
theorem zero43 : (Tryz.prog.info? 268).map (fun i => (i.zero, i.size)) = some (some (.agg (Sha.cells Sha.noughts)), 128) := by kernel_rfl
theorem info43 : (Tryz.prog.info? 268).map (·.size) = some 128 := (zero_of_info zero43).2
theorem under43 : Tryz.prog.underlying 268 = some (.array 128 5) := by kernel_rfl
set_option maxHeartbeats 400000 in
theorem same_any (a b : ByteArray) (w : World) (hs : a.size ≤ 1000000) :
    Calls Tryz.prog 172 #[.string a, .string b] w fun e w' => e = .returned (.bool (decide (a = b))) ∧ ∃ n, w' = w.drewN n := by
  by_cases h : a.size = b.size
  · have h2 : (b.size : Int) = a.size := by omega
    go_enter Tryz.func172, Tryz.ntmps172
    go_wp2_with fail
    go_loopw [5, 14] (fun v t wr => ∃ (i : Nat) (u : UInt8) (n : Nat), i ≤ a.size ∧ t = .int .i64 i ∧ v = .int .u8 u.toNat ∧ wr = w.drewN n ∧ Hid (u = 0 ↔ a.data.toList.take i = b.data.toList.take i)) (fun _ t _ => a.size - (intOf t).toNat)
    case atStart => exact ⟨0, 0, 0, by omega, rfl, rfl, rfl, by show _ ↔ _; simp⟩
    case round =>
      obtain ⟨i, u, n, hi, rfl, rfl, rfl, HU⟩ := hrel
      by_cases hlt : i < a.size
      · have hlb : i < b.size := by omega
        have hx : a.data.toList[i]? = some a[i] := List.getElem?_eq_getElem (by simpa using hlt)
        have hy : b.data.toList[i]? = some b[i] := List.getElem?_eq_getElem (by simpa using hlb)
        have HX : Hid (u ||| (a[i] ^^^ b[i]) = 0 ↔ a.data.toList.take (i + 1) = b.data.toList.take (i + 1)) := Sha.unlike_next hx hy HU.out
        clear hx hy HU
        go_wp2_with fail
        go_quiet (fail)
        go_wp2
        go_roundw
        case rel => exact ⟨i + 1, u ||| (a[i] ^^^ b[i]), n + nq, by omega, by go_num, by rw [Sha.xor_byte, Sha.or_bytes], rfl, HX⟩
        case measure => simp [intOf]; omega
      · have hu : u = 0 ↔ a = b := by
          rw [← Sha.ba_list, ← List.take_of_length_le (l := a.data.toList) (i := i) (by simpa using hlt), ← List.take_of_length_le (l := b.data.toList) (i := i) (by rw [← h.symm] at *; simpa [h] using hlt)]
          simpa using HU.out
        go_wp2
        go_ret
        refine ⟨?_, n, rfl⟩
        have e : ((u.toNat : Int) == 0) = decide (a = b) := by
          rw [show (decide (a = b)) = decide (u = 0) from decide_eq_decide.2 hu.symm, Bool.eq_iff_iff]
          simp [← UInt8.toNat_inj]
        show Ending.returned (.bool ((u.toNat : Int) == 0)) = _
        rw [e]
  · have hne : ¬ a = b := fun e => h (by rw [e])
    have h2 : ((a.size : Int) != b.size) = true := by simp; omega
    rw [decide_eq_false hne]
    go_enter Tryz.func172, Tryz.ntmps172
    go_wp2
    go_ret
    exact ⟨rfl, 0, rfl⟩
set_option maxRecDepth 100000 in
set_option maxHeartbeats 400000 in
theorem turned_any (l : List UInt8) (t : UInt8) (w : World) (hl : l.length = 128) :
    Calls Tryz.prog 190 #[.agg (Sha.cells l), .int .u8 t.toNat] w fun e w' => e = .returned (.string ⟨(Sha.turned t l).toArray⟩) ∧ Below w.heap.size w w' := by
  go_enter Tryz.func190, Tryz.ntmps190
  go_wp2_with fail
  go_loopw [6] (fun v wr => ∃ (i : Nat), i ≤ 128 ∧ v = .int .i64 i ∧ Hid (wr.heap[w.heap.size]? = some (.cells (Sha.cells (Sha.turnedTo t i l)) 268 (0, 0)) ∧ Below w.heap.size w wr)) (fun v _ => 128 - (intOf v).toNat)
  case atStart => exact ⟨0, by omega, rfl, heap_alloc_new _ _, (Below.refl _ _).alloc (Nat.le_refl _) _⟩
  case round =>
    obtain ⟨i, hi, rfl, HH⟩ := hrel
    by_cases hlt : i < 128
    · obtain ⟨c, hc⟩ : ∃ c, l[i]? = some c := ⟨_, List.getElem?_eq_getElem (by omega)⟩
      have hcell : wr.cell? ⟨w.heap.size, i, none⟩ = some (.int .u8 c.toNat) := by rw [cell_of_row _ _ _ _ _ _ HH.out.1]; exact Sha.cells_at (by rw [Sha.turnedTo_at _ _ _ (by omega)]; exact hc)
      have hfr : wr.frozen? ⟨w.heap.size, i, none⟩ = false := frozen_of_row _ _ _ _ _ HH.out.1
      have HC : Hid (l[i]? = some c) := hc
      clear hc
      have hx := Sha.xor_byte c t
      go_wp2
      go_roundw
      case rel =>
        refine ⟨i + 1, by omega, by go_num, ?_, HH.out.2.setCell (p := ⟨w.heap.size, i, none⟩) (Nat.le_refl _) _⟩
        rw [← Sha.turnedTo_set t c i l HC.out, ← Sha.cells_set]
        exact heap_setCell_same _ _ _ _ _ _ HH.out.1
      case measure => simp [intOf]; omega
    · have hi8 : i = 128 := by omega
      subst hi8
      rw [Sha.turnedTo_all _ _ _ (by omega)] at HH
      have HF : Hid (ByteRow.Has w.heap.size wr (.slice (some ⟨w.heap.size, 0, none⟩) 128 128) (Sha.turned t l)) := by
        have hh := ByteRow.Has.of_row HH.out.1 (Nat.le_refl _)
        rw [Sha.turned_length, hl] at hh
        exact hh
      go_wp2_with (refine ByteRow.to_string _ rfl 44 9 5 _ rfl (Sha.turned t l) rfl HF.out (by rw [ne_eq, ← List.length_eq_zero_iff, Sha.turned_length]; omega) under46 shaUnder5 shaUnder9 ?_)
      go_ret
      exact ⟨rfl, HH.out.2⟩
end Go.Proofs.YtkbboddibgfjbaaGreatDoor
/- The contract of a key that is put ahead of noughts. -/
namespace Go.Sha
theorem fill_row (l : List UInt8) : ((cells noughts).toList.take 0 ++ Lib.byteCells l ++ (cells noughts).toList.drop (0 + l.length)).toArray = cells (l ++ List.replicate (128 - l.length) 0) := by
  have e : Lib.byteCells l = l.map byteV := rfl
  rw [e]
  simp only [cells, noughts, List.take_zero, List.nil_append, Nat.zero_add, List.map_append, List.map_replicate, List.drop_replicate]
end Go.Sha
namespace Go.Proofs.YtkbboddibgfjbaaGreatDoor
open Go.RowKit
open Go.Sort
theorem wpList_copy_row_string {P : Program} {w : World} {ops : Array Oper} {rest : List Oper} {o : Oper} {a : Act} {Q : Exit → Act → World → Prop} (hgd : o.guard = none) (d s : Operand) (dT sT : TypeId)
    (ho : o.op = .call { callee := .builtin .copy, args := #[d, s], argTypes := #[dT, sT] }) (elem : TypeId) (hu : P.underlying dT = some (.slice elem)) (hsz : (P.info? elem).map (·.size) = some 1)
    (g off dLen dCap : Nat) (x : ByteArray) (hd : a.eval d = .slice (some ⟨g, off, none⟩) dLen dCap) (hs : a.eval s = .string x)
    (cur : Array Value) (t : TypeId) (hg : w.heap[g]? = some (.cells cur t (0, 0))) (hle : x.size ≤ dLen) (hfit : off + x.size ≤ cur.size)
    (h : wpList P ops Q rest (a.put o.dst (goInt x.size)) (w.setRow g (cur.toList.take off ++ Lib.byteCells x.data.toList ++ cur.toList.drop (off + x.size)).toArray)) : wpList P ops Q (o :: rest) a w := by
  refine wpList_plain hgd fun K hK => ?_
  have hrun := Lib.run_copy_row_string (P := P) w dT sT o.type elem g off dLen dCap x cur t hu hsz hg hle hfit
  unfold Oper.wp
  simp only [List.append_assoc] at hrun h
  simp [execOp, ho, resolve, invoke, builtin, hd, hs, hrun, Result.andThen]
  exact hK _ _ h
theorem fill_world {w w1 W : World} {l : List UInt8} {k : ByteArray} {t : TypeId} {g : Nat} (hgs : g = w1.heap.size) (hW : (w1.alloc (.cells (Sha.cells Sha.noughts) t)).setRow g ((Sha.cells Sha.noughts).toList.take 0 ++ Lib.byteCells k.data.toList ++ (Sha.cells Sha.noughts).toList.drop (0 + k.size)).toArray = W) (hk : k.data.toList = Sha.longKey l ∧ k.size ≤ 128)
    (hg : w1.heap[w.heap.size]? = some (.cells (Sha.cells Sha.noughts) t (0, 0)) ∧ Below w.heap.size w w1) (hlt : w.heap.size < w1.heap.size) :
    W.heap[g]? = some (.cells (Sha.cells (Sha.filled l)) t (0, 0)) ∧ W.heap[w.heap.size]? = some (.cells (Sha.cells Sha.noughts) t (0, 0)) ∧ Below w.heap.size w W := by
  subst hgs
  have e : k.size = k.data.toList.length := by simp
  rw [e, hk.1, Sha.fill_row] at hW
  subst hW
  refine ⟨setRow_heap _ _ _ _ _ _ (heap_alloc_new _ _), ?_, ShaW.below_setRow (hg.2.alloc hg.2.size _) (Nat.le_of_lt hlt) _⟩
  rw [setRow_other _ _ _ _ (by omega)]
  exact ((Below.refl w1.heap.size w1).alloc (Nat.le_refl _) _).block _ hlt |>.trans hg.1
theorem size5 : (Tryz.prog.info? 5).map (·.size) = some 1 := by kernel_rfl
set_option maxRecDepth 100000 in
set_option maxHeartbeats 1000000 in
theorem fill_any (s : ByteArray) (w : World) (hs : s.size ≤ 1000000) (hst : Steps w) :
    Calls Tryz.prog 189 #[.string s] w fun e w' => e = .returned (.agg (Sha.cells (Sha.filled s.data.toList))) ∧ Below w.heap.size w w' := by
  have hz := (zero_of_info zero43).1
  by_cases h : 128 < s.size
  · have HL : Hid (Sha.longKey s.data.toList = Sha.sum s.data.toList) := by show _ = _; rw [Sha.longKey, if_pos (by simpa using h)]
    go_enter Tryz.func189, Tryz.ntmps189
    go_wp2_with fail
    refine (sum_any s _ (Nat.le_trans hs (by decide)) (hst.alloc _)).mono ?_
    rintro e w1 ⟨rfl, hb1⟩
    have HG : Hid (w1.heap[w.heap.size]? = some (.cells (Sha.cells Sha.noughts) 268 (0, 0)) ∧ Below w.heap.size w w1) :=
      ⟨(hb1.block _ (by simp)).trans (heap_alloc_new _ _), ((Below.refl _ _).alloc (Nat.le_refl _) _).trans (hb1.mono (by simp))⟩
    clear hb1
    generalize hK : (⟨(Sha.sum s.data.toList).toArray⟩ : ByteArray) = k
    have HK : Hid (k.data.toList = Sha.longKey s.data.toList ∧ k.size ≤ 128) := by
      subst hK
      rw [HL.out]
      exact ⟨rfl, by show (Sha.sum s.data.toList).toArray.size ≤ 128; rw [List.size_toArray, Sha.sum_length]; omega⟩
    clear hK
    have hlt : w.heap.size < w1.heap.size := ByteRow.lt_of_block HG.out.1
    go_wp2_with (first
      | (refine wpList_copy_row_string rfl _ _ 44 9 rfl 5 under46 size5 w1.heap.size 0 128 128 k rfl rfl (Sha.cells Sha.noughts) 268 (heap_alloc_new _ _) HK.out.2 (by rw [Sha.cells_size, Sha.noughts_length]; have := HK.out.2; omega) ?_
         generalize hW : World.setRow _ _ _ = W
         have HW : Hid (W.heap[w1.heap.size]? = some (.cells (Sha.cells (Sha.filled s.data.toList)) 268 (0, 0)) ∧ W.heap[w.heap.size]? = some (.cells (Sha.cells Sha.noughts) 268 (0, 0)) ∧ Below w.heap.size w W) := fill_world rfl hW HK.out HG.out hlt
         clear hW)
      | refine wpList_load_row rfl 268 _ rfl _ rfl 268 _ (0, 0) _ HW.out.1 under43 rfl (by rw [Sha.cells_size, Sha.filled_length]; exact info43) ?_
      | refine wpList_store_row rfl 268 _ _ rfl _ _ rfl rfl 268 _ HW.out.2.1 (by rw [Sha.cells_size, Sha.filled_length]; exact info43) (by rw [Sha.cells_size, Sha.cells_size, Sha.noughts_length, Sha.filled_length]) (Sha.cells_one _) ?_)
    exact bodyPost_ret (v := .agg (Sha.cells (Sha.filled s.data.toList))) (results_cell_row Tryz.results189 _ _ _ 268 _ (0, 0) _ rfl (setRow_heap _ _ _ _ _ _ HW.out.2.1) under43 rfl (by rw [Sha.cells_size, Sha.filled_length]; exact info43)) rfl ⟨rfl, ShaW.below_setRow HW.out.2.2 (Nat.le_refl _) _⟩
  · have HK : Hid (s.data.toList = Sha.longKey s.data.toList ∧ s.size ≤ 128) := by
      refine ⟨?_, by omega⟩
      rw [Sha.longKey, if_neg (by simpa using h)]
    have HG : Hid ((w.alloc (.cells (Sha.cells Sha.noughts) 268)).heap[w.heap.size]? = some (.cells (Sha.cells Sha.noughts) 268 (0, 0)) ∧ Below w.heap.size w (w.alloc (.cells (Sha.cells Sha.noughts) 268))) := ⟨heap_alloc_new _ _, (Below.refl _ _).alloc (Nat.le_refl _) _⟩
    clear hst
    go_enter Tryz.func189, Tryz.ntmps189
    go_wp2_with (first
      | (refine wpList_copy_row_string rfl _ _ 44 9 rfl 5 under46 size5 (w.heap.size + 1) 0 128 128 s rfl rfl (Sha.cells Sha.noughts) 268 (heap_alloc2_new _ _ _) HK.out.2 (by rw [Sha.cells_size, Sha.noughts_length]; have := HK.out.2; omega) ?_
         generalize hW : World.setRow _ _ _ = W
         have HW : Hid (W.heap[w.heap.size + 1]? = some (.cells (Sha.cells (Sha.filled s.data.toList)) 268 (0, 0)) ∧ W.heap[w.heap.size]? = some (.cells (Sha.cells Sha.noughts) 268 (0, 0)) ∧ Below w.heap.size w W) := fill_world (w1 := w.alloc (.cells (Sha.cells Sha.noughts) 268)) (by simp) hW HK.out HG.out (by simp)
         clear hW)
      | refine wpList_load_row rfl 268 _ rfl _ rfl 268 _ (0, 0) _ HW.out.1 under43 rfl (by rw [Sha.cells_size, Sha.filled_length]; exact info43) ?_
      | refine wpList_store_row rfl 268 _ _ rfl _ _ rfl rfl 268 _ HW.out.2.1 (by rw [Sha.cells_size, Sha.filled_length]; exact info43) (by rw [Sha.cells_size, Sha.cells_size, Sha.noughts_length, Sha.filled_length]) (Sha.cells_one _) ?_)
    exact bodyPost_ret (v := .agg (Sha.cells (Sha.filled s.data.toList))) (results_cell_row Tryz.results189 _ _ _ 268 _ (0, 0) _ rfl (setRow_heap _ _ _ _ _ _ HW.out.2.1) under43 rfl (by rw [Sha.cells_size, Sha.filled_length]; exact info43)) rfl ⟨rfl, ShaW.below_setRow HW.out.2.2 (Nat.le_refl _) _⟩
end Go.Proofs.YtkbboddibgfjbaaGreatDoor
/- The contract of the tag of a text under a key. -/
namespace Go.Proofs.YtkbboddibgfjbaaGreatDoor
open Go.RowKit
open Go.Sort
/-- A row that is loaded, in a region whose operations only read. -/
theorem MacW.quiet_load_row {P : Program} {ops : Array Oper} {C : World → Prop} {Q : Act → Prop} {rest : List Oper} {o : Oper} {a : Act} (hgd : o.guard = none) (ty : TypeId) (x : Operand) (ho : o.op = .load ty x)
    (g : Nat) (hx : a.eval x = .pointer (some ⟨g, 0, none⟩)) (t : TypeId) (cs : Array Value) (fr : Nat × Nat) (d : TypeDesc) (hg : ∀ w, C w → w.heap[g]? = some (.cells cs t fr))
    (hu : P.underlying ty = some d) (hd : (match d with | .struct _ | .array _ _ => true | _ => false) = true) (hi : (P.info? ty).map (·.size) = some cs.size)
    (h : wpQuiet P ops C Q rest (a.put o.dst (.agg cs))) : wpQuiet P ops C Q (o :: rest) a := by
  refine wpQuiet_step fun K hK => ?_
  rw [if_pos (by simp [Region.wanted, hgd])]
  refine ⟨.agg cs, fun w hw => ?_, hK _ h⟩
  unfold Oper.quietAt execOp
  simp only [ho, hx, Instr.loadAt, Instr.sureAddr, Sem.run_bind, Sem.run_pure, Result.andThen_ok, run_loadVar_row w g t ty cs fr d (hg w hw) hu hd hi]
  exact ⟨rfl, rfl⟩
theorem MacW.cat (a b : List UInt8) : (⟨a.toArray⟩ ++ ⟨b.toArray⟩ : ByteArray) = ⟨(a ++ b).toArray⟩ := Sha.ba_ext (by rw [Sha.app_list])
theorem MacW.size (a : List UInt8) : (⟨a.toArray⟩ : ByteArray).size = a.length := by show a.toArray.size = _; simp
set_option maxRecDepth 100000 in
set_option maxHeartbeats 1000000 in
theorem of_any (k s : ByteArray) (w : World) (hk : k.size ≤ 1000000) (hs : s.size ≤ 900000) (hst : Steps w) :
    Calls Tryz.prog 183 #[.string k, .string s] w fun e w' => e = .returned (.string ⟨(Sha.tag k.data.toList s.data.toList).toArray⟩) ∧ Below w.heap.size w w' := by
  have hz := (zero_of_info zero43).1
  have h0 := hst.pos
  have HS : Hid (Steps w) := hst
  clear hst
  go_enter Tryz.func183, Tryz.ntmps183
  go_wp2_with fail
  refine (fill_any k _ hk HS.out).mono ?_
  rintro e w1 ⟨rfl, hb1⟩
  generalize hK : Sha.filled k.data.toList = K
  have HK : Hid (K.length = 128 ∧ Sha.filled k.data.toList = K) := ⟨by rw [← hK, Sha.filled_length], hK⟩
  clear hK
  have HB : Hid (Below w.heap.size w w1) := hb1
  clear hb1
  go_wp2_with (refine wpList_store_row rfl 268 _ _ rfl _ _ rfl rfl 268 _ (heap_alloc_new _ _) (by rw [Sha.cells_size, HK.out.1]; exact info43) (by rw [Sha.cells_size, Sha.cells_size, Sha.noughts_length, HK.out.1]) (Sha.cells_one _) ?_
               generalize hW : World.setRow _ _ _ = W
               have HW : Hid (W.heap[w1.heap.size]? = some (.cells (Sha.cells K) 268 (0, 0)) ∧ Below w.heap.size w W ∧ Steps W) := by
                 have hb : Below w.heap.size w W := by rw [← hW]; exact ShaW.below_setRow (HB.out.alloc HB.out.size _) HB.out.size _
                 exact ⟨by rw [← hW]; exact setRow_heap _ _ _ _ _ _ (heap_alloc_new _ _), hb, Steps.by hb h0 HS.out⟩
               clear hW)
  have HR : Hid (∀ w', (∃ p : Regrown, w' = grow (redrawn W p.d) p.os) → w'.heap[w1.heap.size]? = some (.cells (Sha.cells K) 268 (0, 0))) := by
    rintro w' ⟨p, rfl⟩
    exact ((below_regrown W p.d p.os).block _ (ByteRow.lt_of_block HW.out.1)).trans HW.out.1
  obtain ⟨ti, hti⟩ : ∃ ti : ByteArray, ti = ⟨(Sha.turned 54 K).toArray⟩ := ⟨_, rfl⟩
  obtain ⟨tu, hto⟩ : ∃ tu : ByteArray, tu = ⟨(Sha.turned 92 K).toArray⟩ := ⟨_, rfl⟩
  have hsi : ti.size = 128 := by rw [hti, MacW.size, Sha.turned_length, HK.out.1]
  have hso : tu.size = 128 := by rw [hto, MacW.size, Sha.turned_length, HK.out.1]
  obtain ⟨di, hdi⟩ : ∃ di : ByteArray, di = ⟨(Sha.sum (ti ++ s).data.toList).toArray⟩ := ⟨_, rfl⟩
  have hsd : di.size = 32 := by rw [hdi, MacW.size, Sha.sum_length]
  have H92 : Hid (∀ d os, Calls Tryz.prog 190 #[.agg (Sha.cells K), .int .u8 92] (grow (redrawn W d) os) fun e w'' => e = .returned (.string tu) ∧ ∃ p : Regrown, w'' = grow (redrawn W p.d) p.os) := by
    intro d os; rw [hto]; exact Calls.regrown_of (turned_any K 92 _ HK.out.1)
  have H54 : Hid (∀ d os, Calls Tryz.prog 190 #[.agg (Sha.cells K), .int .u8 54] (grow (redrawn W d) os) fun e w'' => e = .returned (.string ti) ∧ ∃ p : Regrown, w'' = grow (redrawn W p.d) p.os) := by
    intro d os; rw [hti]; exact Calls.regrown_of (turned_any K 54 _ HK.out.1)
  have HSt : Hid (∀ d os, Steps (grow (redrawn W d) os)) := fun d os => Steps.by (below_regrown W d os) HW.out.2.2.pos HW.out.2.2
  have HS1 : Hid (∀ d os, Calls Tryz.prog 81 #[.string (ti ++ s)] (grow (redrawn W d) os) fun e w'' => e = .returned (.string di) ∧ ∃ p : Regrown, w'' = grow (redrawn W p.d) p.os) := by
    intro d os; rw [hdi]; exact Calls.regrown_of (sum_any _ _ (by rw [Sha.app_size]; omega) (HSt.out d os))
  have HS2 : Hid (∀ d os, Calls Tryz.prog 81 #[.string (tu ++ di)] (grow (redrawn W d) os) fun e w'' => e = .returned (.string ⟨(Sha.tag k.data.toList s.data.toList).toArray⟩) ∧ ∃ p : Regrown, w'' = grow (redrawn W p.d) p.os) := by
    intro d os
    have e : Sha.tag k.data.toList s.data.toList = Sha.sum (tu ++ di).data.toList := by
      rw [Sha.tag, HK.out.2, Sha.app_list, hdi, hto, Sha.app_list, hti]
    rw [e]; exact Calls.regrown_of (sum_any _ _ (by rw [Sha.app_size]; omega) (HSt.out d os))
  clear hti hto hdi HSt
  have hc1 : ¬ 9223372036854775807 < 128 + s.size := by omega
  refine wp_region_quiet_below (by kernel_rfl) (by kernel_rfl) ?_
  refine MacW.quiet_load_row rfl 268 _ rfl w1.heap.size rfl 268 _ (0, 0) _ HR.out under43 rfl (by rw [Sha.cells_size, HK.out.1]; exact info43) ?_
  quiet_step (exact H92.out _ _)
  refine MacW.quiet_load_row rfl 268 _ rfl w1.heap.size rfl 268 _ (0, 0) _ HR.out under43 rfl (by rw [Sha.cells_size, HK.out.1]; exact info43) ?_
  quiet_step (exact H54.out _ _)
  quiet_step (fail)
  quiet_step (fail)
  quiet_step (exact HS1.out _ _)
  quiet_step (fail)
  quiet_step (exact HS2.out _ _)
  quiet_step (fail)
  refine wpQuiet_nil ?_
  rintro _ ⟨⟨dq, osq⟩, rfl⟩
  go_wp2
  go_ret
  exact ⟨rfl, HW.out.2.1.trans ((below_regrown W dq osq).mono HW.out.2.1.size)⟩
end Go.Proofs.YtkbboddibgfjbaaGreatDoor
/- A ring of keys as it lies in memory; contracts of Len, Key, Tag and Check. -/
namespace Go.Mac
open Go.RowKit
/-- The pointer v leads to a ring of the keys ks. -/
def RingAt (w : World) (v : Value) (ks : List ByteArray) : Prop :=
  ∃ b sv, v = .pointer (some ⟨b, 0, none⟩) ∧ w.cell? ⟨b, 0, none⟩ = some sv ∧ StrRow.Reads w sv ks
theorem RingAt.below {w w' : World} {v : Value} {ks : List ByteArray} (h : RingAt w v ks) {B : Nat} (hb : Below B w w') (hB : w.heap.size ≤ B) : RingAt w' v ks := by
  obtain ⟨b, sv, h1, h2, h3⟩ := h
  exact ⟨b, sv, h1, (hb.cell (p := ⟨b, 0, none⟩) (Nat.lt_of_lt_of_le (block_lt_of_cell h2) hB)).trans h2, h3.below hb hB⟩
end Go.Mac
namespace Go.Proofs.YtkbboddibgfjbaaGreatDoor
open Go.RowKit
open Go.Sort
set_option maxHeartbeats 400000 in
theorem len_any (v : Value) (ks : List ByteArray) (w : World) (h : Mac.RingAt w v ks) :
    Calls Tryz.prog 188 #[v] w fun e w' => e = .returned (.int .i64 ks.length) ∧ w' = w := by
  obtain ⟨b, sv, rfl, hc, hr⟩ := h
  obtain ⟨a, c, rfl⟩ := hr.form
  clear hr
  go_enter Tryz.func188, Tryz.ntmps188
  go_wp2
  go_ret
  exact ⟨rfl, rfl⟩
set_option maxHeartbeats 400000 in
theorem len_nil (w : World) :
    Calls Tryz.prog 188 #[.pointer none] w fun e w' => e = .returned (.int .i64 0) ∧ w' = w := by
  go_enter Tryz.func188, Tryz.ntmps188
  go_wp2
  go_ret
  exact ⟨rfl, rfl⟩
set_option maxHeartbeats 400000 in
theorem key_in (v : Value) (ks : List ByteArray) (i : Nat) (s : ByteArray) (w : World) (h : Mac.RingAt w v ks) (hi : ks[i]? = some s) :
    Calls Tryz.prog 182 #[v, .int .i64 i] w fun e w' => e = .returned (.tuple #[.string s, .bool true]) ∧ w' = w := by
  have HR : Hid (Mac.RingAt w v ks) := h
  have hlt : i < ks.length := (List.getElem?_eq_some_iff.1 hi).1
  obtain ⟨b, sv, rfl, hc, hr⟩ := h
  obtain ⟨g, off, cap, rfl, hcap, hlt2⟩ := hr.at (by intro e; rw [e] at hlt; simp at hlt)
  have hcell := hr.cell hi
  clear hr hi
  have hltI : (i : Int) < ks.length := by omega
  go_enter Tryz.func182, Tryz.ntmps182
  go_wp2_with (go_at_call 188; refine (len_any _ ks _ HR.out).mono ?_; rintro e w' ⟨rfl, rfl⟩)
  go_ret2
  exact ⟨rfl, rfl⟩
set_option maxHeartbeats 400000 in
theorem key_out (v : Value) (ks : List ByteArray) (i : Int) (w : World) (h : Mac.RingAt w v ks) (hi : i < 0 ∨ ks.length ≤ i) :
    Calls Tryz.prog 182 #[v, .int .i64 i] w fun e w' => e = .returned (.tuple #[.string ⟨#[]⟩, .bool false]) ∧ w' = w := by
  by_cases h0 : i < 0
  · go_enter Tryz.func182, Tryz.ntmps182
    go_wp2
    go_ret2
    exact ⟨rfl, rfl⟩
  · have h1 : (ks.length : Int) ≤ i := by omega
    go_enter Tryz.func182, Tryz.ntmps182
    go_wp2_with (go_at_call 188; refine (len_any _ ks _ h).mono ?_; rintro e w' ⟨rfl, rfl⟩)
    go_ret2
    exact ⟨rfl, rfl⟩
set_option maxHeartbeats 400000 in
theorem tag_in (v : Value) (ks : List ByteArray) (i : Nat) (k s : ByteArray) (w : World) (h : Mac.RingAt w v ks) (hi : ks[i]? = some k) (hk : k.size ≤ 1000000) (hs : s.size ≤ 900000) (hst : Steps w) :
    Calls Tryz.prog 171 #[v, .int .i64 i, .string s] w fun e w' => e = .returned (.tuple #[.string ⟨(Sha.tag k.data.toList s.data.toList).toArray⟩, .int .i64 0]) ∧ Below w.heap.size w w' := by
  go_enter Tryz.func171, Tryz.ntmps171
  go_wp2_with fail
  refine (key_in v ks i k w h hi).mono ?_
  rintro e w1 ⟨rfl, rfl⟩
  clear hi h
  go_wp2_with fail
  refine (of_any k s _ hk hs hst).mono ?_
  clear hst
  rintro e w2 ⟨rfl, hb⟩
  go_wp2
  go_ret2
  exact ⟨rfl, hb⟩
set_option maxHeartbeats 400000 in
theorem tag_out (v : Value) (ks : List ByteArray) (i : Int) (s : ByteArray) (w : World) (h : Mac.RingAt w v ks) (hi : i < 0 ∨ ks.length ≤ i) :
    Calls Tryz.prog 171 #[v, .int .i64 i, .string s] w fun e w' => e = .returned (.tuple #[.string ⟨#[]⟩, .int .i64 2]) ∧ w' = w := by
  go_enter Tryz.func171, Tryz.ntmps171
  go_wp2_with fail
  refine (key_out v ks i w h hi).mono ?_
  rintro e w1 ⟨rfl, rfl⟩
  clear hi h
  go_wp2
  go_ret2
  exact ⟨rfl, rfl⟩
set_option maxHeartbeats 400000 in
theorem check_in (v : Value) (ks : List ByteArray) (i : Nat) (k s t : ByteArray) (w : World) (h : Mac.RingAt w v ks) (hi : ks[i]? = some k) (hk : k.size ≤ 1000000) (hs : s.size ≤ 900000) (hst : Steps w) :
    Calls Tryz.prog 133 #[v, .int .i64 i, .string s, .string t] w fun e w' => e = .returned (.bool (decide (t.data.toList = Sha.tag k.data.toList s.data.toList))) ∧ Below w.heap.size w w' := by
  go_enter Tryz.func133, Tryz.ntmps133
  go_wp2_with fail
  refine (tag_in v ks i k s w h hi hk hs hst).mono ?_
  clear hi h hst
  rintro e w1 ⟨rfl, hb⟩
  obtain ⟨r, hr⟩ : ∃ r : ByteArray, r = ⟨(Sha.tag k.data.toList s.data.toList).toArray⟩ := ⟨_, rfl⟩
  rw [← hr]
  have hsz : r.size ≤ 1000000 := by rw [hr, MacW.size, Sha.tag_length]; omega
  have hdec : decide (r = t) = decide (t.data.toList = Sha.tag k.data.toList s.data.toList) := by
    refine decide_eq_decide.2 ?_
    rw [← Sha.ba_list, hr]
    exact ⟨fun e => e.symm, fun e => e.symm⟩
  have HD : Hid (decide (r = t) = decide (t.data.toList = Sha.tag k.data.toList s.data.toList)) := hdec
  have HB : Hid (Below w.heap.size w w1) := hb
  clear hr hdec hb
  go_wp2_with (go_at_call 172; refine (same_any r t _ hsz).mono ?_; rintro e w2 ⟨rfl, n2, rfl⟩)
  go_ret
  exact ⟨by rw [← HD.out]; rfl, below_drewN HB.out n2⟩
set_option maxHeartbeats 400000 in
theorem check_out (v : Value) (ks : List ByteArray) (i : Int) (s t : ByteArray) (w : World) (h : Mac.RingAt w v ks) (hi : i < 0 ∨ ks.length ≤ i) :
    Calls Tryz.prog 133 #[v, .int .i64 i, .string s, .string t] w fun e w' => e = .returned (.bool false) ∧ w' = w := by
  go_enter Tryz.func133, Tryz.ntmps133
  go_wp2_with fail
  refine (tag_out v ks i s w h hi).mono ?_
  clear hi h
  rintro e w1 ⟨rfl, rfl⟩
  go_wp2
  go_ret
  exact ⟨rfl, rfl⟩
end Go.Proofs.YtkbboddibgfjbaaGreatDoor
/- The contract of the making of a ring. -/
namespace Go.Mac
def keyOf (seed : ByteArray) (i : Nat) : ByteArray := ⟨(Sha.ringKey seed.data.toList i).toArray⟩
def keysOf (seed : ByteArray) (n : Nat) : List ByteArray := (List.range n).map (keyOf seed)
theorem keysOf_length (seed : ByteArray) (n : Nat) : (keysOf seed n).length = n := by simp [keysOf]
theorem keysOf_at (seed : ByteArray) (n i : Nat) (h : i < n) : (keysOf seed n)[i]? = some (keyOf seed i) := by simp [keysOf, h]
theorem keysOf_succ (seed : ByteArray) (n : Nat) : keysOf seed (n + 1) = keysOf seed n ++ [keyOf seed n] := by simp [keysOf, List.range_succ]
theorem keyOf_size (seed : ByteArray) (i : Nat) : (keyOf seed i).size = 32 := by show (Sha.ringKey seed.data.toList i).toArray.size = 32; rw [List.size_toArray, Sha.ringKey_length]
end Go.Mac
namespace Go.Proofs.YtkbboddibgfjbaaGreatDoor
open Go.RowKit
open Go.Sort
theorem wrap_ofNat (i : Nat) : IntKind.u8.wrap (i : Int) = ((UInt8.ofNat i).toNat : Int) := by
  simp [IntKind.wrap, IntKind.bits, IntKind.signed]
/-- string([]byte{c}), where the slice was just laid. -/
theorem one_back (w : World) (c : UInt8) : (convert 44 9 (.slice (some ⟨w.heap.size, 0, none⟩) 1 1)).run Tryz.prog (w.alloc (.cells #[.int .u8 c.toNat] 5)).drew = .ok (.string ⟨#[c]⟩) (w.alloc (.cells #[.int .u8 c.toNat] 5)).drew :=
  run_convert_bytes_back (P := Tryz.prog) _ 44 9 5 ⟨w.heap.size, 0, none⟩ 1 [c] under46 shaUnder5 shaUnder9 (fun j hj => by
    match j, hj with
    | 0, _ => exact TwoRows.cell_new w _ _)
theorem reads_two (w : World) (A : Obj) (a b : ByteArray) (e : TypeId) : StrRow.Reads ((w.alloc A).alloc (.cells #[.string a, .string b] e)).drew (.slice (some ⟨w.heap.size + 1, 0, none⟩) 2 2) [a, b] := by
  refine .inr ⟨w.heap.size + 1, 0, 2, rfl, by simp, by simp, fun j s hj => ?_⟩
  rw [Nat.zero_add]
  show ((w.alloc A).alloc (.cells #[.string a, .string b] e)).cell? _ = _
  rw [cell_of_row _ _ _ _ _ _ (heap_alloc2_new w _ _)]
  match j, hj with
  | 0, hj => simpa using hj
  | 1, hj => simpa using hj
theorem tagged_key (v : Value) (seed : ByteArray) (i : Nat) (w : World) (hr : StrRow.Reads w v [seed, ⟨#[UInt8.ofNat i]⟩]) (hs : seed.size ≤ 700) (hst : Steps w) :
    Calls Tryz.prog 52 #[.int .u8 82, v] w fun e w' => e = .returned (.string (Mac.keyOf seed i)) ∧ Below w.heap.size w w' :=
  tagged_any 82 v [seed, ⟨#[UInt8.ofNat i]⟩] w hr (by simp) (by
    intro s h
    simp at h
    rcases h with rfl | rfl
    · omega
    · show (1 : Nat) ≤ 2000000; decide) hst
theorem info9 : (Tryz.prog.info? 9).map (fun i => (i.zero, i.size, i.bytes)) = some (some (.string ⟨#[]⟩), 1, 16) := by kernel_rfl
theorem under46s : Tryz.prog.underlying 24 = some (.slice 9) := by kernel_rfl
theorem ring_grown {w wr w2 w3 : World} {sv v3 : Value} {l l3 : List Value} {n : Nat} {t : TypeId} {o : Obj} (h : wr.heap[w.heap.size]? = some (.cells #[sv] t (0, 0)) ∧ wr.ownsRow (w.heap.size + 1) 9 1 sv n l ∧ Below w.heap.size w wr)
    (hb : Below wr.heap.size wr w2) (hlt : w.heap.size < wr.heap.size) (hg : (w2.alloc o).grownBy w3 sv.ownBlock) (h3 : w3.ownsRow (w.heap.size + 1) 9 1 v3 (n + 1) l3) :
    w3.heap[w.heap.size]? = some (.cells #[sv] t (0, 0)) ∧ w3.ownsRow (w.heap.size + 1) 9 1 v3 (n + 1) l3 ∧ Below w.heap.size w w3 := by
  have hs := hb.size
  have hbk : ∀ k, sv.ownBlock = some k → w.heap.size + 1 ≤ k := fun k hk => (h.2.1.lt k hk).1
  refine ⟨?_, h3, ((h.2.2.trans (hb.mono (Nat.le_of_lt hlt))).alloc (by omega) _).grown hg (by simp; omega) (fun q hq => by have := hbk q hq; omega)⟩
  rw [hg.block w.heap.size (by simp; omega) (fun e => by have := hbk _ e.symm; omega), ((Below.refl w2.heap.size w2).alloc (Nat.le_refl _) o).block _ (by omega), hb.block _ hlt]
  exact h.1
theorem ring_set {w w3 : World} {sv v3 : Value} {l3 : List Value} {n : Nat} {t : TypeId} (h : w3.heap[w.heap.size]? = some (.cells #[sv] t (0, 0)) ∧ w3.ownsRow (w.heap.size + 1) 9 1 v3 n l3 ∧ Below w.heap.size w w3) :
    (w3.setCell ⟨w.heap.size, 0, none⟩ v3).heap[w.heap.size]? = some (.cells #[v3] t (0, 0)) ∧ (w3.setCell ⟨w.heap.size, 0, none⟩ v3).ownsRow (w.heap.size + 1) 9 1 v3 n l3 ∧ Below w.heap.size w (w3.setCell ⟨w.heap.size, 0, none⟩ v3) := by
  refine ⟨heap_setCell_same _ _ _ _ _ _ h.1, h.2.1.kept (Lib.grownBy_setCell w3 w.heap.size 0 v3) ?_, h.2.2.setCell (p := ⟨w.heap.size, 0, none⟩) (Nat.le_refl _) _⟩
  refine .inr (fun e => ?_)
  have := (h.2.1.lt _ e).1
  omega
set_option maxRecDepth 100000 in
set_option maxHeartbeats 1000000 in
theorem newRing_any (seed : ByteArray) (n : Nat) (w : World) (hn : n ≤ 16) (hs : seed.size ≤ 700) (hst : Steps w) :
    Calls Tryz.prog 29 #[.string seed, .int .i64 n] w fun e w' => ∃ v, e = .returned (.tuple #[v, .int .i64 0]) ∧ Mac.RingAt w' v (Mac.keysOf seed n) ∧ Below w.heap.size w w' := by
  obtain ⟨i0, hif, hz0, hz1, hz2⟩ := info_parts info9
  have hn2 : (n : Int) ≤ 16 := by omega
  have hpos := hst.pos
  have HS : Hid (Steps w) := hst
  clear hst
  go_enter Tryz.func29, Tryz.ntmps29
  go_wp2_with fail
  go_loopw [17] (fun t wr => ∃ (i : Nat) (sv : Value), i ≤ n ∧ t = .int .i64 i ∧ Hid (wr.heap[w.heap.size]? = some (.cells #[sv] 71 (0, 0)) ∧ wr.ownsRow (w.heap.size + 1) 9 1 sv i ((Mac.keysOf seed i).map Value.string) ∧ Below w.heap.size w wr)) (fun t _ => 16 - (intOf t).toNat)
  case atStart => exact ⟨0, .slice none 0 0, by omega, rfl, heap_alloc_new _ _, World.ownsRow_nil _ _ _ _, (Below.refl _ _).alloc (Nat.le_refl _) _⟩
  case round =>
    obtain ⟨i, sv, hi, rfl, HH⟩ := hrel
    by_cases hlt : i < n
    · have hlt2 : (i : Int) < n := by omega
      have hwlt : w.heap.size < wr.heap.size := ByteRow.lt_of_block HH.out.1
      have HSr : Hid (Steps wr) := Steps.by HH.out.2.2 hpos HS.out
      have hc : wr.cell? ⟨w.heap.size, 0, none⟩ = some sv := by rw [cell_of_row _ _ _ _ _ _ HH.out.1]; rfl
      have hf : wr.frozen? ⟨w.heap.size, 0, none⟩ = false := frozen_of_row _ _ _ _ _ HH.out.1
      have hc1 : ∀ o, (wr.alloc o).cell? ⟨w.heap.size, 0, none⟩ = some sv := fun o => (((Below.refl _ wr).alloc (Nat.le_refl _) o).cell (p := ⟨w.heap.size, 0, none⟩) hwlt).trans hc
      have hc12 : ∀ o o', ((wr.alloc o).alloc o').cell? ⟨w.heap.size, 0, none⟩ = some sv := fun o o' => ((((Below.refl _ wr).alloc (Nat.le_refl _) o).alloc (by simp) o').cell (p := ⟨w.heap.size, 0, none⟩) hwlt).trans hc
      have hwr := wrap_ofNat i
      have hcv := one_back wr (UInt8.ofNat i)
      rw [← hwr] at hcv
      clear hwr
      go_wp2_with fail
      go_region_law
        (first
          | (refine TwoRows.step_append1 (base := w.heap.size + 1) (e := 9) (v1 := sv) rfl (.tmp 24) (.tmp 32) 24 rfl i0 (.string ⟨#[]⟩) 16 under46s hif hz0 hz1 hz2 rfl i rfl ((TwoRows.own_below HH.out.2.1 hbw2).alloc _) w2.heap.size 1 (.string (Mac.keyOf seed i)) rfl (TwoRows.cell_new w2 _ _) rfl (by omega) (by unfold maxLen; omega) (by have := hbw2.size; simp; omega) ?_
             intro v3 w3 hown3 hg3
             obtain ⟨a3, c3, rfl⟩ := (StrRow.Reads.of_own (xs := Mac.keysOf seed (i + 1)) (by rw [Mac.keysOf_succ, List.map_append]; exact hown3)).form
             have HR3 : Hid (w3.heap[w.heap.size]? = some (.cells #[sv] 71 (0, 0)) ∧ w3.ownsRow (w.heap.size + 1) 9 1 (.slice a3 (Mac.keysOf seed (i + 1)).length c3) (i + 1) ((Mac.keysOf seed (i + 1)).map Value.string) ∧ Below w.heap.size w w3) := ring_grown HH.out hbw2 hwlt hg3 (by rw [show (Mac.keysOf seed (i + 1)).map Value.string = (Mac.keysOf seed i).map Value.string ++ [Value.string (Mac.keyOf seed i)] by rw [Mac.keysOf_succ, List.map_append]; rfl]; exact hown3)
             have hc3 : w3.cell? ⟨w.heap.size, 0, none⟩ = some sv := by rw [cell_of_row _ _ _ _ _ _ HR3.out.1]; rfl
             have hf3 : w3.frozen? ⟨w.heap.size, 0, none⟩ = false := frozen_of_row _ _ _ _ _ HR3.out.1)
          | (go_simp
             go_at_call 52
             refine (tagged_key _ seed i _ (reads_two wr _ _ _ _) hs (Steps.by ((((Below.refl _ wr).alloc (Nat.le_refl _) _).alloc (by simp) _).drew) HSr.out.pos HSr.out)).mono ?_
             rintro e w2 ⟨rfl, hb2⟩
             have hbw2 : Below wr.heap.size wr w2 := ((((Below.refl _ wr).alloc (Nat.le_refl _) _).alloc (by simp) _).drew).trans (hb2.mono (by simp; omega))
             have hc2 := (hbw2.cell (p := ⟨w.heap.size, 0, none⟩) hwlt).trans hc
             have hc4 : ∀ o, (w2.alloc o).cell? ⟨w.heap.size, 0, none⟩ = some sv := fun o => ((hbw2.alloc hbw2.size o).cell (p := ⟨w.heap.size, 0, none⟩) hwlt).trans hc
             have hf2 := (hbw2.frozen (p := ⟨w.heap.size, 0, none⟩) hwlt).trans hf))
      all_goals
        clear hg3 hb2 hcv hc1 hc12 hc2 hc4 hf2 hc3 hf3 hown3 hbw2
        go_wp2
        go_roundw
        case rel => exact ⟨i + 1, _, by omega, by go_num, ring_set HR3.out⟩
        case measure => simp [intOf]; omega
    · have hin : i = n := by omega
      subst hin
      go_wp2
      go_ret2
      refine ⟨_, rfl, ⟨w.heap.size, sv, rfl, by rw [cell_of_row _ _ _ _ _ _ HH.out.1]; rfl, StrRow.Reads.of_own HH.out.2.1⟩, HH.out.2.2⟩
set_option maxHeartbeats 400000 in
theorem newRing_bad (seed : ByteArray) (n : Int) (w : World) (hn : n < 0 ∨ 16 < n) :
    Calls Tryz.prog 29 #[.string seed, .int .i64 n] w fun e w' => e = .returned (.tuple #[.pointer none, .int .i64 1]) ∧ w' = w := by
  by_cases h : n < 0
  · go_enter Tryz.func29, Tryz.ntmps29
    go_wp2
    go_ret2
    exact ⟨rfl, rfl⟩
  · have h2 : 16 < n := by omega
    go_enter Tryz.func29, Tryz.ntmps29
    go_wp2
    go_ret2
    exact ⟨rfl, rfl⟩
end Go.Proofs.YtkbboddibgfjbaaGreatDoor
