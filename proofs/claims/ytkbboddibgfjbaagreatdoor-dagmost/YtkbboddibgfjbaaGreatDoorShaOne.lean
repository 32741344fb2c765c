/- Several texts in one: ShaLeaves, ShaSpread, ShaMix, ShaStart, ShaNumber, ShaNumberOwn, ShaMul. -/
import Derived.Test.YtkbboddibgfjbaaGreatDoorRows
import Derived.Test.YtkbboddibgfjbaaGreatDoorPureSha
import Derived.WalkKit
import Derived.WalkSpells
import Derived.WalkLawsBesides
import Derived.Deep.QuietTactic
import Derived.Deep.RegionWith
import Derived.Deep.RegionHeld3
import Derived.BigQuiet
import Derived.Deep.WholeRow
/- Contracts of the small functions: rotations, the three-fold turns, a word of eight bytes. -/
namespace Go.Proofs.YtkbboddibgfjbaaGreatDoor
open Go.RowKit
set_option maxHeartbeats 400000 in
theorem rot_any (x k : Int) (w : World) (h0 : 0 < k) (h1 : k < 64) :
    Calls Tryz.prog 187 #[.int .u64 x, .int .i64 (-k)] w fun e w' => e = .returned (.int .u64 (Sha.rotr x k)) ∧ w' = w := by
  have hs := Sha.and63 k h0 h1
  go_enter Tryz.func187, Tryz.ntmps187
  go_wp2
  go_ret
  refine ⟨?_, rfl⟩
  have e : (64 - (64 - k)).toNat = k.toNat := by omega
  show Ending.returned (Value.int .u64 (bits BinOp.or IntKind.u64 (IntKind.u64.wrap (x * 2 ^ (64 - k).toNat)) (x / 2 ^ (64 - (64 - k)).toNat))) = _
  rw [e, Sha.rotr_turned]
set_option maxHeartbeats 400000 in
theorem rturn_any (x k : Int) (w : World) (h0 : 0 < k) (h1 : k < 64) :
    Calls Tryz.prog 151 #[.int .u64 x, .int .i64 k] w fun e w' => e = .returned (.int .u64 (Sha.rotr x k)) ∧ w' = w := by
  go_enter Tryz.func151, Tryz.ntmps151
  go_wp2
  go_ret
  exact ⟨rfl, rfl⟩
set_option maxHeartbeats 400000 in
theorem turn_any (x i j k : Int) (w : World) (hi0 : 0 < i) (hi1 : i < 64) (hj0 : 0 < j) (hj1 : j < 64) (hk0 : 0 < k) (hk1 : k < 64) :
    Calls Tryz.prog 180 #[.int .u64 x, .int .i64 i, .int .i64 j, .int .i64 k] w fun e w' => e = .returned (.int .u64 (Sha.turn3 x i j k)) ∧ w' = w := by
  go_enter Tryz.func180, Tryz.ntmps180
  go_wp2_with (go_at_call 187; refine (rot_any _ _ _ (by omega) (by omega)).mono ?_; rintro e w' ⟨rfl, rfl⟩)
  go_ret
  exact ⟨rfl, rfl⟩
set_option maxHeartbeats 400000 in
theorem shift_any (x i j k : Int) (w : World) (hi0 : 0 < i) (hi1 : i < 64) (hj0 : 0 < j) (hj1 : j < 64) (hk0 : 0 < k) (hk1 : k < 64) :
    Calls Tryz.prog 186 #[.int .u64 x, .int .i64 i, .int .i64 j, .int .i64 k] w fun e w' => e = .returned (.int .u64 (Sha.shift3 x i j k)) ∧ ∃ n, w' = w.drewN n := by
  go_enter Tryz.func186, Tryz.ntmps186
  go_wp2_with fail
  go_quiet ((go_at_call 187; exact Calls.quiet_of_same (rot_any _ _ _ (by omega) (by omega))))
  go_wp2
  go_ret
  exact ⟨rfl, _, rfl⟩
set_option maxHeartbeats 400000 in
theorem word_any (s : ByteArray) (w : World) (hs : s.size ≤ 1000) :
    Calls Tryz.prog 185 #[.string s] w fun e w' => e = .returned (.int .u64 (Sha.beN s.data.toList 0)) ∧ w' = w := by
  go_enter Tryz.func185, Tryz.ntmps185
  go_wp2
  go_loop [3, 7] (fun n i => ∃ k : Nat, k ≤ s.size ∧ i = .int .i64 k ∧ n = .int .u64 (Sha.beN (s.data.toList.take k) 0)) (fun _ i => s.size - (intOf i).toNat)
  case atStart => exact ⟨0, Nat.zero_le _, rfl, rfl⟩
  case round =>
    obtain ⟨k, hk, rfl, rfl⟩ := hrel
    by_cases hlt : k < s.size
    · go_wp2
      go_round
      case rel => exact ⟨k + 1, by omega, by go_num, by rw [Sha.beN_or, ← Sha.take_snoc]⟩
      case measure => simp [intOf]; omega
    · go_wp2
      go_ret
      refine ⟨?_, rfl⟩
      have e : s.data.toList.take k = s.data.toList := List.take_of_length_le (by simp only [Array.length_toList]; exact Nat.le_of_not_lt hlt)
      show Ending.returned (Value.int .u64 (Sha.beN (s.data.toList.take k) 0)) = _
      rw [e]
end Go.Proofs.YtkbboddibgfjbaaGreatDoor
/- The contract of the spreading of a block's sixteen words over eighty. -/
namespace Go.Proofs.YtkbboddibgfjbaaGreatDoor
open Go.RowKit
theorem zero39 : (Tryz.prog.info? 235).map (fun i => (i.zero, i.size)) = some (some (.agg (Sha.cells80 fun _ => 0)), 80) := by kernel_rfl
theorem info39 : (Tryz.prog.info? 235).map (·.size) = some 80 := (zero_of_info zero39).2
theorem ShaW.cells80_one (f : Nat → Int) : (Sha.cells80 f).all (·.oneCell') = true := by
  simp [Sha.cells80, Value.oneCell']
theorem ShaW.below_setRow {B : Nat} {w w1 : World} (h : Below B w w1) {g : Nat} (hg : B ≤ g) (cs : Array Value) : Below B w (w1.setRow g cs) :=
  h.trans ⟨rfl, rfl, rfl, by simp, fun k hk => setRow_other _ _ _ _ (by omega)⟩
theorem under39 : Tryz.prog.underlying 235 = some (.array 80 45) := by kernel_rfl
set_option maxHeartbeats 400000 in
theorem spread_any (s : ByteArray) (w : World) (hs : s.size = 128) :
    Calls Tryz.prog 179 #[.string s] w fun e w' => e = .returned (.agg (Sha.cells80 (Sha.wd s.data.toList))) ∧ Below w.heap.size w w' := by
  have hz := (zero_of_info zero39).1
  have hs2 : (s.size : Int) = 128 := by omega
  go_enter Tryz.func179, Tryz.ntmps179
  go_wp2_with fail
  go_loopw [6] (fun t wr => ∃ (k : Nat) (cs : Array Value), k ≤ 16 ∧ t = .int .i64 k ∧ wr.heap[w.heap.size + 1]? = some (.cells cs 235 (0, 0)) ∧ cs.size = 80 ∧ (∀ j, j < k → cs[j]? = some (.int .u64 (Sha.wd s.data.toList j))) ∧ wr.heap[w.heap.size]? = some (.cells (Sha.cells80 fun _ => 0) 235 (0, 0)) ∧ Below w.heap.size w wr ∧ w.heap.size + 2 ≤ wr.heap.size) (fun t _ => 16 - (intOf t).toNat)
  case atStart =>
    refine ⟨0, _, by omega, rfl, heap_alloc2_new _ _ _, Sha.cells80_size _, fun j hj => by omega, heap_alloc2_old _ _ _, ((Below.refl _ _).alloc (Nat.le_refl _) _).alloc (by simp) _, by simp⟩
  case round =>
    obtain ⟨k, cs, hk, rfl, hg, hsz, hcs, hg0, hb, hsize⟩ := hrel
    by_cases hlt : k < 16
    · have hv : cs[k]? = some cs[k] := Array.getElem?_eq_getElem (by omega)
      generalize cs[k] = v at hv
      have hcell : wr.cell? ⟨w.heap.size + 1, k, none⟩ = some v := by rw [cell_of_row _ _ _ _ _ _ hg]; exact hv
      have hfr : wr.frozen? ⟨w.heap.size + 1, k, none⟩ = false := frozen_of_row _ _ _ _ _ hg
      have HH : Hid (wr.heap[w.heap.size + 1]? = some (Obj.cells cs 235 (0, 0)) ∧ (∀ (j : Nat), j < k → cs[j]? = some (Value.int IntKind.u64 (Sha.wd s.data.toList j))) ∧
        wr.heap[w.heap.size]? = some (Obj.cells (Sha.cells80 fun x => 0) 235 (0, 0)) ∧ cs.size = 80 ∧ Below w.heap.size w wr) := ⟨hg, hcs, hg0, hsz, hb⟩
      clear hg hcs hg0 hsz hb hv
      go_wp2_with fail
      refine (word_any _ _ (by simp; omega)).mono ?_; rintro e w' ⟨rfl, rfl⟩
      have hw : Sha.beN (s.extract (8 * k) (8 * k + 8)).data.toList 0 = Sha.wd s.data.toList k := by
        rw [Sha.extract_list, Sha.wd_word _ _ hlt]; congr 2; omega
      rw [hw]
      clear hw
      go_wp2
      go_roundw
      case rel =>
        obtain ⟨hg, hcs, hg0, hsz, hb⟩ := HH.out
        refine ⟨k + 1, _, by omega, by go_num, heap_setCell_same _ _ _ _ _ _ hg, by simpa using hsz, fun j hj => ?_, ?_, hb.setCell (by show w.heap.size ≤ w.heap.size + 1; omega) _, by simpa using hsize⟩
        · by_cases e : j = k
          · subst e; rw [Array.getElem?_setIfInBounds_self_of_lt (by omega)]
          · rw [Array.getElem?_setIfInBounds_ne (by omega)]; exact hcs j (by omega)
        · rw [heap_setCell_other _ _ _ _ (by show w.heap.size ≠ w.heap.size + 1; omega)]; exact hg0
      case measure => simp [intOf]; omega
    · have hk16 : k = 16 := by omega
      subst hk16
      go_wp2_with fail
      go_loopw [5] (fun t wr => ∃ (k : Nat) (cs : Array Value), 16 ≤ k ∧ k ≤ 80 ∧ t = .int .i64 k ∧ wr.heap[w.heap.size + 1]? = some (.cells cs 235 (0, 0)) ∧ cs.size = 80 ∧ (∀ j, j < k → cs[j]? = some (.int .u64 (Sha.wd s.data.toList j))) ∧ wr.heap[w.heap.size]? = some (.cells (Sha.cells80 fun _ => 0) 235 (0, 0)) ∧ Below w.heap.size w wr ∧ w.heap.size + 2 ≤ wr.heap.size) (fun t _ => 80 - (intOf t).toNat)
      case atStart => exact ⟨16, cs, by omega, by omega, rfl, hg, hsz, hcs, hg0, hb, hsize⟩
      case round =>
        clear hcs hg hsz cs hg0 hb hsize hlt hk
        obtain ⟨k, cs, hk16, hk, rfl, hg, hsz, hcs, hg0, hb, hsize⟩ := hrel
        by_cases hlt : k < 80
        · have hv : cs[k]? = some cs[k] := Array.getElem?_eq_getElem (by omega)
          generalize cs[k] = v at hv
          have hcell : wr.cell? ⟨w.heap.size + 1, k, none⟩ = some v := by rw [cell_of_row _ _ _ _ _ _ hg]; exact hv
          have hfr : wr.frozen? ⟨w.heap.size + 1, k, none⟩ = false := frozen_of_row _ _ _ _ _ hg
          have h16 : wr.cell? ⟨w.heap.size + 1, k - 16, none⟩ = some (.int .u64 (Sha.wd s.data.toList (k - 16))) := by rw [cell_of_row _ _ _ _ _ _ hg]; exact hcs _ (by omega)
          have h15 : wr.cell? ⟨w.heap.size + 1, k - 15, none⟩ = some (.int .u64 (Sha.wd s.data.toList (k - 15))) := by rw [cell_of_row _ _ _ _ _ _ hg]; exact hcs _ (by omega)
          have h7 : wr.cell? ⟨w.heap.size + 1, k - 7, none⟩ = some (.int .u64 (Sha.wd s.data.toList (k - 7))) := by rw [cell_of_row _ _ _ _ _ _ hg]; exact hcs _ (by omega)
          have h2 : wr.cell? ⟨w.heap.size + 1, k - 2, none⟩ = some (.int .u64 (Sha.wd s.data.toList (k - 2))) := by rw [cell_of_row _ _ _ _ _ _ hg]; exact hcs _ (by omega)
          have hk1 : (16 : Int) ≤ k := by omega
          have hk2 : (k : Int) < 80 := by omega
          have HH : Hid (wr.heap[w.heap.size + 1]? = some (Obj.cells cs 235 (0, 0)) ∧ (∀ (j : Nat), j < k → cs[j]? = some (Value.int IntKind.u64 (Sha.wd s.data.toList j))) ∧
            wr.heap[w.heap.size]? = some (Obj.cells (Sha.cells80 fun x => 0) 235 (0, 0)) ∧ cs.size = 80 ∧ Below w.heap.size w wr) := ⟨hg, hcs, hg0, hsz, hb⟩
          clear hg hcs hg0 hsz hb hv
          go_wp2_with fail
          refine QTail.wp_region_tail (fun w' => ∃ n, w' = wr.drewN n) 22 (by kernel_rfl) (by kernel_rfl) ⟨1, rfl⟩ ?_
          simp only [List.take_succ_cons, List.take_zero, List.drop_succ_cons, List.drop_zero]
          repeat (first | go_big_quiet_step ((go_at_call 186; exact Calls.quiet_of (shift_any _ _ _ _ _ (by omega) (by omega) (by omega) (by omega) (by omega) (by omega)))) | quiet_step ((go_at_call 186; exact Calls.quiet_of (shift_any _ _ _ _ _ (by omega) (by omega) (by omega) (by omega) (by omega) (by omega)))))
          refine wpQuiet_nil ?_
          rintro _ ⟨nq, rfl⟩
          have hadd : IntKind.u64.wrap (IntKind.u64.wrap (IntKind.u64.wrap (Sha.wd s.data.toList (k - 16) + Sha.shift3 (Sha.wd s.data.toList (k - 15)) 1 8 7) + Sha.wd s.data.toList (k - 7)) + Sha.shift3 (Sha.wd s.data.toList (k - 2)) 19 61 6) = Sha.wd s.data.toList k := (Sha.wd_later s.data.toList k hk16).symm
          rw [hadd]
          clear hadd
          go_wp2
          go_roundw
          case rel =>
            obtain ⟨hg, hcs, hg0, hsz, hb⟩ := HH.out
            refine ⟨k + 1, cs.setIfInBounds k (.int .u64 (Sha.wd s.data.toList k)), by omega, by omega, by go_num, ?_, by simpa using hsz, fun j hj => ?_, ?_, ?_, ?_⟩
            · exact heap_setCell_same (wr.drewN nq) _ _ _ _ _ hg
            · by_cases e : j = k
              · subst e; rw [Array.getElem?_setIfInBounds_self_of_lt (by omega)]
              · rw [Array.getElem?_setIfInBounds_ne (by omega)]; exact hcs j (by omega)
            · rw [heap_setCell_other _ _ _ _ (by show w.heap.size ≠ w.heap.size + 1; omega)]; exact hg0
            · exact (below_drewN hb nq).setCell (by show w.heap.size ≤ w.heap.size + 1; omega) _
            · simpa using hsize
          case measure => simp [intOf]; omega
        · have hk80 : k = 80 := by omega
          subst hk80
          have hcs80 := Sha.cells80_of _ cs hsz hcs
          subst hcs80
          clear hcs
          go_wp2_with (first | refine wpList_load_row rfl 235 _ rfl _ rfl 235 _ (0, 0) _ hg under39 rfl (by rw [Sha.cells80_size]; exact info39) ?_ | refine wpList_store_row rfl 235 _ _ rfl _ _ rfl rfl 235 _ hg0 (by rw [Sha.cells80_size]; exact info39) (by rw [Sha.cells80_size, Sha.cells80_size]) (ShaW.cells80_one _) ?_)
          exact bodyPost_ret (v := .agg (Sha.cells80 (Sha.wd s.data.toList))) (results_cell_row Tryz.results179 _ _ _ 235 _ (0, 0) _ rfl (setRow_heap _ _ _ _ _ _ hg0) under39 rfl (by rw [Sha.cells80_size]; exact info39)) rfl ⟨rfl, ShaW.below_setRow hb (Nat.le_refl _) _⟩
end Go.Proofs.YtkbboddibgfjbaaGreatDoor
/- The contract of the mixing of a block of 128 bytes into the eight numbers. -/
namespace Go.Proofs.YtkbboddibgfjbaaGreatDoor
open Go.RowKit
/-- The numbers of the steps lie where the program laid them. -/
def Steps (w : World) : Prop := ∃ (st : TypeId) (sf : Nat × Nat), w.heap[1]? = some (.cells (Sha.cells80 Sha.kk) st sf)
theorem Steps.pos {w : World} (h : Steps w) : 1 < w.heap.size := by
  obtain ⟨st, sf, h⟩ := h
  rcases Nat.lt_or_ge 1 w.heap.size with h0 | h0
  · exact h0
  · rw [Array.getElem?_eq_none h0] at h; cases h
theorem Steps.below {w w' : World} {B : Nat} (h : Steps w) (hb : Below B w w') (hB : 1 < B) : Steps w' := by
  obtain ⟨st, sf, h⟩ := h
  exact ⟨st, sf, (hb.block 1 hB).trans h⟩
theorem Steps.by {w w' : World} {B : Nat} (hb : Below B w w') (hB : 1 < B) (h : Steps w) : Steps w' := h.below hb hB
theorem Steps.alloc {w : World} (h : Steps w) (o : Obj) : Steps (w.alloc o) := h.below ((Below.refl _ _).alloc (Nat.le_refl _) o) h.pos
theorem info23 : (Tryz.prog.info? 177).map (·.size) = some 8 := by kernel_rfl
theorem under23 : Tryz.prog.underlying 177 = some (.array 8 45) := by kernel_rfl
theorem ShaW.cell {W : World} {g j : Nat} {cs : Array Value} {t : TypeId} {fr : Nat × Nat} (hg : W.heap[g]? = some (.cells cs t fr)) {v : Value} (h : cs[j]? = some v) : W.cell? ⟨g, j, none⟩ = some v := by
  rw [cell_of_row _ _ _ _ _ _ hg]; exact h
set_option maxRecDepth 100000 in
set_option maxHeartbeats 1000000 in
theorem mix_any (a b c d e f g h : Int) (s : ByteArray) (w : World) (hs : s.size = 128) (hst : Steps w) :
    Calls Tryz.prog 158 #[.agg #[.int .u64 a, .int .u64 b, .int .u64 c, .int .u64 d, .int .u64 e, .int .u64 f, .int .u64 g, .int .u64 h], .string s] w fun e1 w' => e1 = .returned (.agg (Sha.mix ⟨a, b, c, d, e, f, g, h⟩ s.data.toList).cells) ∧ Below w.heap.size w w' := by
  have hs2 : (s.size : Int) = 128 := by omega
  have hz := (zero_of_info zero39).1
  obtain ⟨st, sf, hst⟩ := hst
  have Hst : Hid (w.heap[1]? = some (.cells (Sha.cells80 Sha.kk) st sf)) := hst
  clear hst
  go_enter Tryz.func158, Tryz.ntmps158
  go_wp2_with fail
  refine (spread_any _ _ hs).mono ?_
  rintro ee w1 ⟨rfl, hb⟩
  go_wp2_with (refine wpList_store_row rfl 235 _ _ rfl _ _ rfl rfl 235 _ (heap_alloc_new _ _) (by rw [Sha.cells80_size]; exact info39) (by rw [Sha.cells80_size, Sha.cells80_size]) (ShaW.cells80_one _) ?_)
  rw [World.setRow_alloc_new]
  generalize hW : w1.alloc (Obj.cells (Sha.cells80 (Sha.wd s.data.toList)) 235) = W
  have hz1 : w.heap.size + 2 ≤ w1.heap.size := by have := hb.size; simpa using this
  have hWn : W.heap[w1.heap.size]? = some (.cells (Sha.cells80 (Sha.wd s.data.toList)) 235 (0, 0)) := by rw [← hW]; exact heap_alloc_new _ _
  have old : ∀ i, i < w.heap.size + 2 → W.heap[i]? = (((w.alloc (Obj.cells #[Value.int IntKind.u64 a, Value.int IntKind.u64 b, Value.int IntKind.u64 c, Value.int IntKind.u64 d, Value.int IntKind.u64 e, Value.int IntKind.u64 f, Value.int IntKind.u64 g, Value.int IntKind.u64 h] 177)).alloc (Obj.cells #[Value.int IntKind.u64 0, Value.int IntKind.u64 0, Value.int IntKind.u64 0, Value.int IntKind.u64 0, Value.int IntKind.u64 0, Value.int IntKind.u64 0, Value.int IntKind.u64 0, Value.int IntKind.u64 0] 177)).heap)[i]? := by
    intro i hi
    rw [← hW, heap_alloc_old _ _ (by omega)]
    exact hb.block i (by simpa using hi)
  have hWh := (old w.heap.size (by omega)).trans (heap_alloc2_old _ _ _)
  have hWr := (old (w.heap.size + 1) (by omega)).trans (heap_alloc2_new _ _ _)
  have h0lt : 1 < w.heap.size := by
    have := Hst.out
    rcases Nat.lt_or_ge 1 w.heap.size with h0 | h0
    · exact h0
    · rw [Array.getElem?_eq_none h0] at this; cases this
  have hW0 : W.heap[1]? = some (.cells (Sha.cells80 Sha.kk) st sf) := by
    rw [old 1 (by omega), heap_alloc_old _ _ (by rw [World.size_alloc]; omega), heap_alloc_old _ _ h0lt]; exact Hst.out
  have hbW : Below w.heap.size w W := by
    rw [← hW]
    exact ((((Below.refl _ _).alloc (Nat.le_refl _) _).alloc (by simp) _).trans (hb.mono (by simp; omega))).alloc (by omega) _
  clear hW hb old Hst hz
  have c0 := ShaW.cell (j := 0) hWh rfl
  have c1 := ShaW.cell (j := 1) hWh rfl
  have c2 := ShaW.cell (j := 2) hWh rfl
  have c3 := ShaW.cell (j := 3) hWh rfl
  have c4 := ShaW.cell (j := 4) hWh rfl
  have c5 := ShaW.cell (j := 5) hWh rfl
  have c6 := ShaW.cell (j := 6) hWh rfl
  have c7 := ShaW.cell (j := 7) hWh rfl
  have HW : Hid (W.heap[w1.heap.size]? = some (.cells (Sha.cells80 (Sha.wd s.data.toList)) 235 (0, 0)) ∧ W.heap[1]? = some (.cells (Sha.cells80 Sha.kk) st sf) ∧ W.heap[w.heap.size + 1]? = some (Obj.cells #[Value.int IntKind.u64 0, Value.int IntKind.u64 0, Value.int IntKind.u64 0, Value.int IntKind.u64 0, Value.int IntKind.u64 0, Value.int IntKind.u64 0, Value.int IntKind.u64 0, Value.int IntKind.u64 0] 177) ∧ Below w.heap.size w W) := ⟨hWn, hW0, hWr, hbW⟩
  clear hWn hW0 hWr hbW hWh
  go_wp2_with fail
  go_quiet (fail)
  go_wp2_with fail
  go_loopw [6, 7, 8, 9, 10, 11, 12, 13, 39] (fun va vb vc vd ve vf vg vh vi wr => ∃ (k : Nat) (t : Sha.St), k ≤ 80 ∧ vi = .int .i64 k ∧ Hid (t = Sha.steps Sha.kk (Sha.wd s.data.toList) ⟨a, b, c, d, e, f, g, h⟩ k) ∧ va = .int .u64 t.a ∧ vb = .int .u64 t.b ∧ vc = .int .u64 t.c ∧ vd = .int .u64 t.d ∧ ve = .int .u64 t.e ∧ vf = .int .u64 t.f ∧ vg = .int .u64 t.g ∧ vh = .int .u64 t.h ∧ Hid (∃ n, wr = W.drewN n)) (fun _ _ _ _ _ _ _ _ vi _ => 80 - (intOf vi).toNat)
  case atStart => exact ⟨0, _, by omega, rfl, rfl, rfl, rfl, rfl, rfl, rfl, rfl, rfl, rfl, nq, rfl⟩
  case round =>
    obtain ⟨k, t, hk, rfl, ht, rfl, rfl, rfl, rfl, rfl, rfl, rfl, rfl, hwr⟩ := hrel
    by_cases hlt : k < 80
    · have cw : wr.cell? ⟨w1.heap.size, k, none⟩ = some (.int .u64 (Sha.wd s.data.toList k)) := by
        obtain ⟨n, rfl⟩ := hwr.out
        exact ShaW.cell (W := W.drewN n) HW.out.1 (Sha.cells80_at _ _ hlt)
      have ck : wr.cell? ⟨1, k, none⟩ = some (.int .u64 (Sha.kk k)) := by
        obtain ⟨n, rfl⟩ := hwr.out
        exact ShaW.cell (W := W.drewN n) HW.out.2.1 (Sha.cells80_at _ _ hlt)
      clear c0 c1 c2 c3 c4 c5 c6 c7
      go_wp2_with fail
      go_quiet ((go_at_call 180; exact Calls.quiet_of_same (turn_any _ _ _ _ _ (by omega) (by omega) (by omega) (by omega) (by omega) (by omega))))
      go_wp2_with (go_at_call 180; refine (turn_any _ _ _ _ _ (by omega) (by omega) (by omega) (by omega) (by omega) (by omega)).mono ?_; rintro e w' ⟨rfl, rfl⟩)
      go_roundw
      case rel =>
        exact ⟨k + 1, Sha.step t (Sha.kk k) (Sha.wd s.data.toList k), by omega, by go_num, by rw [ht.out]; rfl, rfl, rfl, rfl, rfl, rfl, rfl, rfl, rfl, by obtain ⟨n, rfl⟩ := hwr.out; exact ⟨_, World.drewN_drewN _ _ _⟩⟩
      case measure => simp [intOf]; omega
    · have hk80 : k = 80 := by omega
      subst hk80
      have d0 : wr.cell? ⟨w.heap.size, 0, none⟩ = some (.int .u64 a) := by obtain ⟨n, rfl⟩ := hwr.out; exact c0
      have d1 : wr.cell? ⟨w.heap.size, 1, none⟩ = some (.int .u64 b) := by obtain ⟨n, rfl⟩ := hwr.out; exact c1
      have d2 : wr.cell? ⟨w.heap.size, 2, none⟩ = some (.int .u64 c) := by obtain ⟨n, rfl⟩ := hwr.out; exact c2
      have d3 : wr.cell? ⟨w.heap.size, 3, none⟩ = some (.int .u64 d) := by obtain ⟨n, rfl⟩ := hwr.out; exact c3
      have d4 : wr.cell? ⟨w.heap.size, 4, none⟩ = some (.int .u64 e) := by obtain ⟨n, rfl⟩ := hwr.out; exact c4
      have d5 : wr.cell? ⟨w.heap.size, 5, none⟩ = some (.int .u64 f) := by obtain ⟨n, rfl⟩ := hwr.out; exact c5
      have d6 : wr.cell? ⟨w.heap.size, 6, none⟩ = some (.int .u64 g) := by obtain ⟨n, rfl⟩ := hwr.out; exact c6
      have d7 : wr.cell? ⟨w.heap.size, 7, none⟩ = some (.int .u64 h) := by obtain ⟨n, rfl⟩ := hwr.out; exact c7
      have hWr : Hid (wr.heap[w.heap.size + 1]? = some (Obj.cells #[Value.int IntKind.u64 0, Value.int IntKind.u64 0, Value.int IntKind.u64 0, Value.int IntKind.u64 0, Value.int IntKind.u64 0, Value.int IntKind.u64 0, Value.int IntKind.u64 0, Value.int IntKind.u64 0] 177)) := by obtain ⟨n, rfl⟩ := hwr.out; exact HW.out.2.2.1
      clear c0 c1 c2 c3 c4 c5 c6 c7
      go_wp2_with (refine wpList_store_row rfl 177 _ _ rfl _ _ rfl rfl 177 _ hWr.out (by exact info23) (by rfl) (by simp [Value.oneCell']) ?_)
      have hv : (Sha.mix ⟨a, b, c, d, e, f, g, h⟩ s.data.toList).cells = (Sha.St.plus ⟨a, b, c, d, e, f, g, h⟩ t).cells := by rw [ht.out]; rfl
      rw [hv]
      exact bodyPost_ret (v := .agg (Sha.St.plus ⟨a, b, c, d, e, f, g, h⟩ t).cells) (results_cell_row Tryz.results158 _ _ _ 177 _ (0, 0) _ rfl (setRow_heap _ _ _ _ _ _ hWr.out) under23 rfl (by exact info23)) rfl ⟨rfl, by obtain ⟨n, rfl⟩ := hwr.out; exact ShaW.below_setRow (below_drewN HW.out.2.2.2 n) (by omega) _⟩
end Go.Proofs.YtkbboddibgfjbaaGreatDoor
/- Contracts of the small functions of both packages that make eight or eighty numbers. -/
namespace Go.Proofs.YtkbboddibgfjbaaGreatDoor
open Go.RowKit
set_option maxRecDepth 100000 in
set_option maxHeartbeats 1000000 in
theorem mix_not (a b c d e f g h : Int) (s : ByteArray) (w : World) (hs : s.size ≠ 128) :
    Calls Tryz.prog 158 #[.agg #[.int .u64 a, .int .u64 b, .int .u64 c, .int .u64 d, .int .u64 e, .int .u64 f, .int .u64 g, .int .u64 h], .string s] w fun e1 w' => e1 = .returned (.agg #[.int .u64 a, .int .u64 b, .int .u64 c, .int .u64 d, .int .u64 e, .int .u64 f, .int .u64 g, .int .u64 h]) ∧ Below w.heap.size w w' := by
  have hs2 : ((s.size : Int) != 128) = true := by rw [bne_iff_ne]; omega
  go_enter Tryz.func158, Tryz.ntmps158
  go_wp2
  exact bodyPost_ret (v := .agg #[.int .u64 a, .int .u64 b, .int .u64 c, .int .u64 d, .int .u64 e, .int .u64 f, .int .u64 g, .int .u64 h]) (by simp [results, Tryz.results158, go_sem]) rfl ⟨rfl, ((Below.refl _ _).alloc (Nat.le_refl _) _).alloc (by simp) _⟩
theorem zero23 : (Tryz.prog.info? 177).map (fun i => (i.zero, i.size)) = some (some (.agg #[.int .u64 0, .int .u64 0, .int .u64 0, .int .u64 0, .int .u64 0, .int .u64 0, .int .u64 0, .int .u64 0]), 8) := by kernel_rfl
set_option maxRecDepth 100000 in
set_option maxHeartbeats 1000000 in
theorem start_any (w : World) :
    Calls Tryz.prog 124 #[] w fun e1 w' => e1 = .returned (.agg Sha.start.cells) ∧ Below w.heap.size w w' := by
  go_enter Tryz.func124, Tryz.ntmps124
  go_wp2
  exact bodyPost_ret (v := .agg Sha.start.cells) (by simp [results, Tryz.results124, go_sem]; rfl) rfl ⟨rfl, (Below.refl _ _).alloc (Nat.le_refl _) _⟩
set_option maxRecDepth 100000 in
set_option maxHeartbeats 1000000 in
theorem rstart_any (w : World) :
    Calls Tryz.prog 108 #[] w fun e1 w' => e1 = .returned (.agg Sha.start.cells) ∧ Below w.heap.size w w' := by
  go_enter Tryz.func108, Tryz.ntmps108
  go_wp2
  exact bodyPost_ret (v := .agg Sha.start.cells) (by simp [results, Tryz.results108, go_sem]; rfl) rfl ⟨rfl, (Below.refl _ _).alloc (Nat.le_refl _) _⟩
set_option maxRecDepth 100000 in
set_option maxHeartbeats 1000000 in
theorem salts_any (w : World) :
    Calls Tryz.prog 150 #[] w fun e1 w' => e1 = .returned (.agg (Sha.cells80 Sha.kk)) ∧ Below w.heap.size w w' := by
  have hz := (zero_of_info zero39).1
  go_enter Tryz.func150, Tryz.ntmps150
  go_wp2_with (first | refine wpList_build rfl 235 _ rfl (by kernel_rfl) ?_ | refine wpList_store_row rfl 235 _ _ rfl _ (Sha.cells80 Sha.kk) rfl (by kernel_rfl) 235 _ (heap_alloc_new _ _) (by rw [Sha.cells80_size]; exact info39) (by rw [Sha.cells80_size, Sha.cells80_size]) (ShaW.cells80_one _) ?_)
  rw [World.setRow_alloc_new]
  exact bodyPost_ret (v := .agg (Sha.cells80 Sha.kk)) (results_cell_row Tryz.results150 _ _ _ 235 _ (0, 0) _ rfl (heap_alloc_new _ _) under39 rfl (by rw [Sha.cells80_size]; exact info39)) rfl ⟨rfl, (Below.refl _ _).alloc (Nat.le_refl _) _⟩
end Go.Proofs.YtkbboddibgfjbaaGreatDoor
/- The contract of putting the lowest bytes of a number behind others. -/
namespace Go.Proofs.YtkbboddibgfjbaaGreatDoor
open Go.RowKit
theorem shaInfo5 : (Tryz.prog.info? 5).map (fun i => (i.zero, i.size, i.bytes)) = some (some (.int .u8 0), 1, 1) := by kernel_rfl
theorem under46 : Tryz.prog.underlying 44 = some (.slice 5) := by kernel_rfl
theorem ShaW.news_byte (w : World) (c : UInt8) (u : Value) (t : TypeId) (hu : u = Sha.byteV c) : ∀ j x, ([c].map Sha.byteV)[j]? = some x → (w.alloc (.cells #[u] t)).cell? ((⟨w.heap.size, 0, none⟩ : Addr).add j) = some x := by
  intro j x hj
  subst hu
  match j, hj with
  | 0, hj => simp at hj; subst hj; simp [Addr.add]
set_option maxRecDepth 100000 in
set_option maxHeartbeats 1000000 in
theorem shaNumber_any (base : Nat) (v : Value) (l : List UInt8) (x : Int) (m : Nat) (w : World) (hown : ByteRow.Has base w v l) (hbase : base ≤ w.heap.size) (hl : l.length ≤ 1000000) (hm : m ≤ 8) :
    Calls Tryz.prog 80 #[v, .int .u64 x, .int .i64 m] w fun e w' => ∃ v', e = .returned v' ∧ ByteRow.Has base w' v' (l ++ Sha.be x m) ∧ Below base w w' := by
  obtain ⟨i0, hi, hz0, hz1, hz2⟩ := info_parts shaInfo5
  have hm2 : (m : Int) ≤ 8 := by omega
  go_enter Tryz.func80, Tryz.ntmps80
  go_wp2
  go_loopw [0, 7] (fun b i wr => ∃ (j : Nat) (p : List UInt8), j ≤ m ∧ i = .int .i64 ((j : Int) - 1) ∧ Hid (p ++ Sha.be x j = Sha.be x m) ∧ Hid (ByteRow.Has base wr b (l ++ p) ∧ base ≤ wr.heap.size ∧ Below base w wr)) (fun _ i _ => (intOf i + 1).toNat)
  case atStart => exact ⟨m, [], Nat.le_refl _, rfl, rfl, by rw [List.append_nil]; exact hown, hbase, Below.refl _ _⟩
  case round =>
    clear hown
    obtain ⟨j, p, hj, rfl, hp, HH⟩ := hrel
    have hj2 : (j : Int) ≤ 8 := by omega
    by_cases hlt : 0 < j
    · obtain ⟨i, rfl⟩ : ∃ i, j = i + 1 := ⟨j - 1, by omega⟩
      have e1 : ((i + 1 : Nat) : Int) - 1 = (i : Int) := by omega
      rw [e1]
      have HP : Hid (p.length + (i + 1) = m) := by have := congrArg List.length hp.out; simp only [List.length_append, Sha.be_length] at this; exact this
      go_wp2_with (at_builtin; refine ByteRow.append _ rfl _ _ 44 rfl 5 i0 under46 hi hz0 hz1 hz2 base _ (l ++ p) rfl (HH.out.1.alloc _) ?_ ⟨wr.heap.size, 0, none⟩ 1 1 [Sha.byteOf (x / 2 ^ (8 * i))] rfl rfl (ShaW.news_byte _ _ _ _ (Sha.byteV_of _).symm) ?_ ?_)
      · have := HH.out.2.1; simp; omega
      · have := HP.out; simp; omega
      · intro v' w1 hown' hgrow
        have HR : Hid (ByteRow.Has base w1 v' (l ++ (p ++ [Sha.byteOf (x / 2 ^ (8 * i))])) ∧ base ≤ w1.heap.size ∧ Below base w w1) := by
          obtain ⟨h1, h2, h3⟩ := HH.out
          exact ⟨hown', by have := hgrow.size; simp at this; omega, (h3.alloc h2 _).trans hgrow⟩
        clear hown' hgrow
        go_wp2
        go_roundw
        case rel => exact ⟨i, p ++ [Sha.byteOf (x / 2 ^ (8 * i))], by omega, by go_num, by rw [← hp.out, List.append_assoc]; rfl, HR.out⟩
        case measure => simp [intOf]
    · have hj0 : j = 0 := by omega
      subst hj0
      have hpm : p = Sha.be x m := by have := hp.out; rwa [show Sha.be x 0 = [] from rfl, List.append_nil] at this
      go_wp2
      go_ret
      exact ⟨_, rfl, by rw [← hpm]; exact HH.out.1, HH.out.2.2⟩
end Go.Proofs.YtkbboddibgfjbaaGreatDoor
/- The contract of putting the lowest bytes of a number behind others, where the row is one of the call's own. -/
namespace Go.Proofs.YtkbboddibgfjbaaGreatDoor
open Go.RowKit
theorem ShaW.news_one (w : World) (u : Value) (t : TypeId) : ∀ j x, [u][j]? = some x → (w.alloc (.cells #[u] t)).cell? ((⟨w.heap.size, 0, none⟩ : Addr).add j) = some x := by
  intro j x hj
  match j, hj with
  | 0, hj => simp at hj; subst hj; simp [Addr.add]
set_option maxRecDepth 100000 in
set_option maxHeartbeats 1000000 in
theorem number_own (base : Nat) (v : Value) (l : List UInt8) (x : Int) (m : Nat) (w : World) (hown : w.ownsRow base 5 1 v l.length (l.map Sha.byteV)) (hbase : base ≤ w.heap.size) (hl : l.length ≤ 1000000) (hm : m ≤ 8) :
    Calls Tryz.prog 80 #[v, .int .u64 x, .int .i64 m] w fun e w' => ∃ v', e = .returned v' ∧ w'.ownsRow base 5 1 v' (l ++ Sha.be x m).length ((l ++ Sha.be x m).map Sha.byteV) ∧ Below base w w' := by
  obtain ⟨i0, hi, hz0, hz1, hz2⟩ := info_parts shaInfo5
  have hm2 : (m : Int) ≤ 8 := by omega
  go_enter Tryz.func80, Tryz.ntmps80
  go_wp2
  go_loopw [0, 7] (fun b i wr => ∃ (j : Nat) (p : List UInt8), j ≤ m ∧ i = .int .i64 ((j : Int) - 1) ∧ Hid (p ++ Sha.be x j = Sha.be x m) ∧ Hid (wr.ownsRow base 5 1 b (l ++ p).length ((l ++ p).map Sha.byteV) ∧ base ≤ wr.heap.size ∧ Below base w wr)) (fun _ i _ => (intOf i + 1).toNat)
  case atStart => exact ⟨m, [], Nat.le_refl _, rfl, rfl, by rw [List.append_nil]; exact hown, hbase, Below.refl _ _⟩
  case round =>
    clear hown
    obtain ⟨j, p, hj, rfl, hp, HH⟩ := hrel
    have hj2 : (j : Int) ≤ 8 := by omega
    by_cases hlt : 0 < j
    · obtain ⟨i, rfl⟩ : ∃ i, j = i + 1 := ⟨j - 1, by omega⟩
      have e1 : ((i + 1 : Nat) : Int) - 1 = (i : Int) := by omega
      rw [e1]
      have HPH : Hid (p.length + (i + 1) = m) := by have := congrArg List.length hp.out; simp only [List.length_append, Sha.be_length] at this; exact this
      go_wp2_with (at_builtin; refine wpList_append_own _ rfl _ _ 44 rfl base 5 i0 (.int .u8 0) 1 1 under46 hi hz0 hz1 hz2 rfl (by decide) _ _ _ rfl (HH.out.1.alloc _) ⟨wr.heap.size, 0, none⟩ 1 1 [_] rfl rfl (ShaW.news_one _ _ _) ?_ ?_ ?_ ?_ ?_)
      · intro u hu; simp at hu; subst hu; rfl
      · have := HPH.out; unfold maxLen; simp; omega
      · have := HPH.out; simp; omega
      · have := HH.out.2.1; simp; omega
      · intro v' w1 hown' hgrow _
        have hown2 : Hid (w1.ownsRow base 5 1 v' (l ++ (p ++ [Sha.byteOf (x / 2 ^ (8 * i))])).length ((l ++ (p ++ [Sha.byteOf (x / 2 ^ (8 * i))])).map Sha.byteV)) := by
          have e2 : (l ++ (p ++ [Sha.byteOf (x / 2 ^ (8 * i))])).length = l.length + p.length + 1 := by simp; omega
          rw [e2]
          simp only [List.map_append, List.map_cons, List.map_nil, Sha.byteV_of]
          exact hown'
        have hrow : Hid (∀ k, u0.ownBlock = some k → base ≤ k) := fun k hk => (HH.out.1.lt k hk).1
        have hgr : Hid (base ≤ w1.heap.size ∧ Below base w w1) := by
          obtain ⟨h1, h2, h3⟩ := HH.out
          exact ⟨by have := hgrow.size; simp at this; omega, (h3.alloc h2 _).grown hgrow (by simp; omega) hrow.out⟩
        clear hown' hgrow
        go_wp2
        go_roundw
        case rel => exact ⟨i, p ++ [Sha.byteOf (x / 2 ^ (8 * i))], by omega, by go_num, by rw [← hp.out, List.append_assoc]; rfl, hown2.out, hgr.out.1, hgr.out.2⟩
        case measure => simp [intOf]
    · have hj0 : j = 0 := by omega
      subst hj0
      have hpm : p = Sha.be x m := by have := hp.out; rwa [show Sha.be x 0 = [] from rfl, List.append_nil] at this
      go_wp2
      go_ret
      exact ⟨_, rfl, by rw [← hpm]; exact HH.out.1, HH.out.2.2⟩
end Go.Proofs.YtkbboddibgfjbaaGreatDoor
/- The contract of the product of a length and eight, in two words. -/
namespace Go.Proofs.YtkbboddibgfjbaaGreatDoor
open Go.RowKit
set_option maxRecDepth 100000 in
set_option maxHeartbeats 1000000 in
theorem mul64_any (n : Nat) (w : World) (hn : n ≤ 20000000) :
    Calls Tryz.prog 159 #[.int .u64 n, .int .u64 8] w fun e w' => e = .returned (.tuple #[.int .u64 0, .int .u64 (8 * n)]) ∧ w' = w := by
  have h1 : bits .and .u64 (n : Int) 4294967295 = n := by rw [and_low32 _ (by omega) (by omega)]; omega
  have h2 : bits .and .u64 8 4294967295 = 8 := by decide +kernel
  have h3 : (n : Int) / 4294967296 = 0 := by omega
  have h4 : IntKind.u64.wrap ((n : Int) * 8) = 8 * n := by rw [IntKind.wrap_u64]; omega
  have h5 : (8 * (n : Int)) / 4294967296 = 0 := by omega
  have h6 : bits .and .u64 0 4294967295 = 0 := by decide +kernel
  go_enter Tryz.func159, Tryz.ntmps159
  go_wp2
  go_ret2
  exact ⟨rfl, rfl⟩
end Go.Proofs.YtkbboddibgfjbaaGreatDoor
