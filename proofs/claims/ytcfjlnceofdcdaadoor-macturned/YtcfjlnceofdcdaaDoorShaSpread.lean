/- The contract of the spreading of a block's sixteen words over eighty. -/
import Derived.Test.YtcfjlnceofdcdaaDoorRows
import Derived.Test.YtcfjlnceofdcdaaDoorShaLeaves
import Derived.WalkKit
import Derived.WalkSpells
import Derived.WalkLawsBesides
import Derived.Deep.QuietTactic
import Derived.Deep.RegionWith
import Derived.Test.YtcfjlnceofdcdaaDoorTail
import Derived.BigQuiet
import Derived.Deep.WholeRow
namespace Go.Proofs.YtcfjlnceofdcdaaDoor
open Go.RowKit
theorem zero39 : (Tryd.prog.info? 59).map (fun i => (i.zero, i.size)) = some (some (.agg (Sha.cells80 fun _ => 0)), 80) := by kernel_rfl
theorem info39 : (Tryd.prog.info? 59).map (·.size) = some 80 := (zero_of_info zero39).2
theorem ShaW.cells80_one (f : Nat → Int) : (Sha.cells80 f).all (·.oneCell') = true := by
  simp [Sha.cells80, Value.oneCell']
theorem ShaW.below_setRow {B : Nat} {w w1 : World} (h : Below B w w1) {g : Nat} (hg : B ≤ g) (cs : Array Value) : Below B w (w1.setRow g cs) :=
  h.trans ⟨rfl, rfl, rfl, by simp, fun k hk => setRow_other _ _ _ _ (by omega)⟩
theorem under39 : Tryd.prog.underlying 59 = some (.array 80 51) := by kernel_rfl
set_option maxHeartbeats 400000 in
theorem spread_any (s : ByteArray) (w : World) (hs : s.size = 128) :
    Calls Tryd.prog 37 #[.string s] w fun e w' => e = .returned (.agg (Sha.cells80 (Sha.wd s.data.toList))) ∧ Below w.heap.size w w' := by
  have hz := (zero_of_info zero39).1
  have hs2 : (s.size : Int) = 128 := by omega
  go_enter Tryd.func37, Tryd.ntmps37
  go_wp2_with fail
  go_loopw [6] (fun t wr => ∃ (k : Nat) (cs : Array Value), k ≤ 16 ∧ t = .int .i64 k ∧ wr.heap[w.heap.size + 1]? = some (.cells cs 59 (0, 0)) ∧ cs.size = 80 ∧ (∀ j, j < k → cs[j]? = some (.int .u64 (Sha.wd s.data.toList j))) ∧ wr.heap[w.heap.size]? = some (.cells (Sha.cells80 fun _ => 0) 59 (0, 0)) ∧ Below w.heap.size w wr ∧ w.heap.size + 2 ≤ wr.heap.size) (fun t _ => 16 - (intOf t).toNat)
  case atStart =>
    refine ⟨0, _, by omega, rfl, heap_alloc2_new _ _ _, Sha.cells80_size _, fun j hj => by omega, heap_alloc2_old _ _ _, ((Below.refl _ _).alloc (Nat.le_refl _) _).alloc (by simp) _, by simp⟩
  case round =>
    obtain ⟨k, cs, hk, rfl, hg, hsz, hcs, hg0, hb, hsize⟩ := hrel
    by_cases hlt : k < 16
    · have hv : cs[k]? = some cs[k] := Array.getElem?_eq_getElem (by omega)
      generalize cs[k] = v at hv
      have hcell : wr.cell? ⟨w.heap.size + 1, k, none⟩ = some v := by rw [cell_of_row _ _ _ _ _ _ hg]; exact hv
      have hfr : wr.frozen? ⟨w.heap.size + 1, k, none⟩ = false := frozen_of_row _ _ _ _ _ hg
      have HH : Hid (wr.heap[w.heap.size + 1]? = some (Obj.cells cs 59 (0, 0)) ∧ (∀ (j : Nat), j < k → cs[j]? = some (Value.int IntKind.u64 (Sha.wd s.data.toList j))) ∧
        wr.heap[w.heap.size]? = some (Obj.cells (Sha.cells80 fun x => 0) 59 (0, 0)) ∧ cs.size = 80 ∧ Below w.heap.size w wr) := ⟨hg, hcs, hg0, hsz, hb⟩
      clear hg hcs hg0 hsz hb hv
      go_wp2_with fail
      refine (word_any _ _ (by simp; omega)).mono ?_; rintro e w' ⟨rfl, rfl⟩
      have hw : Sha.beN (s.extract (8 * k) (8 * k + 8)).data.toList 0 = Sha.wd s.data.toList k := by
        rw [Sha.extract_list, Sha.wd_word _ _ hlt]; congr 2; omega
      rw [hw]
      clear hw
      go_wp2
      go_roundw
      case rel =>
        obtain ⟨hg, hcs, hg0, hsz, hb⟩ := HH.out
        refine ⟨k + 1, _, by omega, by go_num, heap_setCell_same _ _ _ _ _ _ hg, by simpa using hsz, fun j hj => ?_, ?_, hb.setCell (by show w.heap.size ≤ w.heap.size + 1; omega) _, by simpa using hsize⟩
        · by_cases e : j = k
          · subst e; rw [Array.getElem?_setIfInBounds_self_of_lt (by omega)]
          · rw [Array.getElem?_setIfInBounds_ne (by omega)]; exact hcs j (by omega)
        · rw [heap_setCell_other _ _ _ _ (by show w.heap.size ≠ w.heap.size + 1; omega)]; exact hg0
      case measure => simp [intOf]; omega
    · have hk16 : k = 16 := by omega
      subst hk16
      go_wp2_with fail
      go_loopw [5] (fun t wr => ∃ (k : Nat) (cs : Array Value), 16 ≤ k ∧ k ≤ 80 ∧ t = .int .i64 k ∧ wr.heap[w.heap.size + 1]? = some (.cells cs 59 (0, 0)) ∧ cs.size = 80 ∧ (∀ j, j < k → cs[j]? = some (.int .u64 (Sha.wd s.data.toList j))) ∧ wr.heap[w.heap.size]? = some (.cells (Sha.cells80 fun _ => 0) 59 (0, 0)) ∧ Below w.heap.size w wr ∧ w.heap.size + 2 ≤ wr.heap.size) (fun t _ => 80 - (intOf t).toNat)
      case atStart => exact ⟨16, cs, by omega, by omega, rfl, hg, hsz, hcs, hg0, hb, hsize⟩
      case round =>
        clear hcs hg hsz cs hg0 hb hsize hlt hk
        obtain ⟨k, cs, hk16, hk, rfl, hg, hsz, hcs, hg0, hb, hsize⟩ := hrel
        by_cases hlt : k < 80
        · have hv : cs[k]? = some cs[k] := Array.getElem?_eq_getElem (by omega)
          generalize cs[k] = v at hv
          have hcell : wr.cell? ⟨w.heap.size + 1, k, none⟩ = some v := by rw [cell_of_row _ _ _ _ _ _ hg]; exact hv
          have hfr : wr.frozen? ⟨w.heap.size + 1, k, none⟩ = false := frozen_of_row _ _ _ _ _ hg
          have h16 : wr.cell? ⟨w.heap.size + 1, k - 16, none⟩ = some (.int .u64 (Sha.wd s.data.toList (k - 16))) := by rw [cell_of_row _ _ _ _ _ _ hg]; exact hcs _ (by omega)
          have h15 : wr.cell? ⟨w.heap.size + 1, k - 15, none⟩ = some (.int .u64 (Sha.wd s.data.toList (k - 15))) := by rw [cell_of_row _ _ _ _ _ _ hg]; exact hcs _ (by omega)
          have h7 : wr.cell? ⟨w.heap.size + 1, k - 7, none⟩ = some (.int .u64 (Sha.wd s.data.toList (k - 7))) := by rw [cell_of_row _ _ _ _ _ _ hg]; exact hcs _ (by omega)
          have h2 : wr.cell? ⟨w.heap.size + 1, k - 2, none⟩ = some (.int .u64 (Sha.wd s.data.toList (k - 2))) := by rw [cell_of_row _ _ _ _ _ _ hg]; exact hcs _ (by omega)
          have hk1 : (16 : Int) ≤ k := by omega
          have hk2 : (k : Int) < 80 := by omega
          have HH : Hid (wr.heap[w.heap.size + 1]? = some (Obj.cells cs 59 (0, 0)) ∧ (∀ (j : Nat), j < k → cs[j]? = some (Value.int IntKind.u64 (Sha.wd s.data.toList j))) ∧
            wr.heap[w.heap.size]? = some (Obj.cells (Sha.cells80 fun x => 0) 59 (0, 0)) ∧ cs.size = 80 ∧ Below w.heap.size w wr) := ⟨hg, hcs, hg0, hsz, hb⟩
          clear hg hcs hg0 hsz hb hv
          go_wp2_with fail
          refine QTail.wp_region_tail (fun w' => ∃ n, w' = wr.drewN n) 22 (by kernel_rfl) (by kernel_rfl) ⟨1, rfl⟩ ?_
          simp only [List.take_succ_cons, List.take_zero, List.drop_succ_cons, List.drop_zero]
          repeat (first | go_big_quiet_step ((go_at_call 40; exact Calls.quiet_of (shift_any _ _ _ _ _ (by omega) (by omega) (by omega) (by omega) (by omega) (by omega)))) | quiet_step ((go_at_call 40; exact Calls.quiet_of (shift_any _ _ _ _ _ (by omega) (by omega) (by omega) (by omega) (by omega) (by omega)))))
          refine wpQuiet_nil ?_
          rintro _ ⟨nq, rfl⟩
          have hadd : IntKind.u64.wrap (IntKind.u64.wrap (IntKind.u64.wrap (Sha.wd s.data.toList (k - 16) + Sha.shift3 (Sha.wd s.data.toList (k - 15)) 1 8 7) + Sha.wd s.data.toList (k - 7)) + Sha.shift3 (Sha.wd s.data.toList (k - 2)) 19 61 6) = Sha.wd s.data.toList k := (Sha.wd_later s.data.toList k hk16).symm
          rw [hadd]
          clear hadd
          go_wp2
          go_roundw
          case rel =>
            obtain ⟨hg, hcs, hg0, hsz, hb⟩ := HH.out
            refine ⟨k + 1, cs.setIfInBounds k (.int .u64 (Sha.wd s.data.toList k)), by omega, by omega, by go_num, ?_, by simpa using hsz, fun j hj => ?_, ?_, ?_, ?_⟩
            · exact heap_setCell_same (wr.drewN nq) _ _ _ _ _ hg
            · by_cases e : j = k
              · subst e; rw [Array.getElem?_setIfInBounds_self_of_lt (by omega)]
              · rw [Array.getElem?_setIfInBounds_ne (by omega)]; exact hcs j (by omega)
            · rw [heap_setCell_other _ _ _ _ (by show w.heap.size ≠ w.heap.size + 1; omega)]; exact hg0
            · exact (below_drewN hb nq).setCell (by show w.heap.size ≤ w.heap.size + 1; omega) _
            · simpa using hsize
          case measure => simp [intOf]; omega
        · have hk80 : k = 80 := by omega
          subst hk80
          have hcs80 := Sha.cells80_of _ cs hsz hcs
          subst hcs80
          clear hcs
          go_wp2_with (first | refine wpList_load_row rfl 59 _ rfl _ rfl 59 _ (0, 0) _ hg under39 rfl (by rw [Sha.cells80_size]; exact info39) ?_ | refine wpList_store_row rfl 59 _ _ rfl _ _ rfl rfl 59 _ hg0 (by rw [Sha.cells80_size]; exact info39) (by rw [Sha.cells80_size, Sha.cells80_size]) (ShaW.cells80_one _) ?_)
          exact bodyPost_ret (v := .agg (Sha.cells80 (Sha.wd s.data.toList))) (results_cell_row Tryd.results37 _ _ _ 59 _ (0, 0) _ rfl (setRow_heap _ _ _ _ _ _ hg0) under39 rfl (by rw [Sha.cells80_size]; exact info39)) rfl ⟨rfl, ShaW.below_setRow hb (Nat.le_refl _) _⟩
end Go.Proofs.YtcfjlnceofdcdaaDoor
