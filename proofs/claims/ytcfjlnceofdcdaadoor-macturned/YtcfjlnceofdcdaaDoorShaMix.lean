/- The contract of the mixing of a block of 128 bytes into the eight numbers. -/
import Derived.Test.YtcfjlnceofdcdaaDoorRows
import Derived.Test.YtcfjlnceofdcdaaDoorShaSpread
import Derived.WalkKit
import Derived.WalkSpells
import Derived.WalkLawsBesides
import Derived.Deep.QuietTactic
import Derived.Deep.RegionWith
import Derived.Test.YtcfjlnceofdcdaaDoorTail
import Derived.BigQuiet
import Derived.Deep.WholeRow
namespace Go.Proofs.YtcfjlnceofdcdaaDoor
open Go.RowKit
/-- The numbers of the steps lie where the program laid them. -/
def Steps (w : World) : Prop := ∃ (st : TypeId) (sf : Nat × Nat), w.heap[0]? = some (.cells (Sha.cells80 Sha.kk) st sf)
theorem Steps.pos {w : World} (h : Steps w) : 0 < w.heap.size := by
  obtain ⟨st, sf, h⟩ := h
  rcases Nat.lt_or_ge 0 w.heap.size with h0 | h0
  · exact h0
  · rw [Array.getElem?_eq_none h0] at h; cases h
theorem Steps.below {w w' : World} {B : Nat} (h : Steps w) (hb : Below B w w') (hB : 0 < B) : Steps w' := by
  obtain ⟨st, sf, h⟩ := h
  exact ⟨st, sf, (hb.block 0 hB).trans h⟩
theorem Steps.by {w w' : World} {B : Nat} (hb : Below B w w') (hB : 0 < B) (h : Steps w) : Steps w' := h.below hb hB
theorem Steps.alloc {w : World} (h : Steps w) (o : Obj) : Steps (w.alloc o) := h.below ((Below.refl _ _).alloc (Nat.le_refl _) o) h.pos
theorem info23 : (Tryd.prog.info? 52).map (·.size) = some 8 := by kernel_rfl
theorem under23 : Tryd.prog.underlying 52 = some (.array 8 51) := by kernel_rfl
theorem ShaW.cell {W : World} {g j : Nat} {cs : Array Value} {t : TypeId} {fr : Nat × Nat} (hg : W.heap[g]? = some (.cells cs t fr)) {v : Value} (h : cs[j]? = some v) : W.cell? ⟨g, j, none⟩ = some v := by
  rw [cell_of_row _ _ _ _ _ _ hg]; exact h
set_option maxRecDepth 100000 in
set_option maxHeartbeats 1000000 in
theorem mix_any (a b c d e f g h : Int) (s : ByteArray) (w : World) (hs : s.size = 128) (hst : Steps w) :
    Calls Tryd.prog 32 #[.agg #[.int .u64 a, .int .u64 b, .int .u64 c, .int .u64 d, .int .u64 e, .int .u64 f, .int .u64 g, .int .u64 h], .string s] w fun e1 w' => e1 = .returned (.agg (Sha.mix ⟨a, b, c, d, e, f, g, h⟩ s.data.toList).cells) ∧ Below w.heap.size w w' := by
  have hs2 : (s.size : Int) = 128 := by omega
  have hz := (zero_of_info zero39).1
  obtain ⟨st, sf, hst⟩ := hst
  have Hst : Hid (w.heap[0]? = some (.cells (Sha.cells80 Sha.kk) st sf)) := hst
  clear hst
  go_enter Tryd.func32, Tryd.ntmps32
  go_wp2_with fail
  refine (spread_any _ _ hs).mono ?_
  rintro ee w1 ⟨rfl, hb⟩
  go_wp2_with (refine wpList_store_row rfl 59 _ _ rfl _ _ rfl rfl 59 _ (heap_alloc_new _ _) (by rw [Sha.cells80_size]; exact info39) (by rw [Sha.cells80_size, Sha.cells80_size]) (ShaW.cells80_one _) ?_)
  rw [World.setRow_alloc_new]
  generalize hW : w1.alloc (Obj.cells (Sha.cells80 (Sha.wd s.data.toList)) 59) = W
  have hz1 : w.heap.size + 2 ≤ w1.heap.size := by have := hb.size; simpa using this
  have hWn : W.heap[w1.heap.size]? = some (.cells (Sha.cells80 (Sha.wd s.data.toList)) 59 (0, 0)) := by rw [← hW]; exact heap_alloc_new _ _
  have old : ∀ i, i < w.heap.size + 2 → W.heap[i]? = (((w.alloc (Obj.cells #[Value.int IntKind.u64 a, Value.int IntKind.u64 b, Value.int IntKind.u64 c, Value.int IntKind.u64 d, Value.int IntKind.u64 e, Value.int IntKind.u64 f, Value.int IntKind.u64 g, Value.int IntKind.u64 h] 52)).alloc (Obj.cells #[Value.int IntKind.u64 0, Value.int IntKind.u64 0, Value.int IntKind.u64 0, Value.int IntKind.u64 0, Value.int IntKind.u64 0, Value.int IntKind.u64 0, Value.int IntKind.u64 0, Value.int IntKind.u64 0] 52)).heap)[i]? := by
    intro i hi
    rw [← hW, heap_alloc_old _ _ (by omega)]
    exact hb.block i (by simpa using hi)
  have hWh := (old w.heap.size (by omega)).trans (heap_alloc2_old _ _ _)
  have hWr := (old (w.heap.size + 1) (by omega)).trans (heap_alloc2_new _ _ _)
  have h0lt : 0 < w.heap.size := by
    have := Hst.out
    rcases Nat.lt_or_ge 0 w.heap.size with h0 | h0
    · exact h0
    · rw [Array.getElem?_eq_none h0] at this; cases this
  have hW0 : W.heap[0]? = some (.cells (Sha.cells80 Sha.kk) st sf) := by
    rw [old 0 (by omega), heap_alloc_old _ _ (by rw [World.size_alloc]; omega), heap_alloc_old _ _ h0lt]; exact Hst.out
  have hbW : Below w.heap.size w W := by
    rw [← hW]
    exact ((((Below.refl _ _).alloc (Nat.le_refl _) _).alloc (by simp) _).trans (hb.mono (by simp; omega))).alloc (by omega) _
  clear hW hb old Hst hz
  have c0 := ShaW.cell (j := 0) hWh rfl
  have c1 := ShaW.cell (j := 1) hWh rfl
  have c2 := ShaW.cell (j := 2) hWh rfl
  have c3 := ShaW.cell (j := 3) hWh rfl
  have c4 := ShaW.cell (j := 4) hWh rfl
  have c5 := ShaW.cell (j := 5) hWh rfl
  have c6 := ShaW.cell (j := 6) hWh rfl
  have c7 := ShaW.cell (j := 7) hWh rfl
  have HW : Hid (W.heap[w1.heap.size]? = some (.cells (Sha.cells80 (Sha.wd s.data.toList)) 59 (0, 0)) ∧ W.heap[0]? = some (.cells (Sha.cells80 Sha.kk) st sf) ∧ W.heap[w.heap.size + 1]? = some (Obj.cells #[Value.int IntKind.u64 0, Value.int IntKind.u64 0, Value.int IntKind.u64 0, Value.int IntKind.u64 0, Value.int IntKind.u64 0, Value.int IntKind.u64 0, Value.int IntKind.u64 0, Value.int IntKind.u64 0] 52) ∧ Below w.heap.size w W) := ⟨hWn, hW0, hWr, hbW⟩
  clear hWn hW0 hWr hbW hWh
  go_wp2_with fail
  go_quiet (fail)
  go_wp2_with fail
  go_loopw [6, 7, 8, 9, 10, 11, 12, 13, 39] (fun va vb vc vd ve vf vg vh vi wr => ∃ (k : Nat) (t : Sha.St), k ≤ 80 ∧ vi = .int .i64 k ∧ Hid (t = Sha.steps Sha.kk (Sha.wd s.data.toList) ⟨a, b, c, d, e, f, g, h⟩ k) ∧ va = .int .u64 t.a ∧ vb = .int .u64 t.b ∧ vc = .int .u64 t.c ∧ vd = .int .u64 t.d ∧ ve = .int .u64 t.e ∧ vf = .int .u64 t.f ∧ vg = .int .u64 t.g ∧ vh = .int .u64 t.h ∧ Hid (∃ n, wr = W.drewN n)) (fun _ _ _ _ _ _ _ _ vi _ => 80 - (intOf vi).toNat)
  case atStart => exact ⟨0, _, by omega, rfl, rfl, rfl, rfl, rfl, rfl, rfl, rfl, rfl, rfl, nq, rfl⟩
  case round =>
    obtain ⟨k, t, hk, rfl, ht, rfl, rfl, rfl, rfl, rfl, rfl, rfl, rfl, hwr⟩ := hrel
    by_cases hlt : k < 80
    · have cw : wr.cell? ⟨w1.heap.size, k, none⟩ = some (.int .u64 (Sha.wd s.data.toList k)) := by
        obtain ⟨n, rfl⟩ := hwr.out
        exact ShaW.cell (W := W.drewN n) HW.out.1 (Sha.cells80_at _ _ hlt)
      have ck : wr.cell? ⟨0, k, none⟩ = some (.int .u64 (Sha.kk k)) := by
        obtain ⟨n, rfl⟩ := hwr.out
        exact ShaW.cell (W := W.drewN n) HW.out.2.1 (Sha.cells80_at _ _ hlt)
      clear c0 c1 c2 c3 c4 c5 c6 c7
      go_wp2_with fail
      go_quiet ((go_at_call 38; exact Calls.quiet_of_same (turn_any _ _ _ _ _ (by omega) (by omega) (by omega) (by omega) (by omega) (by omega))))
      go_wp2_with (go_at_call 38; refine (turn_any _ _ _ _ _ (by omega) (by omega) (by omega) (by omega) (by omega) (by omega)).mono ?_; rintro e w' ⟨rfl, rfl⟩)
      go_roundw
      case rel =>
        exact ⟨k + 1, Sha.step t (Sha.kk k) (Sha.wd s.data.toList k), by omega, by go_num, by rw [ht.out]; rfl, rfl, rfl, rfl, rfl, rfl, rfl, rfl, rfl, by obtain ⟨n, rfl⟩ := hwr.out; exact ⟨_, World.drewN_drewN _ _ _⟩⟩
      case measure => simp [intOf]; omega
    · have hk80 : k = 80 := by omega
      subst hk80
      have d0 : wr.cell? ⟨w.heap.size, 0, none⟩ = some (.int .u64 a) := by obtain ⟨n, rfl⟩ := hwr.out; exact c0
      have d1 : wr.cell? ⟨w.heap.size, 1, none⟩ = some (.int .u64 b) := by obtain ⟨n, rfl⟩ := hwr.out; exact c1
      have d2 : wr.cell? ⟨w.heap.size, 2, none⟩ = some (.int .u64 c) := by obtain ⟨n, rfl⟩ := hwr.out; exact c2
      have d3 : wr.cell? ⟨w.heap.size, 3, none⟩ = some (.int .u64 d) := by obtain ⟨n, rfl⟩ := hwr.out; exact c3
      have d4 : wr.cell? ⟨w.heap.size, 4, none⟩ = some (.int .u64 e) := by obtain ⟨n, rfl⟩ := hwr.out; exact c4
      have d5 : wr.cell? ⟨w.heap.size, 5, none⟩ = some (.int .u64 f) := by obtain ⟨n, rfl⟩ := hwr.out; exact c5
      have d6 : wr.cell? ⟨w.heap.size, 6, none⟩ = some (.int .u64 g) := by obtain ⟨n, rfl⟩ := hwr.out; exact c6
      have d7 : wr.cell? ⟨w.heap.size, 7, none⟩ = some (.int .u64 h) := by obtain ⟨n, rfl⟩ := hwr.out; exact c7
      have hWr : Hid (wr.heap[w.heap.size + 1]? = some (Obj.cells #[Value.int IntKind.u64 0, Value.int IntKind.u64 0, Value.int IntKind.u64 0, Value.int IntKind.u64 0, Value.int IntKind.u64 0, Value.int IntKind.u64 0, Value.int IntKind.u64 0, Value.int IntKind.u64 0] 52)) := by obtain ⟨n, rfl⟩ := hwr.out; exact HW.out.2.2.1
      clear c0 c1 c2 c3 c4 c5 c6 c7
      go_wp2_with (refine wpList_store_row rfl 52 _ _ rfl _ _ rfl rfl 52 _ hWr.out (by exact info23) (by rfl) (by simp [Value.oneCell']) ?_)
      have hv : (Sha.mix ⟨a, b, c, d, e, f, g, h⟩ s.data.toList).cells = (Sha.St.plus ⟨a, b, c, d, e, f, g, h⟩ t).cells := by rw [ht.out]; rfl
      rw [hv]
      exact bodyPost_ret (v := .agg (Sha.St.plus ⟨a, b, c, d, e, f, g, h⟩ t).cells) (results_cell_row Tryd.results32 _ _ _ 52 _ (0, 0) _ rfl (setRow_heap _ _ _ _ _ _ hWr.out) under23 rfl (by exact info23)) rfl ⟨rfl, by obtain ⟨n, rfl⟩ := hwr.out; exact ShaW.below_setRow (below_drewN HW.out.2.2.2 n) (by omega) _⟩
end Go.Proofs.YtcfjlnceofdcdaaDoor
