/- Contracts of the document's reader: a value, and the reader behind each call. -/
import Derived.Test.YtcdmdpafkiljdaaGreatDoorWireValue
import Derived.Laws.ResultCell
namespace Go.Wire
open Go.RowKit
/-- A reader as a value. -/
def St.v (q : St) : Value := .agg #[.string q.s, .int .i64 q.pos, .int .i64 q.err]
theorem results_cell2_row {P : Program} {fn : Func} {p u : Tmp} {ty : TypeId} (h : fn.results = #[.cell p ty, .tmp u]) (tmps : Array Value) (w : World) (g : Nat) (t : TypeId) (cs : Array Value) (fr : Nat × Nat) (d : TypeDesc)
    (hp : tmps.getD p undef = .pointer (some ⟨g, 0, none⟩)) (hg : w.heap[g]? = some (.cells cs t fr))
    (hu : P.underlying ty = some d) (hd : (match d with | .struct _ | .array _ _ => true | _ => false) = true) (hi : (P.info? ty).map (·.size) = some cs.size) :
    (results fn tmps).run P w = .ok (.tuple #[.agg cs, tmps.getD u undef]) w := by
  rw [results_cell_tmp h, hp]
  simp [asAddr, Result.andThen, run_loadVar_row w g t ty cs fr d hg hu hd hi]
theorem cells3 {w : World} {g : Nat} {a b c : Value} {T : TypeId} (h : w.heap[g]? = some (.cells #[a, b, c] T (0, 0))) :
    w.cell? ⟨g, 0, none⟩ = some a ∧ w.cell? ⟨g, 1, none⟩ = some b ∧ w.cell? ⟨g, 2, none⟩ = some c ∧ w.frozen? ⟨g, 0, none⟩ = false ∧ w.frozen? ⟨g, 1, none⟩ = false ∧ w.frozen? ⟨g, 2, none⟩ = false :=
  ⟨cell_of_row _ _ _ _ _ _ h, cell_of_row _ _ _ _ _ _ h, cell_of_row _ _ _ _ _ _ h, frozen_of_row _ _ _ _ _ h, frozen_of_row _ _ _ _ _ h, frozen_of_row _ _ _ _ _ h⟩
theorem set3 {w : World} {g : Nat} {a b c : Value} {T : TypeId} (h : w.heap[g]? = some (.cells #[a, b, c] T (0, 0))) (x y z : Value) :
    (((w.setCell ⟨g, 0, none⟩ x).setCell ⟨g, 1, none⟩ y).setCell ⟨g, 2, none⟩ z).heap[g]? = some (.cells #[x, y, z] T (0, 0)) := by
  have h1 : (w.setCell ⟨g, 0, none⟩ x).heap[g]? = some (.cells #[x, b, c] T (0, 0)) := by rw [heap_setCell_same _ _ _ _ _ _ h]; rfl
  have h2 : ((w.setCell ⟨g, 0, none⟩ x).setCell ⟨g, 1, none⟩ y).heap[g]? = some (.cells #[x, y, c] T (0, 0)) := by rw [heap_setCell_same _ _ _ _ _ _ h1]; rfl
  rw [heap_setCell_same _ _ _ _ _ _ h2]; rfl
theorem below3 {B g : Nat} {w w1 : World} (h : Below B w w1) (hg : B ≤ g) (x y z : Value) : Below B w (((w1.setCell ⟨g, 0, none⟩ x).setCell ⟨g, 1, none⟩ y).setCell ⟨g, 2, none⟩ z) :=
  ((h.setCell (p := ⟨g, 0, none⟩) hg x).setCell (p := ⟨g, 1, none⟩) hg y).setCell (p := ⟨g, 2, none⟩) hg z
theorem kept_block {w w1 : World} {g : Nat} {o : Obj} (h : w.heap[g]? = some o) (k : Below w.heap.size w w1) : w1.heap[g]? = some o :=
  (k.block g (by
    rcases Nat.lt_or_ge g w.heap.size with x | x
    · exact x
    · rw [Array.getElem?_eq_none x] at h; cases h)).trans h
theorem kept_alloc {w : World} {g : Nat} {o : Obj} (h : w.heap[g]? = some o) (C : Obj) : (w.alloc C).heap[g]? = some o :=
  kept_block h ((Below.refl _ _).alloc (Nat.le_refl _) C)
/-- What two new blocks are behind a call. -/
theorem two_below {w w1 : World} {A B : Obj} (k : Below ((w.alloc A).alloc B).heap.size ((w.alloc A).alloc B) w1) : w1.heap[w.heap.size]? = some A ∧ w1.heap[w.heap.size + 1]? = some B ∧ Below w.heap.size w w1 := by
  have hz : ((w.alloc A).alloc B).heap.size = w.heap.size + 2 := by simp
  refine ⟨(k.block _ (by omega)).trans (heap_alloc2_old _ _ _), (k.block _ (by omega)).trans (heap_alloc2_new _ _ _), ?_⟩
  exact (((Below.refl w.heap.size w).alloc (Nat.le_refl _) A).alloc (by simp) B).trans (k.mono (by omega))
end Go.Wire
namespace Go.Proofs.YtcdmdpafkiljdaaGreatDoor
open Go.RowKit Go.Wire
theorem infoRef : (Tryz.prog.info? 72).map (·.size) = some 3 := by kernel_rfl
set_option maxHeartbeats 400000 in
theorem with_any (s : ByteArray) (p : Nat) (err x : Int) (w : World) :
    Calls Tryz.prog 76 #[.agg #[.string s, .int .i64 p, .int .i64 err], .int .i64 x] w fun e w' => e = .returned (.agg #[.string s, .int .i64 p, .int .i64 x]) ∧ Below w.heap.size w w' := by
  go_enter Tryz.func76, Tryz.ntmps76
  go_wp2
  exact bodyPost_ret (results_cell_row Tryz.results76 _ _ _ _ _ (0, 0) _ rfl (heap_alloc2_new _ _ _) Tryz.underlying72 rfl infoRef) rfl ⟨rfl, ((Below.refl _ _).alloc (Nat.le_refl _) _).alloc (by simp) _⟩
set_option maxHeartbeats 1000000 in
theorem rbytes_any (q : St) (n : Int) (w : World) (hq : q.pos ≤ q.s.size) (hs : q.s.size ≤ maxLen) :
    Calls Tryz.prog 36 #[q.v, .int .i64 n] w fun e w' => e = .returned (.tuple #[(q.bytes n).1.v, .string (q.bytes n).2]) ∧ Below w.heap.size w w' := by
  have hs2 : q.s.size ≤ 9223372036854775807 := hs
  by_cases he : q.err = 0
  · obtain ⟨s, p, err⟩ := q
    simp only at he hq hs hs2
    subst he
    by_cases hn : n < 0
    · rw [St.bytes_neg _ n hn, St.fail, if_pos rfl]
      unfold St.v
      go_enter Tryz.func36, Tryz.ntmps36
      go_wp2_with (go_at_call 76; refine (with_any _ _ _ _ _).mono ?_; rintro e w1 ⟨rfl, k1⟩; obtain ⟨ha, hb, k0⟩ := two_below k1; obtain ⟨c0, c1, c2, f0, f1, f2⟩ := cells3 hb)
      exact bodyPost_ret (results_cell2_row Tryz.results36 _ _ _ _ _ (0, 0) _ rfl (set3 (by assumption) _ _ _) Tryz.underlying72 rfl infoRef) rfl ⟨rfl, below3 (by assumption) (Nat.le_succ _) _ _ _⟩
    · by_cases hl : (s.size : Int) - p < n
      · rw [St.bytes_cut _ n hn hl, St.fail, if_pos rfl]
        unfold St.v
        go_enter Tryz.func36, Tryz.ntmps36
        go_wp2_with (go_at_call 76; refine (with_any _ _ _ _ _).mono ?_; rintro e w1 ⟨rfl, k1⟩; obtain ⟨ha, hb, k0⟩ := two_below k1; obtain ⟨c0, c1, c2, f0, f1, f2⟩ := cells3 hb)
        exact bodyPost_ret (results_cell2_row Tryz.results36 _ _ _ _ _ (0, 0) _ rfl (set3 (by assumption) _ _ _) Tryz.underlying72 rfl infoRef) rfl ⟨rfl, below3 (by assumption) (Nat.le_succ _) _ _ _⟩
      · obtain ⟨m, rfl⟩ : ∃ m : Nat, n = m := ⟨n.toNat, by omega⟩
        rw [St.bytes_ok _ _ rfl hn hl]
        have hm : p + m ≤ s.size := by omega
        unfold St.v
        go_enter Tryz.func36, Tryz.ntmps36
        go_wp2
        go_region
        go_wp2
        exact bodyPost_ret (results_cell2_row Tryz.results36 _ _ _ _ _ (0, 0) _ rfl (heap_alloc2_new _ _ _) Tryz.underlying72 rfl infoRef) rfl ⟨rfl, (((Below.refl _ _).alloc (Nat.le_refl _) _).alloc (by simp) _).drew⟩
  · rw [St.bytes_err q n he]
    unfold St.v
    go_enter Tryz.func36, Tryz.ntmps36
    go_wp2
    exact bodyPost_ret (results_cell2_row Tryz.results36 _ _ _ _ _ (0, 0) _ rfl (heap_alloc2_new _ _ _) Tryz.underlying72 rfl infoRef) rfl ⟨rfl, ((Below.refl _ _).alloc (Nat.le_refl _) _).alloc (by simp) _⟩
end Go.Proofs.YtcdmdpafkiljdaaGreatDoor
