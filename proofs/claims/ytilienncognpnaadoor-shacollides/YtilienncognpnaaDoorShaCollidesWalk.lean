/- The walk of the statement on collisions. -/
import Derived.Test.YtilienncognpnaaDoorRows
import Derived.Test.YtilienncognpnaaDoorShaAwake
import Derived.WalkKit
import Derived.WalkSpells
import Derived.WalkLawsBesides
import Derived.Deep.QuietTactic
import Derived.Deep.RegionWith
import Derived.Test.YtilienncognpnaaDoorTail
import Derived.BigQuiet
import Derived.Deep.WholeRow
import Derived.Lib.QuietBelow
namespace Go.Proofs.YtilienncognpnaaDoor
open Go.RowKit
open Go.Sort
set_option maxRecDepth 100000 in
set_option maxHeartbeats 1000000 in
theorem collide_ne (x y : ByteArray) (w : World) (hx : x.size ≤ 700) (hy : y.size ≤ 700) (hst : Steps w) (hne : (x.toList == y.toList) = false) :
    Calls Tryd.prog 18 #[.agg #[.string x, .string y]] w fun e w' => e = .returned (.bool (Sha.sum x.data.toList == Sha.sum y.data.toList)) ∧ Below w.heap.size w w' := by
  have Hst : Hid (Steps w) := hst
  clear hst
  go_enter Tryd.func18, Tryd.ntmps18
  go_wp2_with fail
  obtain ⟨W, hW⟩ : ∃ W, W = w.alloc (Obj.cells #[Value.string x, Value.string y] 36) := ⟨_, rfl⟩
  rw [← hW]
  have c0 := cell_regrown (show W.cell? ⟨w.heap.size, 0, none⟩ = some (.string x) by rw [hW]; simp)
  have c1 := cell_regrown (show W.cell? ⟨w.heap.size, 1, none⟩ = some (.string y) by rw [hW]; simp)
  have HS : Hid (Steps W) := by rw [hW]; exact Hst.out.alloc _
  have HW : Hid (Below w.heap.size w W) := by rw [hW]; exact (Below.refl _ _).alloc (Nat.le_refl _) _
  clear hW Hst
  have H1 : Hid (∀ d os, Calls Tryd.prog 13 #[.string x] (grow (redrawn W d) os) fun e w'' => e = .returned (.string ⟨(Sha.sum x.data.toList).toArray⟩) ∧ ∃ p : Regrown, w'' = grow (redrawn W p.d) p.os) := fun d os => Calls.regrown_of (sum_any x _ (by omega) (HS.out.below (below_regrown W d os) HS.out.pos))
  have H2 : Hid (∀ d os, Calls Tryd.prog 13 #[.string y] (grow (redrawn W d) os) fun e w'' => e = .returned (.string ⟨(Sha.sum y.data.toList).toArray⟩) ∧ ∃ p : Regrown, w'' = grow (redrawn W p.d) p.os) := fun d os => Calls.regrown_of (sum_any y _ (by omega) (HS.out.below (below_regrown W d os) HS.out.pos))
  refine wp_region_quiet_below (by kernel_rfl) (by kernel_rfl) ?_
  repeat (first | go_big_quiet_step (first | (go_at_call_of 13 (Value.string x); exact H1.out _ _) | (go_at_call_of 13 (Value.string y); exact H2.out _ _)) | quiet_step (first | (go_at_call_of 13 (Value.string x); exact H1.out _ _) | (go_at_call_of 13 (Value.string y); exact H2.out _ _)))
  refine wpQuiet_nil ?_
  rintro _ ⟨⟨dq, osq⟩, rfl⟩
  go_wp2
  go_ret
  exact ⟨rfl, HW.out.trans ((below_regrown W dq osq).mono HW.out.size)⟩
set_option maxRecDepth 100000 in
set_option maxHeartbeats 1000000 in
theorem collide_same (x : ByteArray) (w : World) :
    Calls Tryd.prog 18 #[.agg #[.string x, .string x]] w fun e w' => e = .returned (.bool false) ∧ Below w.heap.size w w' := by
  go_enter Tryd.func18, Tryd.ntmps18
  go_wp2_with fail
  obtain ⟨W, hW⟩ : ∃ W, W = w.alloc (Obj.cells #[Value.string x, Value.string x] 36) := ⟨_, rfl⟩
  rw [← hW]
  have c0 : W.cell? ⟨w.heap.size, 0, none⟩ = some (.string x) := by rw [hW]; simp
  have c1 : W.cell? ⟨w.heap.size, 1, none⟩ = some (.string x) := by rw [hW]; simp
  have HW : Hid (Below w.heap.size w W) := by rw [hW]; exact (Below.refl _ _).alloc (Nat.le_refl _) _
  clear hW
  go_quiet (fail)
  go_wp2
  go_ret
  exact ⟨rfl, below_drewN HW.out _⟩
theorem toList_ne {x y : ByteArray} (h : x ≠ y) : (x.toList == y.toList) = false := by
  rw [beq_eq_false_iff_ne]
  intro e
  apply h
  rw [ByteArray.toList_eq, ByteArray.toList_eq] at e
  exact ByteArray.ext (Array.toList_inj.1 e)
set_option maxRecDepth 100000 in
set_option maxHeartbeats 1000000 in
theorem collides_any (a b : ByteArray) (w : World) (ha : a.size ≤ maxLen) (hb : b.size ≤ maxLen) (hst : Steps w) :
    Calls Tryd.prog 6 #[.string a, .string b] w fun e w' => e = .returned (.bool true) ∧ Below w.heap.size w w' := by
  have h7a := Sha.few_size a
  have h7b := Sha.few_size b
  have h0 := hst.pos
  have Hst : Hid (Steps w) := hst
  have CA := few_any a
  have CB := few_any b
  generalize Sha.few a = x at *
  generalize Sha.few b = y at *
  have HCA : Hid (∀ w, a.size ≤ maxLen → Calls Tryd.prog 7 #[.string a] w fun e w' => e = .returned (.string x) ∧ w' = w) := CA
  have HCB : Hid (∀ w, b.size ≤ maxLen → Calls Tryd.prog 7 #[.string b] w fun e w' => e = .returned (.string y) ∧ w' = w) := CB
  clear hst CA CB
  by_cases hxy : x = y
  · subst hxy
    go_enter Tryd.func6, Tryd.ntmps6
    go_wp2_with fail
    refine (HCA.out _ ha).mono ?_
    rintro e w2 ⟨rfl, rfl⟩
    go_wp2_with fail
    refine (HCB.out _ hb).mono ?_
    rintro e w2 ⟨rfl, rfl⟩
    go_wp2_with fail
    refine (awake_any _ Hst.out).mono ?_
    rintro e w1 ⟨rfl, hb1⟩
    go_wp2_with fail
    refine (collide_same x _).mono ?_
    rintro e w3 ⟨rfl, hb3⟩
    go_wp2_with fail
    refine (collide_same x _).mono ?_
    rintro e w4 ⟨rfl, hb4⟩
    go_wp2
    go_ret
    exact ⟨rfl, (hb1.trans (hb3.mono hb1.size)).trans (hb4.mono (Nat.le_trans hb1.size hb3.size))⟩
  · have hne := toList_ne hxy
    have HNE : Hid ((x.toList == y.toList) = false) := hne
    go_enter Tryd.func6, Tryd.ntmps6
    go_wp2_with fail
    refine (HCA.out _ ha).mono ?_
    rintro e w2 ⟨rfl, rfl⟩
    go_wp2_with fail
    refine (HCB.out _ hb).mono ?_
    rintro e w2 ⟨rfl, rfl⟩
    go_wp2_with fail
    refine (awake_any _ Hst.out).mono ?_
    rintro e w1 ⟨rfl, hb1⟩
    go_wp2_with fail
    refine (collide_ne x y _ h7a h7b (Steps.by hb1 h0 Hst.out) HNE.out).mono ?_
    rintro e w3 ⟨rfl, hb3⟩
    go_wp2_with fail
    refine (rsum_any x _ (by omega)).mono ?_
    rintro e w4 ⟨rfl, hb4⟩
    go_wp2_with fail
    refine (rsum_any y _ (by omega)).mono ?_
    rintro e w5 ⟨rfl, hb5⟩
    go_wp2_with fail
    refine (collide_same x _).mono ?_
    rintro e w6 ⟨rfl, hb6⟩
    go_wp2
    go_ret
    have h3 := Nat.le_trans hb1.size hb3.size
    have h4 := Nat.le_trans h3 hb4.size
    have h5 := Nat.le_trans h4 hb5.size
    exact ⟨rfl, (((hb1.trans (hb3.mono hb1.size)).trans (hb4.mono h3)).trans (hb5.mono h4)).trans (hb6.mono h5)⟩
end Go.Proofs.YtilienncognpnaaDoor
