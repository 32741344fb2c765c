/- Contracts: whether a fall that was laid takes the power; a change. -/
import Derived.Test.YtnjkahoaogeecaaDiskCrash
import Derived.Lib.SliceRun
namespace Go.Dk
open Go.RowKit
/-- Does a fall take the power ahead of the next change? -/
def A.hit (a : A) : Option Fall := match a.fall with | some f => if f.on = a.changes then some f else none | none => none
end Go.Dk
namespace Go.Proofs.Ytnjkahoaogeecaa
open Go.RowKit Go.Dk
set_option maxHeartbeats 400000 in
theorem pred_any (g d : Nat) (f : Fall) (ch : Int) (w : World) (h0 : w.cell? ⟨g, 0, none⟩ = some (.pointer (some ⟨d, 0, none⟩))) (h2 : w.cell? ⟨d, 2, none⟩ = some (.int .i64 ch)) :
    Calls Try.prog 73 #[.agg #[.int .i64 f.on, .int .i64 f.keep, .int .i64 f.torn], .pointer (some ⟨g, 0, none⟩)] w fun e w' => e = .returned (.bool (f.on == ch)) ∧ Below w.heap.size w w' := by
  have hg := World.block_lt_of_cell? w _ h0
  have hd := World.block_lt_of_cell? w _ h2
  simp only at hg hd
  have hg' : g ≠ w.heap.size := by omega
  have hd' : d ≠ w.heap.size := by omega
  go_enter Try.func73, Try.ntmps73
  go_wp2
  go_quiet (fail)
  go_wp2
  go_ret
  exact ⟨rfl, ((Below.refl _ _).alloc (Nat.le_refl _) _).trans ⟨rfl, rfl, rfl, Nat.le_refl _, fun _ _ => rfl⟩⟩
set_option maxHeartbeats 400000 in
theorem idx_zero (a : Option Addr) (c : Nat) (fv : Value) (w : World) :
    Calls Try.prog 72 #[.slice a 0 c, fv] w fun e w' => e = .returned (.int .i64 (-1)) ∧ w' = w := by
  go_enter Try.func72, Try.ntmps72
  go_wp2
  refine wp_loop_rounds 1 ?_
  rw [rounds_succ]
  go_wp2
  go_ret
  exact ⟨rfl, rfl⟩
set_option maxHeartbeats 400000 in
theorem idx_one (p cap g d : Nat) (f : Fall) (ch : Int) (w : World) (p0 : w.cell? ⟨p, 0, none⟩ = some (.int .i64 f.on)) (p1 : w.cell? ⟨p, 1, none⟩ = some (.int .i64 f.keep)) (p2 : w.cell? ⟨p, 2, none⟩ = some (.int .i64 f.torn))
    (h0 : w.cell? ⟨g, 0, none⟩ = some (.pointer (some ⟨d, 0, none⟩))) (h2 : w.cell? ⟨d, 2, none⟩ = some (.int .i64 ch)) :
    Calls Try.prog 72 #[.slice (some ⟨p, 0, none⟩) 1 cap, .func (.func 73) #[] #[.pointer (some ⟨g, 0, none⟩)]] w fun e w' => e = .returned (.int .i64 (if f.on = ch then 0 else -1)) ∧ Below w.heap.size w w' := by
  have HP := hide (pred_any g d f ch w h0 h2)
  by_cases he : f.on = ch
  · rw [if_pos he]
    have hb : (f.on == ch) = true := by simpa using he
    rw [hb] at HP
    clear he hb h0 h2
    go_enter Try.func72, Try.ntmps72
    go_wp2
    refine wp_loop_rounds 1 ?_
    rw [rounds_succ]
    go_wp2_with (go_at_call 73; refine HP.out.mono ?_; rintro e w1 ⟨rfl, k1⟩)
    go_ret
    exact ⟨rfl, k1⟩
  · rw [if_neg he]
    have hb : (f.on == ch) = false := by simpa using he
    rw [hb] at HP
    clear he hb h0 h2
    go_enter Try.func72, Try.ntmps72
    go_wp2
    refine wp_loop_rounds 2 ?_
    rw [rounds_succ]
    go_wp2_with (go_at_call 73; refine HP.out.mono ?_; rintro e w1 ⟨rfl, k1⟩)
    rw [rounds_succ]
    go_wp2
    go_ret
    exact ⟨rfl, k1⟩
set_option maxHeartbeats 1000000 in
theorem strike_calm (base K d : Nat) (S : WD) (w : World) (h : DiskAt Try.prog base K d w S) (hh : S.a.hit = none) :
    Calls Try.prog 61 #[.pointer (some ⟨d, 0, none⟩)] w fun e w' => e = .returned (.bool false) ∧ Below w.heap.size w w' := by
  have hrow := h.row
  unfold drow at hrow
  obtain ⟨-, c1, c2, -, -, -, -⟩ := cells6 hrow
  have hd := h.lt
  have hd' : d ≠ w.heap.size := by omega
  have hplan := h.plan
  clear h hrow
  unfold A.hit at hh
  cases hf : S.a.fall with
  | none =>
    rw [hf] at hplan
    obtain ⟨a, c, hv⟩ := row_form hplan
    rw [hv] at c1
    simp only [flen] at c1
    clear hplan hv
    go_enter Try.func61, Try.ntmps61
    go_wp2_with (go_at_call 72; refine (idx_zero a c _ _).mono ?_; rintro e w1 ⟨rfl, rfl⟩)
    go_ret
    exact ⟨rfl, (Below.refl _ _).alloc (Nat.le_refl _) _⟩
  | some f =>
    rw [hf] at hplan hh
    have hne : f.on ≠ S.a.changes := fun e => by simp [e] at hh
    simp only [flen, fcells] at hplan
    rcases hplan.2 with ⟨_, h0⟩ | ⟨p, cap, cur, hv, hbp, hg, hle, _, hsz, htk⟩
    · omega
    · rw [hv] at c1
      have hp := block_lt hg
      have hp' : p ≠ w.heap.size := by omega
      have q0 : w.cell? ⟨p, 0, none⟩ = some (.int .i64 f.on) := by rw [cell_of_row _ _ _ _ _ _ hg, ← Array.getElem?_toList]; have : (cur.toList.take (1 * 3))[0]? = some (.int .i64 f.on) := by rw [htk]; rfl
                                                                   rwa [List.getElem?_take_of_lt (by omega)] at this
      have q1 : w.cell? ⟨p, 1, none⟩ = some (.int .i64 f.keep) := by rw [cell_of_row _ _ _ _ _ _ hg, ← Array.getElem?_toList]; have : (cur.toList.take (1 * 3))[1]? = some (.int .i64 f.keep) := by rw [htk]; rfl
                                                                     rwa [List.getElem?_take_of_lt (by omega)] at this
      have q2 : w.cell? ⟨p, 2, none⟩ = some (.int .i64 f.torn) := by rw [cell_of_row _ _ _ _ _ _ hg, ← Array.getElem?_toList]; have : (cur.toList.take (1 * 3))[2]? = some (.int .i64 f.torn) := by rw [htk]; rfl
                                                                     rwa [List.getElem?_take_of_lt (by omega)] at this
      have HI := hide (idx_one p cap w.heap.size d f S.a.changes (w.alloc (.cells #[.pointer (some ⟨d, 0, none⟩)] 23)) (Lib.cell?_alloc_some _ q0) (Lib.cell?_alloc_some _ q1) (Lib.cell?_alloc_some _ q2) (by rw [cell_of_row _ _ _ _ _ _ (heap_alloc_new w _)]; rfl) (Lib.cell?_alloc_some _ c2))
      rw [if_neg hne] at HI
      clear hplan hv hg hsz htk q0 q1 q2 hh
      go_enter Try.func61, Try.ntmps61
      go_wp2_with (go_at_call 72; refine HI.out.mono ?_; rintro e w1 ⟨rfl, k1⟩)
      go_ret
      exact ⟨rfl, ((Below.refl _ _).alloc (Nat.le_refl _) _).trans (k1.mono (by simp))⟩
end Go.Proofs.Ytnjkahoaogeecaa
