/- The walk of the statement on the numbers behind a block. -/
import Derived.Test.YtilienncognpnaaDoorRows
import Derived.Test.YtilienncognpnaaDoorShaAwake
import Derived.WalkKit
import Derived.WalkSpells
import Derived.WalkLawsBesides
import Derived.Deep.QuietTactic
import Derived.Deep.RegionWith
import Derived.Test.YtilienncognpnaaDoorTail
import Derived.BigQuiet
import Derived.Deep.WholeRow
import Derived.Lib.QuietBelow
namespace Go.Proofs.YtilienncognpnaaDoor
open Go.RowKit
open Go.Sort
theorem eq8 (u : Sha.St) (w : World) : (Op.equalIn 10000 23 (.agg u.cells) (.agg u.cells)).run Tryd.prog w = .ok true w := by
  have hu := run_underlying (P := Tryd.prog) under23
  have hs : ∀ w, (sizeOf 22).run Tryd.prog w = .ok 1 w := fun _ => by kernel_rfl
  have p0 : ∀ w, (part 22 u.cells 0).run Tryd.prog w = .ok (.int .u64 u.a) w := fun _ => by kernel_rfl
  have p1 : ∀ w, (part 22 u.cells 1).run Tryd.prog w = .ok (.int .u64 u.b) w := fun _ => by kernel_rfl
  have p2 : ∀ w, (part 22 u.cells 2).run Tryd.prog w = .ok (.int .u64 u.c) w := fun _ => by kernel_rfl
  have p3 : ∀ w, (part 22 u.cells 3).run Tryd.prog w = .ok (.int .u64 u.d) w := fun _ => by kernel_rfl
  have p4 : ∀ w, (part 22 u.cells 4).run Tryd.prog w = .ok (.int .u64 u.e) w := fun _ => by kernel_rfl
  have p5 : ∀ w, (part 22 u.cells 5).run Tryd.prog w = .ok (.int .u64 u.f) w := fun _ => by kernel_rfl
  have p6 : ∀ w, (part 22 u.cells 6).run Tryd.prog w = .ok (.int .u64 u.g) w := fun _ => by kernel_rfl
  have p7 : ∀ w, (part 22 u.cells 7).run Tryd.prog w = .ok (.int .u64 u.h) w := fun _ => by kernel_rfl
  have he : ∀ (x : Int) w, (Op.equalIn 9999 22 (.int .u64 x) (.int .u64 x)).run Tryd.prog w = .ok true w := fun x w => by
    have := run_equalIn_int (P := Tryd.prog) w 9998 22 .u64 .u64 x x Tryd.underlying22
    simpa using this
  rw [show (10000 : Nat) = 9998 + 1 + 1 from rfl, Op.equalIn]
  simp [Sem.run_bind, hu, hs, Std.Legacy.Range.forIn_eq_forIn_range', List.range', Result.andThen, he, p0, p1, p2, p3, p4, p5, p6, p7]
set_option maxRecDepth 100000 in
set_option maxHeartbeats 1000000 in
theorem mixes_any (h : Sha.St) (s : ByteArray) (w : World) (hs : s.size ≤ maxLen) (hst : Steps w) :
    Calls Tryd.prog 3 #[.agg #[.int .u64 h.a, .int .u64 h.b, .int .u64 h.c, .int .u64 h.d, .int .u64 h.e, .int .u64 h.f, .int .u64 h.g, .int .u64 h.h], .string s] w fun e w' => e = .returned (.bool true) ∧ Below w.heap.size w w' := by
  have h7 := Sha.few_size s
  have Hst : Hid (Steps w) := hst
  clear hst
  go_enter Tryd.func3, Tryd.ntmps3
  go_wp2_with fail
  refine (few_any s _ hs).mono ?_
  rintro e w2 ⟨rfl, rfl⟩
  generalize Sha.few s = t at *
  have ht : (t.size : Int) ≤ 700 := by omega
  go_wp2_with fail
  go_loop [6] (fun v => ∃ r : ByteArray, v = .string r ∧ r.size ≤ 1000 ∧ t.size ≤ r.size) (fun v => match v with | .string r => 200 - r.size | _ => 0)
  case atStart => exact ⟨t, rfl, by omega, Nat.le_refl _⟩
  case round =>
    obtain ⟨r, rfl, hr, htr⟩ := hrel
    by_cases hlt : r.size < 128
    · go_wp2
      go_round
      case rel => exact ⟨_, rfl, by rw [Sha.app_size]; show r.size + 1 ≤ 1000; omega, by rw [Sha.app_size]; show t.size ≤ r.size + 1; omega⟩
      case measure => show 200 - (r ++ (⟨#[0]⟩ : ByteArray)).size < 200 - r.size; rw [Sha.app_size]; show 200 - (r.size + 1) < 200 - r.size; omega
    · have hr1 : (128 : Int) ≤ r.size := by omega
      obtain ⟨x, hx⟩ : ∃ x, x = Sha.mix h (r.extract 0 128).data.toList := ⟨_, rfl⟩
      have hr8 : (r.extract 0 128).size = 128 := by rw [ByteArray.size_extract]; omega
      obtain ⟨W, hW⟩ : ∃ W, W = w.alloc (Obj.cells #[.int .u64 h.a, .int .u64 h.b, .int .u64 h.c, .int .u64 h.d, .int .u64 h.e, .int .u64 h.f, .int .u64 h.g, .int .u64 h.h] 23) := ⟨_, rfl⟩
      have HS : Hid (Steps W) := by rw [hW]; exact Hst.out.alloc _
      have HW : Hid (Below w.heap.size w W) := by rw [hW]; exact (Below.refl _ _).alloc (Nat.le_refl _) _
      have c0 := cell_regrown (show W.cell? ⟨w.heap.size, 0, none⟩ = some (.int .u64 h.a) by rw [hW]; simp)
      have c1 := cell_regrown (show W.cell? ⟨w.heap.size, 1, none⟩ = some (.int .u64 h.b) by rw [hW]; simp)
      have c2 := cell_regrown (show W.cell? ⟨w.heap.size, 2, none⟩ = some (.int .u64 h.c) by rw [hW]; simp)
      have c3 := cell_regrown (show W.cell? ⟨w.heap.size, 3, none⟩ = some (.int .u64 h.d) by rw [hW]; simp)
      have c4 := cell_regrown (show W.cell? ⟨w.heap.size, 4, none⟩ = some (.int .u64 h.e) by rw [hW]; simp)
      have c5 := cell_regrown (show W.cell? ⟨w.heap.size, 5, none⟩ = some (.int .u64 h.f) by rw [hW]; simp)
      have c6 := cell_regrown (show W.cell? ⟨w.heap.size, 6, none⟩ = some (.int .u64 h.g) by rw [hW]; simp)
      have c7 := cell_regrown (show W.cell? ⟨w.heap.size, 7, none⟩ = some (.int .u64 h.h) by rw [hW]; simp)
      have K8 : Hid (∀ d os, Calls Tryd.prog 8 #[] (grow (redrawn W d) os) fun e w'' => e = .returned (.bool true) ∧ ∃ p : Regrown, w'' = grow (redrawn W p.d) p.os) := fun d os => Calls.regrown_of (awake_any _ (HS.out.below (below_regrown W d os) HS.out.pos))
      have K9 : Hid (∀ d os, Calls Tryd.prog 9 #[] (grow (redrawn W d) os) fun e w'' => e = .returned (.agg Sha.start.cells) ∧ ∃ p : Regrown, w'' = grow (redrawn W p.d) p.os) := fun d os => Calls.regrown_of (start_any _)
      have K10 : Hid (∀ d os, Calls Tryd.prog 10 #[] (grow (redrawn W d) os) fun e w'' => e = .returned (.agg Sha.start.cells) ∧ ∃ p : Regrown, w'' = grow (redrawn W p.d) p.os) := fun d os => Calls.regrown_of (rstart_any _)
      have K11 : Hid (∀ d os, Calls Tryd.prog 11 #[.agg #[.int .u64 h.a, .int .u64 h.b, .int .u64 h.c, .int .u64 h.d, .int .u64 h.e, .int .u64 h.f, .int .u64 h.g, .int .u64 h.h], .string (r.extract 0 128)] (grow (redrawn W d) os) fun e w'' => e = .returned (.agg x.cells) ∧ ∃ p : Regrown, w'' = grow (redrawn W p.d) p.os) := by
        intro d os
        rw [hx]
        exact Calls.regrown_of (mix_st h _ _ hr8 (HS.out.below (below_regrown W d os) HS.out.pos))
      have K12 : Hid (∀ d os, Calls Tryd.prog 12 #[.agg #[.int .u64 h.a, .int .u64 h.b, .int .u64 h.c, .int .u64 h.d, .int .u64 h.e, .int .u64 h.f, .int .u64 h.g, .int .u64 h.h], .string (r.extract 0 128)] (grow (redrawn W d) os) fun e w'' => e = .returned (.agg x.cells) ∧ ∃ p : Regrown, w'' = grow (redrawn W p.d) p.os) := by
        intro d os
        rw [hx]
        exact Calls.regrown_of (rmix_st h _ _ hr8)
      have e1 := eq8 Sha.start
      have e2 := eq8 x
      have e3 : ∀ w, (Op.equalIn 10000 23 (.agg #[.int .u64 h.a, .int .u64 h.b, .int .u64 h.c, .int .u64 h.d, .int .u64 h.e, .int .u64 h.f, .int .u64 h.g, .int .u64 h.h]) (.agg #[.int .u64 h.a, .int .u64 h.b, .int .u64 h.c, .int .u64 h.d, .int .u64 h.e, .int .u64 h.f, .int .u64 h.g, .int .u64 h.h])).run Tryd.prog w = .ok true w := fun w => eq8 h w
      clear hx hr8
      by_cases h128 : t.size = 128
      · have hb : ((t.size : Int) == 128) = true := by rw [beq_iff_eq]; omega
        clear h128
        go_wp2_with fail
        rw [← hW]
        clear hW
        refine wp_region_quiet_below (by kernel_rfl) (by kernel_rfl) ?_
        repeat (first | go_big_quiet_step (first | (go_at_call 8; exact K8.out _ _) | (go_at_call 9; exact K9.out _ _) | (go_at_call 10; exact K10.out _ _) | (go_at_call 11; exact K11.out _ _) | (go_at_call 12; exact K12.out _ _)) | quiet_step (first | (go_at_call 8; exact K8.out _ _) | (go_at_call 9; exact K9.out _ _) | (go_at_call 10; exact K10.out _ _) | (go_at_call 11; exact K11.out _ _) | (go_at_call 12; exact K12.out _ _)))
        refine wpQuiet_nil ?_
        rintro _ ⟨⟨dq, osq⟩, rfl⟩
        go_wp2
        go_ret
        exact ⟨rfl, HW.out.trans ((below_regrown W dq osq).mono HW.out.size)⟩
      · have hb : ((t.size : Int) == 128) = false := by rw [beq_eq_false_iff_ne]; omega
        have K11t : Hid (∀ d os, Calls Tryd.prog 11 #[.agg #[.int .u64 h.a, .int .u64 h.b, .int .u64 h.c, .int .u64 h.d, .int .u64 h.e, .int .u64 h.f, .int .u64 h.g, .int .u64 h.h], .string t] (grow (redrawn W d) os) fun e w'' => e = .returned (.agg #[.int .u64 h.a, .int .u64 h.b, .int .u64 h.c, .int .u64 h.d, .int .u64 h.e, .int .u64 h.f, .int .u64 h.g, .int .u64 h.h]) ∧ ∃ p : Regrown, w'' = grow (redrawn W p.d) p.os) := fun d os => Calls.regrown_of (mix_not h.a h.b h.c h.d h.e h.f h.g h.h t _ h128)
        clear h128
        go_wp2_with fail
        rw [← hW]
        clear hW
        refine wp_region_quiet_below (by kernel_rfl) (by kernel_rfl) ?_
        repeat (first | go_big_quiet_step (first | (go_at_call 8; exact K8.out _ _) | (go_at_call 9; exact K9.out _ _) | (go_at_call 10; exact K10.out _ _) | (go_at_call_of 11 (Value.string (r.extract 0 128)); exact K11.out _ _) | (go_at_call_of 11 (Value.string t); exact K11t.out _ _) | (go_at_call 12; exact K12.out _ _)) | quiet_step (first | (go_at_call 8; exact K8.out _ _) | (go_at_call 9; exact K9.out _ _) | (go_at_call 10; exact K10.out _ _) | (go_at_call_of 11 (Value.string (r.extract 0 128)); exact K11.out _ _) | (go_at_call_of 11 (Value.string t); exact K11t.out _ _) | (go_at_call 12; exact K12.out _ _)))
        refine wpQuiet_nil ?_
        rintro _ ⟨⟨dq, osq⟩, rfl⟩
        go_wp2
        go_ret
        exact ⟨rfl, HW.out.trans ((below_regrown W dq osq).mono HW.out.size)⟩
end Go.Proofs.YtilienncognpnaaDoor
