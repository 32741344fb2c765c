/- Several texts in one: DiskHolds. -/
import Derived.Test.YtoineobjmllicaaGreatDoorDkTwo
import Derived.Test.YtoineobjmllicaaGreatDoorQuietAll
import Derived.BigQuiet
/- Contract: whether there is room for so many bytes more. -/
namespace Go.Dk
variable {M : Nat → Prop}
def holdsOf (a : A) (more : Int) : Bool := !decide (0 ≤ a.room) || decide (more ≤ 0) || decide ((total a.files : Int) + more ≤ a.room)
end Go.Dk
namespace Go.Proofs.YtoineobjmllicaaGreatDoor
open Go.RowKit Go.Dk Go.Maps
variable {M : Nat → Prop}
theorem total_le {base K d : Nat} {S : WD} {w : World} (h : DiskAt Tryz.prog M base K d w S) : total S.a.files ≤ 1000000000000 := by
  have htot : total S.a.files = (S.fs.map fun F => F.a.bytes.length).sum := by rw [← h.same]; unfold total; rw [List.map_map]; rfl
  have := doneSum_le (fun F => F.a.bytes.length) (fun _ => false) S.fs 10000000 fun F hF => (h.pieces hF).2.2
  rw [doneSum_end _ S.fs (fun _ => rfl), ← htot] at this
  have h1 := h.count
  have h2 := h.lim
  have : S.fs.length * 10000000 ≤ 5000 * 10000000 := Nat.mul_le_mul_right _ (by omega)
  omega
set_option maxHeartbeats 1000000 in
theorem holds_any (base K d : Nat) (S : WD) (w : World) (h : DiskAt Tryz.prog M base K d w S) (more : Int) (hm : more ≤ 1000000000000) :
    Calls Tryz.prog 86 #[.pointer (some ⟨d, 0, none⟩), .int .i64 more] w fun e w' => e = .returned (.bool (holdsOf S.a more)) ∧ Below w.heap.size w w' := by
  have hrow := h.row
  unfold drow at hrow
  have hrm := h.rm
  have ht := total_le h
  have HU : Hid (∀ w', Below w.heap.size w w' → Calls Tryz.prog 36 #[.pointer (some ⟨d, 0, none⟩)] w' fun e w'' => e = .returned (.int .i64 (total S.a.files)) ∧ Below w'.heap.size w' w'') := fun w' hb => used_any base K d S w' (h.below hb)
  have hlt := h.lt
  clear h
  unfold holdsOf
  generalize total S.a.files = tot at *
  generalize S.a.room = room at *
  generalize S.rm = rm at *
  by_cases h0 : 0 ≤ room
  · rw [hrm h0, decide_eq_true h0] at hrow
    clear hrm
    obtain ⟨-, -, -, c3, c4, -, -⟩ := cells6 hrow
    rw [decide_eq_true h0]
    by_cases h1 : more ≤ 0
    · rw [decide_eq_true h1]
      have hle : decide (more ≤ 0) = true := decide_eq_true h1
      clear HU hrow
      go_enter Tryz.func86, Tryz.ntmps86
      go_wp2
      go_quiet (fail)
      go_wp2
      go_ret
      exact ⟨rfl, ⟨rfl, rfl, rfl, Nat.le_refl _, fun _ _ => rfl⟩⟩
    · rw [decide_eq_false h1]
      have hle : decide (more ≤ 0) = false := decide_eq_false h1
      have e3 := cell_regrown c3
      have e4 := cell_regrown c4
      have hpos : 0 < more := by omega
      clear hrow c3 c4
      go_enter Tryz.func86, Tryz.ntmps86
      go_wp2
      refine QuietCalls.region (by kernel_rfl) (by kernel_rfl) ?_
      iterate 11 (first | go_big_quiet_step (fail) | quiet_step (fail))
      refine QuietCalls.call1 rfl rfl Tryz.call36 (fun w' hb => HU.out w' (by exact hb)) rfl ?_; simp only [Act.put, List.setIfInBounds_toArray, List.set_cons_succ, List.set_cons_zero]
      iterate 9 (first | go_big_quiet_step (fail) | quiet_step (fail))
      refine wpQuiet_nil ?_
      intro w2 k
      go_wp2
      go_ret
      exact ⟨by simp, k⟩
  · rw [decide_eq_false h0] at hrow ⊢
    clear hrm
    obtain ⟨-, -, -, c3, -, -, -⟩ := cells6 hrow
    clear HU hrow
    go_enter Tryz.func86, Tryz.ntmps86
    go_wp2
    go_quiet (fail)
    go_wp2
    go_ret
    exact ⟨rfl, ⟨rfl, rfl, rfl, Nat.le_refl _, fun _ _ => rfl⟩⟩
end Go.Proofs.YtoineobjmllicaaGreatDoor
