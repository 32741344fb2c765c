/- The walk of WireLetters. -/
import Derived.Test.YtajbhfejjenloaaWireQuiet
namespace Go.Proofs.Ytajbhfejjenloaa
open Go.RowKit Go.Wire Go.Sort
set_option maxHeartbeats 1000000 in
theorem wireLetters_any (s : ByteArray) (k : Int) (w : World) (hs : s.size ≤ maxLen) (_ : (Lit.int .i64 k).wf = true) :
    Calls Try.prog 3 #[.string s, .int .i64 k] w fun e w' => e = .returned (.bool true) ∧ Below w.heap.size w w' := by
  have hf := few_size s
  have HF : Hid (∀ w : World, Calls Try.prog 9 #[.string s] w fun e w' => e = .returned (.string (few s)) ∧ w' = w) := fun w => few_any s w hs
  generalize few s = t at hf HF
  have ht : t.size ≤ maxLen := by unfold maxLen; omega
  have HN : ∀ {b : Nat} {w : World}, Rd 74 b ⟨t, 0, 0⟩ w → Hid (Calls Try.prog 11 #[.pointer (some ⟨b, 0, none⟩), .int .i64 k] w fun e w' => e = .returned (.int .u64 (((St.mk t 0 0).number k).2 : Nat)) ∧ Rd 74 b ((St.mk t 0 0).number k).1 w' ∧ Kept b w w') := fun h => readerNumber_any _ _ k _ h (Nat.zero_le _) ht
  have HR : Hid (∀ w : World, Calls Try.prog 12 #[(St.mk t 0 0).v, .int .i64 k] w fun e w' => e = .returned (.tuple #[((St.mk t 0 0).number k).1.v, .int .u64 (((St.mk t 0 0).number k).2 : Nat)]) ∧ Below w.heap.size w w') := fun w => rnumber_any _ k w (Nat.zero_le _) ht
  have hz := (St.mk t 0 0).number_s k
  have hle := (St.mk t 0 0).number_le k (Nat.zero_le _)
  have hbad := (St.mk t 0 0).number_bad k
  generalize ((St.mk t 0 0).number k).2 = n at HN HR hbad
  generalize ((St.mk t 0 0).number k).1 = q at HN HR hz hle hbad
  obtain ⟨s1, p1, e1⟩ := q
  simp only at hz hle hbad
  subst hz
  have hp1 : e1 ≠ 0 → p1 = 0 := fun x => (hbad x).2
  clear hbad
  unfold St.v at HR
  go_enter Try.func3, Try.ntmps3
  go_wp2_with (first
    | (go_at_call 9; refine (HF.out _).mono ?_; rintro e w' ⟨rfl, rfl⟩)
    | (go_at_call 10; refine (newReader_any _ _).mono ?_; rintro e w1 ⟨rfl, h1, k1⟩)
    | (go_at_call 11; refine (HN (by assumption)).out.mono ?_; rintro e w2 ⟨rfl, h2, k2⟩)
    | (go_at_call 12; refine (HR.out _).mono ?_; rintro e w3 ⟨rfl, k3⟩))
  have HW1 := heap_alloc_new w3 (.cells #[.string s1, .int .i64 p1, .int .i64 e1] 28 (0, 0))
  have HW2 : Rd 74 _ ⟨s1, p1, e1⟩ (w3.alloc (.cells #[.string s1, .int .i64 p1, .int .i64 e1] 28 (0, 0))) := kept_alloc (kept_block h2 k3) _
  have HW3 := (((k1.trans k2.below).trans (k3.mono (k1.trans k2.below).size)).alloc ((k1.trans k2.below).trans (k3.mono (k1.trans k2.below).size)).size (.cells #[.string s1, .int .i64 p1, .int .i64 e1] 28 (0, 0)))
  generalize w3.alloc (.cells #[.string s1, .int .i64 p1, .int .i64 e1] 28 (0, 0)) = W at HW1 HW2 HW3
  generalize w3.heap.size = g at HW1
  obtain ⟨b0, b1, b2, -, -, -⟩ := cells3 HW1
  have C1 : ∀ d os, (grow (redrawn W d) os).cell? ⟨g, 1, none⟩ = some (.int .i64 p1) := fun d os => cell_regrown b1 d os
  have C2 : ∀ d os, (grow (redrawn W d) os).cell? ⟨g, 2, none⟩ = some (.int .i64 e1) := fun d os => cell_regrown b2 d os
  clear b0 b1 b2 HW1 h1 h2 k1 k2 k3 HN HR HF
  by_cases he : e1 = 0
  · have hb : (e1 == 0) = true := beq_iff_eq.2 he
    refine wp_region_quiet_below (by kernel_rfl) (by kernel_rfl) ?_
    repeat (first | go_big_quiet_step (first | (go_at_call 13; exact awake_quiet W _ _) | (go_at_call 14; exact err_quiet HW2 _ _) | (go_at_call 15; exact at_quiet HW2 _ _) | (go_at_call 16; exact left_quiet HW2 hle ht _ _)))
    refine wpQuiet_nil ?_
    rintro _ ⟨⟨dq, osq⟩, rfl⟩
    go_wp2
    go_ret
    exact ⟨rfl, HW3.trans ((below_regrown W dq osq).mono HW3.size)⟩
  · have hb : (e1 == 0) = false := beq_eq_false_iff_ne.2 he
    have hp0 := hp1 he
    subst hp0
    refine wp_region_quiet_below (by kernel_rfl) (by kernel_rfl) ?_
    repeat (first | go_big_quiet_step (first | (go_at_call 13; exact awake_quiet W _ _) | (go_at_call 14; exact err_quiet HW2 _ _) | (go_at_call 15; exact at_quiet HW2 _ _) | (go_at_call 16; exact left_quiet HW2 hle ht _ _)))
    refine wpQuiet_nil ?_
    rintro _ ⟨⟨dq, osq⟩, rfl⟩
    go_wp2
    go_ret
    exact ⟨rfl, HW3.trans ((below_regrown W dq osq).mono HW3.size)⟩
end Go.Proofs.Ytajbhfejjenloaa
