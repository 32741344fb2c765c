/- Contracts: a file's digest of its root, the program's and the document's. -/
import Derived.Test.YtoopaeahhbkncaaDoorMerkleFirst
namespace Go.Proofs.YtoopaeahhbkncaaDoor
open Go.RowKit Go.Mk Go.Chunk
attribute [local go_sem] Oper.semAt_some
theorem fileOf_any (size many : Nat) (r : ByteArray) (w : World) (h1 : size ≤ 100000) (h2 : many ≤ 100000) (hr : r.size ≤ 2000000) (hst : Steps w) :
    Calls Tryd.prog 45 #[.int .i64 size, .int .i64 many, .string r] w fun e w' => e = .returned (.string (named size many r)) ∧ Below w.heap.size w w' := by
  have H1 := hide (fun (w : World) => number_any size 4 w (by omega))
  have H2 := hide (fun (w : World) => number_any many 4 w (by omega))
  rw [show 2 * (min (max (4 : Int) 0) 8).toNat = 8 by decide] at H1 H2
  have HS := hide hst
  clear hst
  have h1' : (size : Int) ≤ 100000 := by omega
  have h2' : (many : Int) ≤ 100000 := by omega
  have z1 : (Wire.numB 8 size).size = 8 := Wire.numB_size _ _
  have z2 : (Wire.numB 8 many).size = 8 := Wire.numB_size _ _
  unfold named
  generalize Wire.numB 8 size = A at *
  generalize Wire.numB 8 many = B at *
  go_enter Tryd.func45, Tryd.ntmps45
  go_wp2_with fail
  refine (H1.out _).mono ?_
  rintro e w1 ⟨rfl, hb1⟩
  have HB := hide hb1
  clear hb1
  go_wp2_with fail
  refine (H2.out _).mono ?_
  rintro e w2 ⟨rfl, hb2⟩
  have HB2 := hide (HB.out.trans (hb2.mono HB.out.size))
  clear hb2 HB
  have HT := hide (tagged_any 70 (.slice (some ⟨w2.heap.size, 0, none⟩) 3 3) [A, B, r] (w2.alloc (.cells #[.string A, .string B, .string r] 9)) (reads_lit3 w2 A B r 9) (by simp) (by simp; omega) ((HS.out.kept HB2.out).kept ((Below.refl _ w2).alloc (Nat.le_refl _) _)))
  go_wp2_with (go_at_call 40; refine HT.out.mono ?_; rintro e w' ⟨rfl, hb⟩)
  go_ret
  exact ⟨rfl, HB2.out.trans (((Below.refl _ w2).alloc (Nat.le_refl _) _).trans (hb.mono (by simp)) |>.mono HB2.out.size)⟩
theorem rnamed_any (size many : Nat) (r : ByteArray) (w : World) (h1 : size ≤ 100000) (h2 : many ≤ 100000) (hr : r.size ≤ 2000000) :
    Calls Tryd.prog 46 #[.int .i64 size, .int .i64 many, .string r] w fun e w' => e = .returned (.string (named size many r)) ∧ Below w.heap.size w w' := by
  have H1 := hide (fun (w : World) => rnum_any size 4 w (by omega) (by decide))
  have H2 := hide (fun (w : World) => rnum_any many 4 w (by omega) (by decide))
  rw [show 2 * min 4 8 = 8 by decide] at H1 H2
  have h1' : (size : Int) ≤ 100000 := by omega
  have h2' : (many : Int) ≤ 100000 := by omega
  have z1 : (Wire.numB 8 size).size = 8 := Wire.numB_size _ _
  have z2 : (Wire.numB 8 many).size = 8 := Wire.numB_size _ _
  unfold named
  generalize Wire.numB 8 size = A at *
  generalize Wire.numB 8 many = B at *
  go_enter Tryd.func46, Tryd.ntmps46
  go_wp2_with fail
  refine (H1.out _).mono ?_
  rintro e w1 ⟨rfl, hb1⟩
  have HB := hide hb1
  clear hb1
  go_wp2_with fail
  refine (H2.out _).mono ?_
  rintro e w2 ⟨rfl, hb2⟩
  have HB2 := hide (HB.out.trans (hb2.mono HB.out.size))
  clear hb2 HB
  have HT := hide (rtagged_any 70 (.slice (some ⟨w2.heap.size, 0, none⟩) 3 3) [A, B, r] (w2.alloc (.cells #[.string A, .string B, .string r] 9)) (reads_lit3 w2 A B r 9) (by simp) (by simp; omega))
  go_wp2_with (go_at_call 43; refine HT.out.mono ?_; rintro e w' ⟨rfl, hb⟩)
  go_ret
  exact ⟨rfl, HB2.out.trans (((Below.refl _ w2).alloc (Nat.le_refl _) _).trans (hb.mono (by simp)) |>.mono HB2.out.size)⟩
/-- The root, the program's. -/
theorem root_any (xs : List ByteArray) : ∀ (v : Value) (w : World) (_ : StrRow.Reads w v xs) (_ : xs.length ≤ 256) (_ : ∀ s ∈ xs, s.size = 32) (_ : Steps w),
    Calls Tryd.prog 13 #[v] w fun e w' => e = .returned (.string (root xs)) ∧ Below w.heap.size w w' := by
  generalize hn : xs.length = n
  induction n using Nat.strongRecOn generalizing xs with
  | _ n ih =>
    subst hn
    intro v w hr hn hx hst
    by_cases h0 : xs.length = 0
    · have e0 : xs = [] := List.length_eq_zero_iff.1 h0
      subst e0
      obtain ⟨a, c, rfl⟩ := hr.form
      rw [root_nil]
      have HT := hide (tagged_any 69 (.slice none 0 0) [] w (.inl ⟨⟨_, _, rfl⟩, rfl⟩) (by simp) (by simp) hst)
      clear hst hr ih
      go_enter Tryd.func13, Tryd.ntmps13
      go_wp2_with (go_at_call 40; refine HT.out.mono ?_; rintro e w' ⟨rfl, hb⟩)
      go_ret
      exact ⟨rfl, hb⟩
    · by_cases h1 : xs.length = 1
      · obtain ⟨x, rfl⟩ := List.length_eq_one_iff.1 h1
        obtain ⟨b, off, cap, rfl, hcap, hb⟩ := hr.at (by simp)
        have hc := hr.cell (j := 0) (s := x) rfl
        rw [root_one]
        clear hst hr ih
        simp only [List.length_cons, List.length_nil, Nat.zero_add, Nat.add_zero] at hc ⊢
        go_enter Tryd.func13, Tryd.ntmps13
        go_wp2_with fail
        go_ret
        exact ⟨rfl, Below.refl _ _⟩
      · have h2 : 2 ≤ xs.length := by omega
        obtain ⟨b, off, cap, rfl, hcap, hb⟩ := hr.at (by intro e; subst e; exact h0 rfl)
        have k1 := kc_pos xs.length
        have k2 := kc_lt h2
        have HF := hide (fun (w : World) => first_any xs.length w h2 hn)
        have lt : (xs.take (kc xs.length)).length = kc xs.length := by rw [List.length_take]; omega
        have ld : (xs.drop (kc xs.length)).length = xs.length - kc xs.length := by rw [List.length_drop]
        have HA := hide (fun (w' : World) (h : Below w.heap.size w w') => ih _ (by rw [lt]; exact k2) (xs.take (kc xs.length)) rfl (.slice (some ⟨b, off, none⟩) (kc xs.length) cap) w' ((reads_take hr _ (by omega)).below h (Nat.le_refl _)) (by omega) (fun s hs => hx s (List.mem_of_mem_take hs)) (hst.kept h))
        have HB := hide (fun (w' : World) (h : Below w.heap.size w w') => ih _ (by rw [ld]; omega) (xs.drop (kc xs.length)) rfl (.slice (some ⟨b, off + kc xs.length, none⟩) (xs.length - kc xs.length) (cap - kc xs.length)) w' ((reads_drop hr _ (by omega)).below h (Nat.le_refl _)) (by omega) (fun s hs => hx s (List.mem_of_mem_drop hs)) (hst.kept h))
        have zA : (root (xs.take (kc xs.length))).size ≤ 2000000 := by rw [root_size _ (fun s hs => hx s (List.mem_of_mem_take hs))]; omega
        have zB : (root (xs.drop (kc xs.length))).size ≤ 2000000 := by rw [root_size _ (fun s hs => hx s (List.mem_of_mem_drop hs))]; omega
        have HJ := hide (fun (w' : World) (h : Below w.heap.size w w') => join_any _ _ w' zA zB (hst.kept h))
        rw [root_more xs h2]
        clear hr hst ih hx lt ld
        generalize root (xs.take (kc xs.length)) = A at *
        generalize root (xs.drop (kc xs.length)) = B at *
        generalize kc xs.length = k at *
        generalize xs.length = n at *
        have k3 : (k : Int) < n := by omega
        have k4 : (k : Int) ≤ cap := by omega
        have k5 : (n : Int) ≤ cap := by omega
        have n0 : ¬ ((n : Int) = 0) := by omega
        have n1 : ¬ ((n : Int) = 1) := by omega
        go_enter Tryd.func13, Tryd.ntmps13
        go_wp2_with (go_at_call 41; refine (HF.out _).mono ?_; rintro e w' ⟨rfl, hw⟩; subst hw)
        refine QuietCalls.region (by kernel_rfl) (by kernel_rfl) ?_
        iterate 3 first | go_big_quiet_step (fail) | quiet_step (fail)
        refine QuietCalls.call1 rfl rfl Tryd.call13 (fun w h => HA.out w h) rfl ?_; simp only [Act.put, List.setIfInBounds_toArray, List.set_cons_succ, List.set_cons_zero]
        iterate 3 first | go_big_quiet_step (fail) | quiet_step (fail)
        refine QuietCalls.call1 rfl rfl Tryd.call13 (fun w h => HB.out w h) rfl ?_; simp only [Act.put, List.setIfInBounds_toArray, List.set_cons_succ, List.set_cons_zero]
        refine QuietCalls.call2 rfl rfl Tryd.call42 (fun w h => HJ.out w h) rfl rfl ?_; simp only [Act.put, List.setIfInBounds_toArray, List.set_cons_succ, List.set_cons_zero]
        refine QuietCalls.assign rfl rfl rfl ?_; simp only [Act.put, List.setIfInBounds_toArray, List.set_cons_succ, List.set_cons_zero]
        refine wpQuiet_nil ?_
        intro w2 hb2
        go_wp2_with fail
        go_ret
        exact ⟨rfl, hb2⟩
set_option maxRecDepth 100000 in
theorem rroot_any (xs : List ByteArray) : ∀ (v : Value) (w : World) (_ : StrRow.Reads w v xs) (_ : xs.length ≤ 256) (_ : ∀ s ∈ xs, s.size = 32),
    Calls Tryd.prog 14 #[v] w fun e w' => e = .returned (.string (root xs)) ∧ Below w.heap.size w w' := by
  generalize hn : xs.length = n
  induction n using Nat.strongRecOn generalizing xs with
  | _ n ih =>
    subst hn
    intro v w hr hn hx
    by_cases h0 : xs.length = 0
    · have e0 : xs = [] := List.length_eq_zero_iff.1 h0
      subst e0
      obtain ⟨a, c, rfl⟩ := hr.form
      rw [root_nil]
      have HT := hide (rtagged_any 69 (.slice (some ⟨w.heap.size, 0, none⟩) 0 0) [] (w.alloc (.cells #[] 9)) (.inl ⟨⟨_, _, rfl⟩, rfl⟩) (by simp) (by simp))
      clear hr ih
      go_enter Tryd.func14, Tryd.ntmps14
      go_wp2_with (go_at_call 43; refine HT.out.mono ?_; rintro e w' ⟨rfl, hb⟩)
      go_ret
      exact ⟨rfl, ((Below.refl _ w).alloc (Nat.le_refl _) _).trans (hb.mono (by simp))⟩
    · by_cases h1 : xs.length = 1
      · obtain ⟨x, rfl⟩ := List.length_eq_one_iff.1 h1
        obtain ⟨b, off, cap, rfl, hcap, hb⟩ := hr.at (by simp)
        have hc := hr.cell (j := 0) (s := x) rfl
        rw [root_one]
        clear hr ih
        simp only [List.length_cons, List.length_nil, Nat.zero_add, Nat.add_zero] at hc ⊢
        go_enter Tryd.func14, Tryd.ntmps14
        go_wp2_with fail
        go_ret
        exact ⟨rfl, Below.refl _ _⟩
      · have h2 : 2 ≤ xs.length := by omega
        obtain ⟨b, off, cap, rfl, hcap, hb⟩ := hr.at (by intro e; subst e; exact h0 rfl)
        have k1 := kc_pos xs.length
        have k2 := kc_lt h2
        have HF := hide (fun (w : World) => rcutk_any xs.length w h2 hn)
        have lt : (xs.take (kc xs.length)).length = kc xs.length := by rw [List.length_take]; omega
        have ld : (xs.drop (kc xs.length)).length = xs.length - kc xs.length := by rw [List.length_drop]
        have HA := hide (fun (w' : World) (h : Below w.heap.size w w') => ih _ (by rw [lt]; exact k2) (xs.take (kc xs.length)) rfl (.slice (some ⟨b, off, none⟩) (kc xs.length) cap) w' ((reads_take hr _ (by omega)).below h (Nat.le_refl _)) (by omega) (fun s hs => hx s (List.mem_of_mem_take hs)))
        have HB := hide (fun (w' : World) (h : Below w.heap.size w w') => ih _ (by rw [ld]; omega) (xs.drop (kc xs.length)) rfl (.slice (some ⟨b, off + kc xs.length, none⟩) (xs.length - kc xs.length) (cap - kc xs.length)) w' ((reads_drop hr _ (by omega)).below h (Nat.le_refl _)) (by omega) (fun s hs => hx s (List.mem_of_mem_drop hs)))
        have zA : (root (xs.take (kc xs.length))).size ≤ 2000000 := by rw [root_size _ (fun s hs => hx s (List.mem_of_mem_take hs))]; omega
        have zB : (root (xs.drop (kc xs.length))).size ≤ 2000000 := by rw [root_size _ (fun s hs => hx s (List.mem_of_mem_drop hs))]; omega
        have HJ := hide (fun (w' : World) => rtagged_any 74 (.slice (some ⟨w'.heap.size, 0, none⟩) 2 2) [root (xs.take (kc xs.length)), root (xs.drop (kc xs.length))] (w'.alloc (.cells #[.string _, .string _] 9)) (reads_lit2 w' _ _ 9) (by simp) (by simp; exact ⟨zA, zB⟩))
        rw [root_more xs h2]
        clear hr ih hx lt ld
        generalize root (xs.take (kc xs.length)) = A at *
        generalize root (xs.drop (kc xs.length)) = B at *
        generalize kc xs.length = k at *
        generalize xs.length = n at *
        have k3 : (k : Int) < n := by omega
        have k4 : (k : Int) ≤ cap := by omega
        have k5 : (n : Int) ≤ cap := by omega
        have n0 : ¬ ((n : Int) = 0) := by omega
        have n1 : ¬ ((n : Int) = 1) := by omega
        go_enter Tryd.func14, Tryd.ntmps14
        go_wp2_with (go_at_call 44; refine (HF.out _).mono ?_; rintro e w' ⟨rfl, hw⟩; subst hw)
        refine QuietCalls.tail 8 (by kernel_rfl) (by kernel_rfl) ?_
        simp only [List.take_succ_cons, List.take_zero, List.drop_succ_cons, List.drop_zero]
        iterate 3 first | go_big_quiet_step (fail) | quiet_step (fail)
        refine QuietCalls.call1 rfl rfl Tryd.call14 (fun w h => HA.out w h) rfl ?_; simp only [Act.put, List.setIfInBounds_toArray, List.set_cons_succ, List.set_cons_zero]
        iterate 3 first | go_big_quiet_step (fail) | quiet_step (fail)
        refine QuietCalls.call1 rfl rfl Tryd.call14 (fun w h => HB.out w h) rfl ?_; simp only [Act.put, List.setIfInBounds_toArray, List.set_cons_succ, List.set_cons_zero]
        refine wpQuiet_nil ?_
        intro w2 hb2
        have HB2 := hide hb2
        clear hb2 HA HB
        go_wp2_with (go_at_call 43; refine (HJ.out _).mono ?_; rintro e wC ⟨rfl, hbC⟩)
        go_ret
        exact ⟨rfl, HB2.out.trans (((Below.refl _ w2).alloc (Nat.le_refl _) _).trans (hbC.mono (by simp)) |>.mono HB2.out.size)⟩
end Go.Proofs.YtoopaeahhbkncaaDoor
