/- Several texts in one: WalTell, WalWake. -/
import Derived.Test.YtoineobjmllicaaGreatDoorResetOne
/- Contracts: what a log tells; a nil log. -/
namespace Go.Proofs.YtoineobjmllicaaGreatDoor
open Go.RowKit Go.Dk Go.Wal
variable {M : Nat → Prop}
theorem allRecs_any (base b d : Nat) (l : Lg) (rv : Value) (w : World) (h : LogAt TLog base b d l rv w) (hn : l.recs.length ≤ 1000000) :
    Calls Tryz.prog 20 #[.pointer (some ⟨b, 0, none⟩)] w fun e w' => ∃ v, e = .returned v ∧ w'.ownsRow w.heap.size 9 1 v l.recs.length (tv l.recs) ∧ Below w.heap.size w w' := by
  have hform : ∃ a c, rv = .slice a l.recs.length c ∧ (a = none ∨ ∃ b off, a = some ⟨b, off, none⟩) := by
    rcases h.recs.2 with ⟨h1, h2⟩ | ⟨g, cap, cur, h1, _⟩
    · exact ⟨none, 0, by rw [h2]; exact h1, .inl rfl⟩
    · exact ⟨_, cap, h1, .inr ⟨g, 0, rfl⟩⟩
  have HC : Hid (Calls Tryz.prog 44 #[rv] w fun e w' => ∃ v', e = .returned v' ∧ w'.ownsRow w.heap.size 9 1 v' l.recs.length (tv l.recs) ∧ Below w.heap.size w w') := clone_any rv l.recs w (Texts.of_own h.recs) hform hn
  have c2 := h.cells.2.2.1
  obtain ⟨a, c, rfl, _⟩ := hform
  clear h
  go_enter Tryz.func20, Tryz.ntmps20
  go_wp2_with (go_at_call 44; refine HC.out.mono ?_; rintro e w1 ⟨v', rfl, ho, k1⟩; have H1 := hide (And.intro ho k1); obtain ⟨va, vc, hv⟩ := own_form ho; subst hv; clear ho k1)
  go_ret
  exact ⟨_, rfl, H1.out.1, H1.out.2⟩
theorem allRecs_nil (w : World) : Calls Tryz.prog 20 #[.pointer none] w fun e w' => e = .returned (.slice none 0 0) ∧ w' = w := by
  go_enter Tryz.func20, Tryz.ntmps20
  go_wp2_with fail
  go_ret
  exact ⟨rfl, rfl⟩
theorem lenRecs_any (base b d : Nat) (l : Lg) (rv : Value) (w : World) (h : LogAt TLog base b d l rv w) :
    Calls Tryz.prog 21 #[.pointer (some ⟨b, 0, none⟩)] w fun e w' => e = .returned (.int .i64 l.recs.length) ∧ w' = w := by
  have c2 := h.cells.2.2.1
  obtain ⟨a, c, rfl⟩ := own_form h.recs
  clear h
  go_enter Tryz.func21, Tryz.ntmps21
  go_wp2_with fail
  go_ret
  exact ⟨rfl, rfl⟩
theorem lenRecs_nil (w : World) : Calls Tryz.prog 21 #[.pointer none] w fun e w' => e = .returned (.int .i64 0) ∧ w' = w := by
  go_enter Tryz.func21, Tryz.ntmps21
  go_wp2_with fail
  go_ret
  exact ⟨rfl, rfl⟩
theorem segs_nil (w : World) : Calls Tryz.prog 23 #[.pointer none] w fun e w' => e = .returned (.slice none 0 0) ∧ w' = w := by
  go_enter Tryz.func23, Tryz.ntmps23
  go_wp2_with fail
  go_ret
  exact ⟨rfl, rfl⟩
theorem add_nil (v : Value) (w : World) : Calls Tryz.prog 18 #[.pointer none, v] w fun e w' => e = .returned (.int .i64 1) ∧ w' = w := by
  go_enter Tryz.func18, Tryz.ntmps18
  go_wp2_with fail
  go_ret
  exact ⟨rfl, rfl⟩
theorem reset_nil (v : Value) (w : World) : Calls Tryz.prog 13 #[.pointer none, v] w fun e w' => e = .returned (.int .i64 1) ∧ w' = w := by
  go_enter Tryz.func13, Tryz.ntmps13
  go_wp2_with fail
  go_ret
  exact ⟨rfl, rfl⟩
end Go.Proofs.YtoineobjmllicaaGreatDoor
/- What a log does when it is opened, added to, laid anew, and opened behind a loss of power: reckoned by the kernel; plain data, of no program. -/
namespace Go.Wal
open Go.RowKit Go.Dk
def A0 : A := ⟨[], -1, none, 0, false⟩
def L0 : Lg := ⟨100, 0, 0, 0, []⟩
def A2 : A := (addOf L0 A0 [[97], [98]]).1
def L2 : Lg := (addOf L0 A0 [[97], [98]]).2.1
def A3 : A := (layOf A2 2 (hd true ++ frs [[99]])).1
def L4 : Lg := ⟨100, 2, 2, 35, [[99]]⟩
def A4 : A := (sweepOf L4 [2, 1] A3 0).1
def A6 : A := { A4.crash 0 0 with down := false }
set_option maxRecDepth 100000 in
theorem w_open : openOf A0 100 = (A0, some L0, 0, 0) := by kernel_rfl
theorem w_gather : gatherOf A0.files 100 = L0 := by kernel_rfl
set_option maxRecDepth 100000 in
theorem w_add : (addOf L0 A0 [[97], [98]]).2.2 = 0 := by decide +kernel
theorem w_l2 : L2.most = 100 ∧ L2.first = 1 ∧ L2.last = 1 ∧ L2.size = 53 ∧ L2.recs.length = 2 := by decide +kernel
theorem w_lay : (layOf A2 2 (hd true ++ frs [[99]])).2 = 0 := by decide +kernel
theorem w_nums3 : nums A3.files = [2, 1] := by
  have h : numsOf (A3.files.map AF.name) = [1, 2] := by decide +kernel
  unfold nums ups
  rw [h, List.mergeSort_of_pairwise (by decide)]
  rfl
theorem w_len : (hd true ++ frs [[99]]).length = 35 := by decide +kernel
theorem w_sweep : (sweepOf L4 [2, 1] A3 0).2.2 = 0 := by decide +kernel
theorem w_down2 : A2.down = false := by decide +kernel
theorem w_reset : resetOf L2 A2 [[99]] = (A4, L4, 0) := by
  unfold resetOf
  rw [if_neg (by rw [w_down2]; decide), show L2.last + 1 = 2 by rw [w_l2.2.2.1], if_neg (by rw [w_lay]; decide), w_len, show L2.most = 100 from w_l2.1]
  show ((sweepOf L4 (nums A3.files) A3 0).1, L4, (sweepOf L4 (nums A3.files) A3 0).2.2) = _
  rw [w_nums3, w_sweep]
  rfl
theorem w_lay_ok : A3.down = false ∧ (∀ f ∈ A3.files, f.bytes.length ≤ 1000000) ∧ A3.files.length = 2 := by decide +kernel
theorem w_nums6 : nums A6.files = [2] := by
  have h : numsOf (A6.files.map AF.name) = [2] := by decide +kernel
  unfold nums ups
  rw [h, List.mergeSort_singleton]
  rfl
theorem w_six : A6.down = false ∧ (∀ f ∈ A6.files, f.bytes.length ≤ 1000000) ∧ (∀ f ∈ A6.files, numOf f.name ≤ 1000000) ∧ A6.files.length = 1 := by decide +kernel
theorem w_first6 : firstOf A6.files = 2 := by
  unfold firstOf
  rw [w_nums6]
  decide +kernel
theorem w_gather6 : (gatherOf A6.files 100).recs = [[99]] ∧ (gatherOf A6.files 100).first = 2 ∧ (gatherOf A6.files 100).last = 2 ∧ (gatherOf A6.files 100).size = 35 := by
  unfold gatherOf
  rw [w_first6, if_neg (by decide)]
  decide +kernel
theorem w_G6 : gatherOf A6.files 100 = L4 := by
  unfold gatherOf
  rw [w_first6, if_neg (by decide)]
  kernel_rfl
theorem w_open6 : (openOf A6 100).2.1 = some L4 ∧ (openOf A6 100).2.2.2 = 0 := by
  have h1 : (sweepOf L4 [2] A6 0).2.2 = 0 := by decide +kernel
  have h2 : ((sweepOf L4 [2] A6 0).1.doRemove newB).2 = 2 := by decide +kernel
  unfold openOf
  rw [if_neg (by rw [w_six.1]; decide), w_G6, w_nums6, if_neg (by rw [h1]; decide), if_neg (by rw [h2]; decide)]
  exact ⟨rfl, rfl⟩
end Go.Wal
