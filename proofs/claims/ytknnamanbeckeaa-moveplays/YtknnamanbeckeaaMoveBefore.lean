/- Contract: the document's order of operations. -/
import Derived.Test.YtknnamanbeckeaaMoveEntry
import Derived.Test.YtknnamanbeckeaaMoveCompare
namespace Go.Mov
open Go.RowKit Go.Opn Go.Stamp
def bfB (a b : En) : Bool := decide (cmpE a b < 0)
theorem bfB_same {a b : En} (h : a.op.tm = b.op.tm) : bfB a b = less a.h b.h := by
  unfold bfB
  rw [Bool.eq_iff_iff, decide_eq_true_iff, cmpE_lt]
  unfold Bf
  constructor
  · rintro (h1 | h1)
    · rw [h] at h1; unfold Tm.before at h1; omega
    · exact h1.2
  · exact fun h1 => .inr ⟨h, h1⟩
theorem bfB_other {a b : En} (h : a.op.tm ≠ b.op.tm) : bfB a b = decide (a.op.tm.before b.op.tm) := by
  unfold bfB
  rw [Bool.eq_iff_iff, decide_eq_true_iff, decide_eq_true_iff, cmpE_lt]
  unfold Bf
  constructor
  · rintro (h1 | h1)
    · exact h1
    · exact absurd h1.1 h
  · exact fun h1 => .inl h1
theorem bfB_gt (a b : En) : bfB b a = decide (0 < cmpE a b) := by
  unfold bfB
  rw [Bool.eq_iff_iff, decide_eq_true_iff, decide_eq_true_iff, cmpE_lt, cmpE_gt]
end Go.Mov
namespace Go.Proofs.Ytknnamanbeckeaa
open Go.RowKit Go.Opn Go.Stamp Go.MapInt Go.Mov Go.Shelf
attribute [local go_sem] Oper.semAt_some
set_option maxHeartbeats 1000000 in
set_option maxRecDepth 100000 in
theorem rbefore13_any (a b : En) (w : World) : Calls Try.prog 22 #[a.v, b.v] w fun r w' => r = .returned (.bool (bfB a b)) ∧ Below w.heap.size w w' := by
  have k2 : ∀ o1 o2 : Obj, Below w.heap.size w ((w.alloc o1).alloc o2) := fun o1 o2 => ((Below.refl _ w).alloc (Nat.le_refl _) _).alloc (by simp) _
  by_cases h : a.op.tm = b.op.tm
  · rw [bfB_same h]
    obtain ⟨⟨kd, ⟨tc, tk⟩, th, pa, nm, dr, dg, sz⟩, eh⟩ := a
    obtain ⟨⟨kd', ⟨tc', tk'⟩, th', pa', nm', dr', dg', sz'⟩, eh'⟩ := b
    dsimp only at h
    cases h
    unfold En.v less
    dsimp only
    have K2 := hide k2
    clear k2
    go_enter Try.func22, Try.ntmps22
    go_wp2_with fail
    go_ret
    exact ⟨rfl, K2.out _ _⟩
  · rw [bfB_other h]
    have HB := hide (fun v => rbefore_any a.op.tm b.op.tm v)
    obtain ⟨⟨kd, ⟨tc, tk⟩, th, pa, nm, dr, dg, sz⟩, eh⟩ := a
    obtain ⟨⟨kd', ⟨tc', tk'⟩, th', pa', nm', dr', dg', sz'⟩, eh'⟩ := b
    have hne : (tc == tc' && tk == tk') = false := by
      rw [Bool.and_eq_false_iff]
      by_cases e : tc = tc'
      · right
        have : tk ≠ tk' := fun e2 => h (by dsimp only; rw [e, e2])
        simpa using this
      · left; simpa using e
    generalize decide (Tm.before (Ob.tm (En.op ⟨⟨kd, ⟨tc, tk⟩, th, pa, nm, dr, dg, sz⟩, eh⟩)) (Ob.tm (En.op ⟨⟨kd', ⟨tc', tk'⟩, th', pa', nm', dr', dg', sz'⟩, eh'⟩))) = B at HB ⊢
    unfold Tm.v at HB
    unfold En.v
    dsimp only at HB ⊢
    have K2 := hide k2
    clear k2
    have hn2 : ¬ (tc = tc' ∧ tk = tk') := by rintro ⟨rfl, rfl⟩; simp at hne
    clear h hne
    go_enter Try.func22, Try.ntmps22
    by_cases e : tc = tc'
    · have e2 : ¬ tk = tk' := fun e2 => hn2 ⟨e, e2⟩
      subst e
      clear hn2
      go_wp2_with (go_at_call 38; refine (HB.out _).mono ?_; rintro r w3 ⟨rfl, k3⟩; clear HB)
      go_ret
      exact ⟨rfl, (K2.out _ _).trans (k3.mono (by simp; omega))⟩
    · clear hn2
      go_wp2_with (go_at_call 38; refine (HB.out _).mono ?_; rintro r w3 ⟨rfl, k3⟩; clear HB)
      go_ret
      exact ⟨rfl, (K2.out _ _).trans (k3.mono (by simp; omega))⟩
end Go.Proofs.Ytknnamanbeckeaa
