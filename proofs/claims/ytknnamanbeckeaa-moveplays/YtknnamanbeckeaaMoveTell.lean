/- Contracts: a new tree; what is told of one; what a nil tree answers. -/
import Derived.Test.YtknnamanbeckeaaMoveTree
import Derived.Test.YtknnamanbeckeaaMoveBecomes
namespace Go.Proofs.Ytknnamanbeckeaa
open Go.RowKit Go.Opn Go.Stamp Go.MapInt Go.Mov
attribute [local go_sem] Oper.semAt_some
theorem newTree_any (w : World) : Calls Try.prog 5 #[] w fun r w' => ∃ F, r = .returned (.pointer (some ⟨F.b, 0, none⟩)) ∧ TreeAt Try.prog 30 66 75 w.heap.size F [] 0 w' ∧ Below w.heap.size w w' := by
  go_enter Try.func5, Try.ntmps5
  go_wp2
  go_ret
  refine ⟨⟨w.heap.size, none, .slice none 0 0⟩, rfl, ⟨heap_alloc_new w _, .inl ⟨rfl, rfl⟩, World.ownsRow_nil _ _ _ _, ?_, (fun e h => by cases h), List.Pairwise.nil⟩, (Below.refl _ w).alloc (Nat.le_refl _) _⟩
  rintro x (rfl | h | h)
  · exact Nat.le_refl _
  · cases h
  · cases h
set_option maxRecDepth 100000 in
theorem getTree_any {b : Nat} {mb : Option Nat} {t : Ths} (k : Int) (w : World) (h : ThsAt Try.prog 30 b mb t w) (hk : Num k) :
    Calls Try.prog 19 #[.pointer (some ⟨b, 0, none⟩), .int .u64 k] w fun r w' => r = .returned (.tuple #[((Mov.look t k).getD Th.zero).v, .bool (Mov.look t k).isSome]) ∧ Below w.heap.size w w' := by
  have c0 := ((Below.refl _ w).alloc (Nat.le_refl _) (.cells #[.int .u64 0, .int .u64 0, .string ⟨#[]⟩, .bool false, .string ⟨#[]⟩, .int .i64 0] 61))
  have hl := look_two (h.below c0) k hk
  have c1 := (h.below c0).cell
  obtain ⟨⟨xi, xp, xn, xd, xg, xz⟩, hx⟩ : ∃ x, x = (Mov.look t k).getD Th.zero := ⟨_, rfl⟩
  obtain ⟨is, his⟩ : ∃ is, is = (Mov.look t k).isSome := ⟨_, rfl⟩
  have hg : gotT (Mov.look t k) = .tuple #[.agg #[.int .u64 xi, .int .u64 xp, .string xn, .bool xd, .string xg, .int .i64 xz], .bool is] := by
    cases e : Mov.look t k with
    | none => rw [e] at hx his; simp only [Option.getD_none, Th.zero, Th.mk.injEq] at hx; obtain ⟨rfl, rfl, rfl, rfl, rfl, rfl⟩ := hx; rw [his]; rfl
    | some y => rw [e] at hx his; rw [his]; simp only [Option.getD_some] at hx; rw [← hx]; rfl
  rw [hg] at hl
  rw [← hx, ← his]
  unfold Th.v
  clear h hg hx his hk c0
  go_enter Try.func19, Try.ntmps19
  go_wp2
  refine bodyPost_ret (Wire.results_cell2_row Try.results19 _ _ w.heap.size _ #[.int .u64 xi, .int .u64 xp, .string xn, .bool xd, .string xg, .int .i64 xz] (0, 0) _ rfl ((heap_alloc_old _ _ (by simp)).trans (heap_alloc_new w _)) Try.underlying61 rfl infoTh) rfl ?_
  exact ⟨rfl, ((Below.refl _ w).alloc (Nat.le_refl _) _).alloc (by simp) _⟩
theorem undone_any {base : Nat} {F : Ft} {l : List En} {u : Int} (w : World) (h : TreeAt Try.prog 30 66 75 base F l u w) :
    Calls Try.prog 20 #[.pointer (some ⟨F.b, 0, none⟩)] w fun r w' => r = .returned (.int .i64 u) ∧ w' = w := by
  have c2 := h.g.c2
  clear h
  go_enter Try.func20, Try.ntmps20
  go_wp2
  go_ret
  exact ⟨rfl, rfl⟩
theorem lenTree_any {base : Nat} {F : Ft} {l : List En} {u : Int} (w : World) (h : TreeAt Try.prog 30 66 75 base F l u w) :
    Calls Try.prog 12 #[.pointer (some ⟨F.b, 0, none⟩)] w fun r w' => r = .returned (.int .i64 l.length) ∧ w' = w := by
  have c1 := h.g.c1
  obtain ⟨a, c, hv⟩ := h.g.steps.form
  rw [hv, sps_length] at c1
  clear h hv
  go_enter Try.func12, Try.ntmps12
  go_wp2
  go_ret
  exact ⟨rfl, rfl⟩
theorem undone_nil (w : World) : Calls Try.prog 20 #[.pointer none] w fun r w' => r = .returned (.int .i64 0) ∧ w' = w := by
  go_enter Try.func20, Try.ntmps20
  go_wp2
  go_ret
  exact ⟨rfl, rfl⟩
theorem lenTree_nil (w : World) : Calls Try.prog 12 #[.pointer none] w fun r w' => r = .returned (.int .i64 0) ∧ w' = w := by
  go_enter Try.func12, Try.ntmps12
  go_wp2
  go_ret
  exact ⟨rfl, rfl⟩
theorem logTree_nil (w : World) : Calls Try.prog 15 #[.pointer none] w fun r w' => r = .returned (.slice none 0 0) ∧ w' = w := by
  go_enter Try.func15, Try.ntmps15
  go_wp2
  go_ret
  exact ⟨rfl, rfl⟩
theorem kids_nil (k : Int) (w : World) : Calls Try.prog 29 #[.pointer none, .int .u64 k] w fun r w' => r = .returned (.slice none 0 0) ∧ w' = w := by
  go_enter Try.func29, Try.ntmps29
  go_wp2
  go_ret
  exact ⟨rfl, rfl⟩
theorem addTree_nil (e : En) (w : World) : Calls Try.prog 10 #[.pointer none, e.v] w fun r w' => r = .returned (.bool false) ∧ Below w.heap.size w w' := by
  obtain ⟨⟨kd, ⟨tc, tk⟩, th, pa, nm, dr, dg, sz⟩, eh⟩ := e
  unfold En.v
  dsimp only
  go_enter Try.func10, Try.ntmps10
  go_wp2
  go_ret
  exact ⟨rfl, (Below.refl _ w).alloc (Nat.le_refl _) _⟩
theorem below_nil (k o : Int) (w : World) : Calls Try.prog 57 #[.pointer none, .int .u64 k, .int .u64 o] w fun r w' => r = .returned (.bool false) ∧ Below w.heap.size w w' := by
  go_enter Try.func57, Try.ntmps57
  go_wp2
  refine bodyPost_ret (v := .bool false) (by simp [results, Try.f57, go_sem]) rfl ?_
  exact ⟨rfl, ((Below.refl _ w).alloc (Nat.le_refl _) _).alloc (by simp) _⟩
theorem getTree_nil (k : Int) (w : World) : Calls Try.prog 19 #[.pointer none, .int .u64 k] w fun r w' => r = .returned (.tuple #[Th.zero.v, .bool false]) ∧ Below w.heap.size w w' := by
  go_enter Try.func19, Try.ntmps19
  go_wp2
  refine bodyPost_ret (Wire.results_cell2_row Try.results19 _ _ w.heap.size _ #[.int .u64 0, .int .u64 0, .string ⟨#[]⟩, .bool false, .string ⟨#[]⟩, .int .i64 0] (0, 0) _ rfl (heap_alloc_new w _) Try.underlying61 rfl infoTh) rfl ?_
  exact ⟨rfl, (Below.refl _ w).alloc (Nat.le_refl _) _⟩
end Go.Proofs.Ytknnamanbeckeaa
