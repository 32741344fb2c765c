/- Contracts of a file's functions: its bytes now, a settling, what is torn. -/
import Derived.Test.YtnjkahoaogeecaaDiskLeaves
namespace Go.Dk
open Go.RowKit
theorem flat_at : ∀ (cs : List Pc) (i : Nat) (c : Pc), cs[i]? = some c → (cs.flatMap Pc.cells)[2 * i]? = some c.v ∧ (cs.flatMap Pc.cells)[2 * i + 1]? = some (.int .i64 c.frm)
  | [], _, _, h => by simp at h
  | d :: cs, 0, c, h => by
    simp only [List.getElem?_cons_zero, Option.some.injEq] at h
    subst h
    exact ⟨rfl, rfl⟩
  | d :: cs, i + 1, c, h => by
    simp only [List.getElem?_cons_succ] at h
    obtain ⟨h1, h2⟩ := flat_at cs i c h
    rw [List.flatMap_cons]
    refine ⟨?_, ?_⟩
    · rw [List.getElem?_append_right (by simp [Pc.cells]; omega)]
      rw [← h1]
      congr 1
    · rw [List.getElem?_append_right (by simp [Pc.cells]; omega)]
      rw [← h2]
      congr 1
/-- A piece's two cells. -/
theorem FileAt.piece {base : Nat} {w : World} {F : WF} (h : FileAt base w F) {i : Nat} {c : Pc} (hc : F.cs[i]? = some c) :
    ∃ g cap, F.lv = .slice (some ⟨g, 0, none⟩) F.cs.length cap ∧ F.cs.length ≤ cap ∧ w.cell? ⟨g, i * 2, none⟩ = some c.v ∧ w.cell? ⟨g, i * 2 + 1, none⟩ = some (.int .i64 c.frm) ∧ g < w.heap.size := by
  have hi : i < F.cs.length := (List.getElem?_eq_some_iff.1 hc).1
  rcases h.loose.2 with ⟨_, h0⟩ | ⟨g, cap, cur, h1, h2, h3, h4, h5, h6, h7⟩
  · omega
  · obtain ⟨e1, e2⟩ := flat_at F.cs i c hc
    rw [← h7] at e1 e2
    refine ⟨g, cap, h1, h4, ?_, ?_, block_lt h3⟩
    · rw [cell_of_row _ _ _ _ _ _ h3, ← Array.getElem?_toList]
      rw [List.getElem?_take_of_lt (by omega)] at e1
      rw [← e1]
      congr 1
      omega
    · rw [cell_of_row _ _ _ _ _ _ h3, ← Array.getElem?_toList]
      rw [List.getElem?_take_of_lt (by omega)] at e2
      rw [← e2]
      congr 1
      omega
end Go.Dk
namespace Go.Proofs.Ytnjkahoaogeecaa
open Go.RowKit Go.Dk
set_option maxHeartbeats 400000 in
theorem now_any (base : Nat) (F : WF) (w : World) (h : FileAt base w F) (hn : F.cs.length ≤ 1000000) :
    Calls Try.prog 40 #[.pointer (some ⟨F.blk, 0, none⟩)] w fun e w' => e = .returned F.nowV ∧ w' = w := by
  obtain ⟨c0, c1, c2, -⟩ := cells3 h.row
  unfold WF.nowV
  cases hl : F.cs.getLast? with
  | none =>
    have hz : F.cs = [] := by simpa using hl
    have hv : ∃ a c, F.lv = .slice a 0 c := by
      have := h.loose
      rw [hz] at this
      rcases this.2 with ⟨e, _⟩ | ⟨g, cap, cur, e, _⟩
      · exact ⟨_, _, e⟩
      · exact ⟨_, _, e⟩
    obtain ⟨a, c, hv⟩ := hv
    rw [hv] at c2
    simp only
    clear h
    go_enter Try.func40, Try.ntmps40
    go_wp2
    go_ret
    exact ⟨rfl, rfl⟩
  | some c =>
    simp only
    rw [List.getLast?_eq_getElem?] at hl
    have hpos : F.cs.length - 1 < F.cs.length := (List.getElem?_eq_some_iff.1 hl).1
    obtain ⟨g, cap, hv, hcap, hc, -, -⟩ := h.piece hl
    rw [hv] at c2
    generalize F.cs.length = n at *
    obtain ⟨k, rfl⟩ : ∃ k, n = k + 1 := ⟨n - 1, by omega⟩
    simp only [Nat.add_sub_cancel] at hc
    clear h hl
    go_enter Try.func40, Try.ntmps40
    go_wp2
    go_ret
    exact ⟨rfl, rfl⟩
set_option maxHeartbeats 400000 in
theorem settle_any (b : Nat) (s v l : Value) (x : Value) (w : World) (h : w.heap[b]? = some (.cells #[s, v, l] 82 (0, 0))) (hx : ∃ a n c, x = .slice a n c) :
    Calls Try.prog 41 #[.pointer (some ⟨b, 0, none⟩), x] w fun e w' => e = .returned (.tuple #[]) ∧ w'.heap[b]? = some (.cells #[.bool true, x, .slice none 0 0] 82 (0, 0)) ∧ Tch (· = b) w w' ∧ w'.heap.size = w.heap.size := by
  obtain ⟨a, n, c, rfl⟩ := hx
  obtain ⟨c0, c1, c2, fz⟩ := cells3 h
  have f0 := fz 0
  have f1 := fz 1
  have f2 := fz 2
  clear fz
  go_enter Try.func41, Try.ntmps41
  go_wp2
  go_end0
  have h1 : (w.setCell ⟨b, 0, none⟩ (.bool true)).heap[b]? = some (.cells #[.bool true, v, l] 82 (0, 0)) := by rw [heap_setCell_same _ _ _ _ _ _ h]; rfl
  have h2 : ((w.setCell ⟨b, 0, none⟩ (.bool true)).setCell ⟨b, 1, none⟩ (.slice a n c)).heap[b]? = some (.cells #[.bool true, .slice a n c, l] 82 (0, 0)) := by rw [heap_setCell_same _ _ _ _ _ _ h1]; rfl
  exact ⟨rfl, by rw [heap_setCell_same _ _ _ _ _ _ h2]; rfl, ((Tch.set (· = b) w _ _ rfl).and (.set (· = b) _ _ _ rfl)).and (.set (· = b) _ _ _ rfl), by simp⟩
set_option maxHeartbeats 400000 in
theorem torn_all (a : Option Addr) (n c f : Nat) (t : Int) (w : World) (hf : f ≤ n) (hn : n ≤ 1000000000) (ht : ((n - f : Nat) : Int) / 8 < t) :
    Calls Try.prog 62 #[.agg #[.slice a n c, .int .i64 f], .int .i64 t] w fun e w' => e = .returned (.slice a n c) ∧ Below w.heap.size w w' := by
  have hq : ((n : Int) - f).tdiv 8 = ((n - f : Nat) : Int) / 8 := by
    rw [Int.tdiv_eq_ediv_of_nonneg (by omega)]
    congr 1
    omega
  have hlt : decide ((((n - f : Nat) : Int) / 8) < t) = true := decide_eq_true ht
  go_enter Try.func62, Try.ntmps62
  go_wp2
  go_ret
  exact ⟨rfl, (Below.refl _ _).alloc (Nat.le_refl _) _⟩
set_option maxHeartbeats 400000 in
theorem torn_some (g n c f : Nat) (t : Int) (w : World) (hf : f ≤ n) (hn : n ≤ 1000000000) (hc : n ≤ c) (ht0 : 0 < t) (ht : ¬ ((n - f : Nat) : Int) / 8 < t) :
    Calls Try.prog 62 #[.agg #[.slice (some ⟨g, 0, none⟩) n c, .int .i64 f], .int .i64 t] w fun e w' => e = .returned (.slice (some ⟨g, 0, none⟩) (f + 8 * t.toNat) c) ∧ Below w.heap.size w w' := by
  have hq : ((n : Int) - f).tdiv 8 = ((n - f : Nat) : Int) / 8 := by
    rw [Int.tdiv_eq_ediv_of_nonneg (by omega)]
    congr 1
    omega
  have hlt : decide ((((n - f : Nat) : Int) / 8) < t) = false := decide_eq_false ht
  obtain ⟨k, rfl⟩ : ∃ k : Nat, t = k := ⟨t.toNat, by omega⟩
  have hk : f + 8 * k ≤ n := by omega
  go_enter Try.func62, Try.ntmps62
  go_wp2
  go_ret
  refine ⟨?_, (Below.refl _ _).alloc (Nat.le_refl _) _⟩
  simp
  omega
end Go.Proofs.Ytnjkahoaogeecaa
