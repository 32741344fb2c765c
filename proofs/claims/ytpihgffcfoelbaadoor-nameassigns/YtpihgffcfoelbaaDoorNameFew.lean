/- Things with the names that were handed in; a row of things put behind another. -/
import Derived.Test.YtpihgffcfoelbaaDoorNameManyWalk
namespace Go.Names
open Go.RowKit
/-- The things of a list of texts: numbers from 16 on, names that are not too long. -/
def giv (ys : List ByteArray) : List (Int × ByteArray) := ys.mapIdx fun j y => (((16 + j : Nat) : Int), few y)
theorem giv_length (ys : List ByteArray) : (giv ys).length = ys.length := by simp [giv]
theorem giv_names (ys : List ByteArray) : namesOf (giv ys) = txts (ys.map few) := by
  refine List.ext_getElem (by simp [namesOf, giv, txts]) fun i h1 h2 => by simp [namesOf, giv, txts]
theorem giv_take {xs : List ByteArray} {i : Nat} {x : ByteArray} (h : xs[i]? = some x) : giv (xs.take (i + 1)) = giv (xs.take i) ++ [(((16 + i : Nat) : Int), few x)] := by
  have hi := (List.getElem?_eq_some_iff.1 h).1
  have e : xs.take (i + 1) = xs.take i ++ [x] := by rw [List.take_add_one, h]; rfl
  have hl : (xs.take i).length = i := List.length_take_of_le (by omega)
  unfold giv
  rw [e, List.mapIdx_concat, hl]
theorem giv_size (ys : List ByteArray) : ∀ g ∈ giv ys, g.2.size ≤ 300 := by
  intro g hg
  unfold giv at hg
  obtain ⟨j, hj, rfl⟩ := List.mem_mapIdx.1 hg
  exact few_size _
theorem namesOf_append (a b : List (Int × ByteArray)) : namesOf (a ++ b) = namesOf a ++ namesOf b := List.map_append ..
/-- What is free of a list of names for one more. -/
def freeB (T : Bs) (l : List Bs) : Bool := legal T && decide (fold T ∉ l.map fold)
theorem freeB_nil (T : Bs) : freeB T [] = legal T := by simp [freeB]
theorem freeB_succ {T : Bs} {l : List Bs} {j : Nat} {x : Bs} (h : l[j]? = some x) : freeB T (l.take (j + 1)) = (freeB T (l.take j) && decide (fold x ≠ fold T)) := by
  unfold freeB
  rw [fold_take_succ h]
  by_cases e : fold x = fold T
  · simp [e]
  · have e' : ¬ fold T = fold x := fun h => e h.symm
    simp [e, e']
theorem free_pick {T : Bs} {l : List Bs} (h : freeB T l = true) : pick (l.map fold) (fix T) = T := by
  unfold freeB at h
  rw [Bool.and_eq_true, decide_eq_true_eq] at h
  rw [fix_legal h.1, pick_own h.2]
end Go.Names
namespace Go.Proofs.YtpihgffcfoelbaaDoor
open Go.RowKit Go.Names
theorem own2_some {W : World} {base e : Nat} {a : Option Addr} {k c : Nat} {xs : List Value} (h : W.ownsRow base e 2 (.slice a k c) k xs) (hk : 0 < k) : ∃ j, a = some ⟨j, 0, none⟩ := by
  rcases h.2 with ⟨_, h0⟩ | ⟨j, cap, cur, h1, _⟩
  · omega
  · cases h1; exact ⟨j, rfl⟩
theorem own2_is {W : World} {base e : Nat} {v : Value} {k m : Nat} {xs : List Value} (h : W.ownsRow base e 2 v k xs) (hk : k = m) : W.ownsRow base e 2 v m xs := hk ▸ h
theorem own2_cells {W : World} {base e : Nat} {j k c : Nat} {xs : List Value} (h : W.ownsRow base e 2 (.slice (some ⟨j, 0, none⟩) k c) k xs) : ∀ i u, xs[i]? = some u → W.cell? ((⟨j, 0, none⟩ : Addr).add i) = some u := by
  intro i u hi
  rcases h.2 with ⟨h1, _⟩ | ⟨g, cap, cur, h1, h2, h3, h4, h5, h6, h7⟩
  · cases h1
  · cases h1
    rw [← h7] at hi
    have hil : i < k * 2 := by
      have := (List.getElem?_eq_some_iff.1 hi).1
      rw [List.length_take] at this
      omega
    rw [List.getElem?_take_of_lt hil, Array.getElem?_toList] at hi
    rw [Go.WideShapes.add_plain, cell_of_row _ _ _ _ _ _ h3, Nat.zero_add]
    exact hi
theorem gvCells_one (gs : List (Int × ByteArray)) : ∀ u ∈ gvCells gs, u.oneCell' = true := by
  intro u hu
  unfold gvCells at hu
  obtain ⟨g, _, hg⟩ := List.mem_flatMap.1 hu
  simp at hg
  rcases hg with rfl | rfl <;> rfl
theorem Gr.own_as {W w : World} {vo : Value} {gs : List (Int × ByteArray)} {n : Nat} (h : Gr W vo gs w) (hn : gs.length = n) {o : Obj} : (w.alloc o).ownsRow W.heap.size 31 2 vo n (gvCells gs) := hn ▸ h.own.alloc o
/-- A row of things is put behind one's own. -/
theorem Gr.appendAll {W W2 w : World} {a0 : Option Addr} {n0 c0 j m c : Nat} {gs hs : List (Int × ByteArray)} (h : Gr W (.slice a0 n0 c0) gs w) (h2 : w.ownsRow W2.heap.size 31 2 (.slice (some ⟨j, 0, none⟩) m c) m (gvCells hs)) (hm : m = hs.length) (hlen : gs.length + hs.length ≤ 1000)
    {ops : Array Oper} {rest : List Oper} {o : Oper} {a : Act} {Q : Exit → Act → World → Prop} (hg : o.guard = none) (s y : Operand)
    (ho : o.op = .call { callee := .builtin .append, args := #[s, y], argTypes := #[28, 28] }) (hsv : a.eval s = .slice a0 n0 c0) (hy : a.eval y = .slice (some ⟨j, 0, none⟩) m c)
    (k : ∀ a1 c1 w1, Gr W (.slice a1 (gs.length + hs.length) c1) (gs ++ hs) w1 → wpList Tryd.prog ops Q rest (a.put o.dst (.slice a1 (gs.length + hs.length) c1)) w1) : wpList Tryd.prog ops Q (o :: rest) a w := by
  obtain ⟨i, hi, hz0, hz1, hz2⟩ := info_parts gvInfo
  have hsz := h.below.size
  refine wpList_append_own _ hg s y 28 ho W.heap.size 31 i (.agg #[.int .u64 0, .string ⟨#[]⟩]) 2 24 gvUnder hi hz0 hz1 hz2 rfl (by decide) _ _ _ hsv h.own ⟨j, 0, none⟩ m c (gvCells hs) hy (by rw [gvCells_length, hm]) (own2_cells h2) (gvCells_one hs) (by unfold maxLen; omega) (by omega) hsz ?_
  intro v' w1 hown hgrow _
  obtain ⟨a1, c1, rfl⟩ := own2_slice hown
  rw [hm] at hown ⊢
  refine k a1 c1 w1 ⟨?_, h.below.grown hgrow hsz fun j e => (own2_at h.own e).1⟩
  rw [List.length_append, gvCells_append]
  exact hown
end Go.Proofs.YtpihgffcfoelbaaDoor
