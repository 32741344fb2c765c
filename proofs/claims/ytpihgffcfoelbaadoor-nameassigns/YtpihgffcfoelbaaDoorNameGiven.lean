/- A row of things with names of one's own: how it grows, how it is read. -/
import Derived.Test.YtpihgffcfoelbaaDoorNameRefAsg
namespace Go.Names
open Go.RowKit
def gvCells (gs : List (Int × ByteArray)) : List Value := gs.flatMap fun g => [.int .u64 g.1, .string g.2]
theorem gvCells_append (a b : List (Int × ByteArray)) : gvCells (a ++ b) = gvCells a ++ gvCells b := List.flatMap_append
theorem gvCells_length (gs : List (Int × ByteArray)) : (gvCells gs).length = gs.length * 2 := by
  induction gs with
  | nil => rfl
  | cons g gs ih =>
    show (_ :: _ :: gvCells gs).length = _
    rw [List.length_cons, List.length_cons, ih, List.length_cons]
    omega
theorem gvCells_at : ∀ (gs : List (Int × ByteArray)) (j : Nat) (g : Int × ByteArray), gs[j]? = some g → (gvCells gs)[j * 2]? = some (.int .u64 g.1) ∧ (gvCells gs)[j * 2 + 1]? = some (.string g.2)
  | [], j, g, h => by cases h
  | x :: gs, 0, g, h => by cases h; exact ⟨rfl, rfl⟩
  | x :: gs, j + 1, g, h => by
    have := gvCells_at gs j g h
    rw [show (j + 1) * 2 = j * 2 + 1 + 1 by omega]
    exact this
theorem Gvs.of_own {base e : Nat} {w : World} {v : Value} {n : Nat} {gs : List (Int × ByteArray)} (hn : n = gs.length) (h : w.ownsRow base e 2 v n (gvCells gs)) : Gvs w v gs := by
  subst hn
  obtain ⟨h0, h1⟩ := h
  rcases h1 with ⟨h1, h2⟩ | ⟨g, cap, cur, h1, h2, h3, h4, h5, h6, h7⟩
  · exact .inl ⟨⟨none, 0, by rw [h1]⟩, List.length_eq_zero_iff.1 h2⟩
  · have hlt : g < w.heap.size := by
      rcases Nat.lt_or_ge g w.heap.size with h | h
      · exact h
      · rw [Array.getElem?_eq_none h] at h3; cases h3
    refine .inr ⟨g, 0, cap, h1, hlt, h4, fun j x hj => ?_⟩
    have hjl : j < gs.length := (List.getElem?_eq_some_iff.1 hj).1
    obtain ⟨c0, c1⟩ := gvCells_at gs j x hj
    rw [← h7] at c0 c1
    rw [List.getElem?_take_of_lt (by omega), Array.getElem?_toList] at c0 c1
    rw [Nat.zero_add, cell_of_row _ _ _ _ _ _ h3, cell_of_row _ _ _ _ _ _ h3]
    exact ⟨c0, c1⟩
end Go.Names
namespace Go.Proofs.YtpihgffcfoelbaaDoor
open Go.RowKit Go.Names
theorem gvUnder : Tryd.prog.underlying 28 = some (.slice 31) := by kernel_rfl
theorem gvInfo : (Tryd.prog.info? 31).map (fun i => (i.zero, i.size, i.bytes)) = some (some (.agg #[.int .u64 0, .string ⟨#[]⟩]), 2, 24) := by kernel_rfl
/-- Things with names in a row of one's own. -/
structure Gr (W : World) (vo : Value) (gs : List (Int × ByteArray)) (w : World) : Prop where
  own : w.ownsRow W.heap.size 31 2 vo gs.length (gvCells gs)
  below : Below W.heap.size W w
theorem own2_slice {W : World} {base e : Nat} {v : Value} {k : Nat} {xs : List Value} (h : W.ownsRow base e 2 v k xs) : ∃ a c, v = .slice a k c := by
  rcases h.2 with ⟨rfl, h0⟩ | ⟨j, cap, cur, rfl, _⟩
  · exact ⟨none, 0, by rw [h0]⟩
  · exact ⟨_, _, rfl⟩
theorem own2_at {W : World} {base e : Nat} {v : Value} {k j : Nat} {xs : List Value} (h : W.ownsRow base e 2 v k xs) (ej : v.ownBlock = some j) : base ≤ j ∧ ∃ cur z, W.heap[j]? = some (.cells cur e z) := by
  rcases h.2 with ⟨rfl, _⟩ | ⟨b, cap, cur, rfl, h2, h3, _⟩
  · cases ej
  · cases ej; exact ⟨h2, _, _, h3⟩
theorem own2_stays {W W' : World} {base : Nat} {e : TypeId} {v : Value} {k : Nat} {xs : List Value} (h : W.ownsRow base e 2 v k xs) (hb : ∀ j, v.ownBlock = some j → W'.heap[j]? = W.heap[j]?) : W'.ownsRow base e 2 v k xs := by
  obtain ⟨h0, h1⟩ := h
  refine ⟨h0, ?_⟩
  rcases h1 with h1 | ⟨j, cap, cur, rfl, h2, h3, h4⟩
  · exact .inl h1
  · exact .inr ⟨j, cap, cur, rfl, h2, (hb j rfl).trans h3, h4⟩
theorem Gr.step {W w w' : World} {vo : Value} {gs : List (Int × ByteArray)} (h : Gr W vo gs w) (k : Below w.heap.size w w') : Gr W vo gs w' := by
  refine ⟨own2_stays h.own (fun j hj => ?_), h.below.trans (k.mono h.below.size)⟩
  obtain ⟨_, cur, z, hc⟩ := own2_at h.own hj
  exact k.block j (lt_of_block hc)
theorem Gr.gvs {W w : World} {vo : Value} {gs : List (Int × ByteArray)} (h : Gr W vo gs w) : Gvs w vo gs := Gvs.of_own rfl h.own
theorem cells2_new (w : World) (x y : Value) (t : TypeId) : ∀ j u, [x, y][j]? = some u → (w.alloc (.cells #[x, y] t)).cell? ((⟨w.heap.size, 0, none⟩ : Addr).add j) = some u := by
  intro j u hj
  match j, hj with
  | 0, hj => simp at hj; subst hj; simp [Addr.add]
  | 1, hj => simp at hj; subst hj; simp [Addr.add]
theorem Gr.append {W w : World} {a0 : Option Addr} {n0 c0 : Nat} {gs : List (Int × ByteArray)} (h : Gr W (.slice a0 n0 c0) gs w) (g : Int × ByteArray) (hlen : gs.length ≤ 1000)
    {ops : Array Oper} {rest : List Oper} {o : Oper} {a : Act} {Q : Exit → Act → World → Prop} (hg : o.guard = none) (s y : Operand)
    (ho : o.op = .call { callee := .builtin .append, args := #[s, y], argTypes := #[28, 28] }) (hs : a.eval s = .slice a0 n0 c0) (hy : a.eval y = .slice (some ⟨w.heap.size, 0, none⟩) 1 1) {tt : TypeId}
    (k : ∀ a1 c1 w1, Gr W (.slice a1 (gs.length + 1) c1) (gs ++ [g]) w1 → wpList Tryd.prog ops Q rest (a.put o.dst (.slice a1 (gs.length + 1) c1)) w1) : wpList Tryd.prog ops Q (o :: rest) a (w.alloc (.cells #[.int .u64 g.1, .string g.2] tt)) := by
  obtain ⟨i, hi, hz0, hz1, hz2⟩ := info_parts gvInfo
  have hsz := h.below.size
  refine wpList_append_own _ hg s y 28 ho W.heap.size 31 i (.agg #[.int .u64 0, .string ⟨#[]⟩]) 2 24 gvUnder hi hz0 hz1 hz2 rfl (by decide) _ _ _ hs (h.own.alloc _) ⟨w.heap.size, 0, none⟩ 1 1 [.int .u64 g.1, .string g.2] hy rfl (cells2_new _ _ _ _) (fun u hu => by simp at hu; rcases hu with rfl | rfl <;> rfl) (by unfold maxLen; omega) (by omega) (by simp; omega) ?_
  intro v' w1 hown hgrow _
  obtain ⟨a1, c1, rfl⟩ := own2_slice hown
  refine k a1 c1 w1 ⟨?_, (h.below.alloc hsz _).grown hgrow (by simp; omega) fun j e => (own2_at h.own e).1⟩
  rw [List.length_append, gvCells_append]
  exact hown
theorem Gr.made (W : World) : Gr W (.slice (some ⟨W.heap.size, 0, none⟩) 0 0) [] (W.alloc (.cells #[] 31)) :=
  ⟨World.ownsRow_made W #[] 0 (Nat.le_refl _) (Nat.zero_le _) rfl, (Below.refl _ W).alloc (Nat.le_refl _) _⟩
end Go.Proofs.YtpihgffcfoelbaaDoor
