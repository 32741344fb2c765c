/- Several texts in one: NameRef, NameRefAsg. -/
import Derived.Test.YtmnenamdjkjlaaaDoorRunAP
import Derived.Test.YtmnenamdjkjlaaaDoorRegionAll
/- Contracts of the document's: was a name assigned, small; a number's digits. -/
namespace Go.Names
/-- The texts of a row, as lists of bytes. -/
def txts (xs : List ByteArray) : List Bs := xs.map fun x => x.data.toList
def usedB (xs : List ByteArray) (s : ByteArray) : Bool := decide (fold s.data.toList ∈ (txts xs).map fold)
theorem used_yes {xs : List ByteArray} {s x : ByteArray} {j : Nat} (h : xs[j]? = some x) (he : fold x.data.toList = fold s.data.toList) : usedB xs s = true := by
  unfold usedB txts
  rw [decide_eq_true_iff, ← he]
  exact List.mem_map.2 ⟨_, List.mem_map.2 ⟨x, List.mem_of_getElem? h, rfl⟩, rfl⟩
theorem used_no {xs : List ByteArray} {s : ByteArray} (h : ∀ (j : Nat) x, xs[j]? = some x → fold x.data.toList ≠ fold s.data.toList) : usedB xs s = false := by
  unfold usedB txts
  rw [decide_eq_false_iff_not]
  intro hm
  obtain ⟨y, hy, he⟩ := List.mem_map.1 hm
  obtain ⟨x, hx, rfl⟩ := List.mem_map.1 hy
  obtain ⟨j, hj⟩ := List.getElem?_of_mem hx
  exact h j x hj he
theorem ba_eq {a b : Bs} (h : (⟨a.toArray⟩ : ByteArray) = ⟨b.toArray⟩) : a = b := by
  have := congrArg (fun z : ByteArray => z.data.toList) h
  simpa using this
end Go.Names
namespace Go.Proofs.YtmnenamdjkjlaaaDoor
open Go.RowKit Go.Names
end Go.Proofs.YtmnenamdjkjlaaaDoor
/- Contract: the document's Assign. -/
namespace Go.Names
theorem nth_zero (own : Bs) : nth own 0 = own := rfl
end Go.Names
namespace Go.Proofs.YtmnenamdjkjlaaaDoor
open Go.RowKit Go.Names
/-- A row of texts of one's own. -/
structure Ar (W : World) (vo : Value) (outs : List Bs) (w : World) : Prop where
  own : w.ownsRow W.heap.size 9 1 vo outs.length (strV outs)
  below : Below W.heap.size W w
set_option maxRecDepth 100000 in
theorem Ar.step {W w w' : World} {vo : Value} {outs : List Bs} (h : Ar W vo outs w) (k : Below w.heap.size w w') : Ar W vo outs w' := by
  refine ⟨own_stays h.own (fun j hj => ?_), h.below.trans (k.mono h.below.size)⟩
  obtain ⟨_, cur, z, hc⟩ := own_at h.own hj
  exact k.block j (lt_of_block hc)
set_option maxRecDepth 100000 in
theorem strs_txts (outs : List Bs) : txts (outs.map fun x => (⟨x.toArray⟩ : ByteArray)) = outs := by
  unfold txts
  rw [List.map_map]
  conv => rhs; rw [← List.map_id outs]
  exact List.map_congr_left fun x _ => rfl
set_option maxRecDepth 100000 in
theorem Ar.reads {W w : World} {vo : Value} {outs : List Bs} (h : Ar W vo outs w) : StrRow.Reads w vo (outs.map fun x => (⟨x.toArray⟩ : ByteArray)) := by
  refine StrRow.Reads.of_own (base := W.heap.size) (e := 9) (n := outs.length) ?_
  have := h.own
  unfold strV at this
  rw [List.map_map]
  exact this
set_option maxRecDepth 100000 in
theorem Ar.append {W w : World} {a0 : Option Addr} {n0 c0 : Nat} {outs : List Bs} (h : Ar W (.slice a0 n0 c0) outs w) (x : Bs) (hlen : outs.length ≤ 1000)
    {ops : Array Oper} {rest : List Oper} {o : Oper} {a : Act} {Q : Exit → Act → World → Prop} (hg : o.guard = none) (s y : Operand)
    (ho : o.op = .call { callee := .builtin .append, args := #[s, y], argTypes := #[61, 61] }) (hs : a.eval s = .slice a0 n0 c0) (hy : a.eval y = .slice (some ⟨w.heap.size, 0, none⟩) 1 1) {tt : TypeId} {u : Value} (hu : u = .string ⟨x.toArray⟩)
    (k : ∀ a1 c1 w1, Ar W (.slice a1 (outs.length + 1) c1) (outs ++ [x]) w1 → wpList Tryd.prog ops Q rest (a.put o.dst (.slice a1 (outs.length + 1) c1)) w1) : wpList Tryd.prog ops Q (o :: rest) a (w.alloc (.cells #[u] tt)) := by
  subst hu
  obtain ⟨i9, hi9, hz0, hz1, hz2⟩ := info_parts nInfo9
  have hsz := h.below.size
  refine wpList_append_own _ hg s y 61 ho W.heap.size 9 i9 (.string ⟨#[]⟩) 1 16 nUnderS hi9 hz0 hz1 hz2 rfl (by decide) _ _ _ hs (h.own.alloc _) ⟨w.heap.size, 0, none⟩ 1 1 [.string ⟨x.toArray⟩] hy rfl (cell_new _ _ _) (fun u hu => by simp at hu; subst hu; rfl) (by unfold maxLen; omega) (by omega) (by simp; omega) ?_
  intro v' w1 hown hgrow _
  obtain ⟨a1, c1, rfl⟩ := own_slice hown
  refine k a1 c1 w1 ⟨?_, (h.below.alloc hsz _).grown hgrow (by simp; omega) fun j e => (own_at h.own e).1⟩
  rw [List.length_append]
  unfold strV at hown ⊢
  rw [List.map_append]
  exact hown
set_option maxRecDepth 100000 in
theorem used_is (outs : List Bs) (s : ByteArray) : usedB (outs.map fun x => (⟨x.toArray⟩ : ByteArray)) s = decide (fold s.data.toList ∈ outs.map fold) := by
  unfold usedB
  rw [strs_txts]
end Go.Proofs.YtmnenamdjkjlaaaDoor
