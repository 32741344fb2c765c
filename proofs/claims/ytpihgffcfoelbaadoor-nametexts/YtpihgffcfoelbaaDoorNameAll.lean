/- Contract: the names of things below one folder. -/
import Derived.Test.YtpihgffcfoelbaaDoorNameAssign
import Derived.Laws.AppendOwn
namespace Go.Names
open Go.RowKit
theorem own_slice {W : World} {base e : Nat} {v : Value} {k : Nat} {xs : List Value} (h : W.ownsRow base e 1 v k xs) : ∃ a c, v = .slice a k c := by
  rcases h.2 with ⟨rfl, h0⟩ | ⟨j, cap, cur, rfl, _⟩
  · exact ⟨none, 0, by rw [h0]⟩
  · exact ⟨_, _, rfl⟩
theorem own_at {W : World} {base e : Nat} {v : Value} {k j : Nat} {xs : List Value} (h : W.ownsRow base e 1 v k xs) (ej : v.ownBlock = some j) : base ≤ j ∧ ∃ cur z, W.heap[j]? = some (.cells cur e z) := by
  rcases h.2 with ⟨rfl, _⟩ | ⟨b, cap, cur, rfl, h2, h3, _⟩
  · cases ej
  · cases ej; exact ⟨h2, _, _, h3⟩
theorem own_stays {W W' : World} {base : Nat} {e : TypeId} {v : Value} {k : Nat} {xs : List Value} (h : W.ownsRow base e 1 v k xs) (hb : ∀ j, v.ownBlock = some j → W'.heap[j]? = W.heap[j]?) : W'.ownsRow base e 1 v k xs := by
  obtain ⟨h0, h1⟩ := h
  refine ⟨h0, ?_⟩
  rcases h1 with h1 | ⟨j, cap, cur, rfl, h2, h3, h4⟩
  · exact .inl h1
  · exact .inr ⟨j, cap, cur, rfl, h2, (hb j rfl).trans h3, h4⟩
theorem cell_new (w : World) (x : Value) (t : TypeId) : ∀ j u, [x][j]? = some u → (w.alloc (.cells #[x] t)).cell? ((⟨w.heap.size, 0, none⟩ : Addr).add j) = some u := by
  intro j u hj
  match j, hj with
  | 0, hj => simp at hj; subst hj; simp [Addr.add]
/-- A slice of things with names, as it is read. -/
def Gvs (w : World) (v : Value) (gs : List (Int × ByteArray)) : Prop :=
  ((∃ a cap, v = .slice a 0 cap) ∧ gs = []) ∨ ∃ b off cap, v = .slice (some ⟨b, off, none⟩) gs.length cap ∧ b < w.heap.size ∧ gs.length ≤ cap ∧ ∀ j g, gs[j]? = some g → w.cell? ⟨b, off + j * 2, none⟩ = some (.int .u64 g.1) ∧ w.cell? ⟨b, off + j * 2 + 1, none⟩ = some (.string g.2)
theorem Gvs.form {w : World} {v : Value} {gs : List (Int × ByteArray)} (h : Gvs w v gs) : ∃ a c, v = .slice a gs.length c := by
  rcases h with ⟨⟨a, cap, h⟩, rfl⟩ | ⟨b, off, cap, h1, _⟩
  · exact ⟨a, cap, h⟩
  · exact ⟨_, cap, h1⟩
theorem Gvs.below {w w' : World} {v : Value} {gs : List (Int × ByteArray)} {B : Nat} (h : Gvs w v gs) (hB : w.heap.size ≤ B) (hb : Below B w w') : Gvs w' v gs := by
  rcases h with h | ⟨b, off, cap, h1, h2, h3, h4⟩
  · exact .inl h
  · exact .inr ⟨b, off, cap, h1, Nat.lt_of_lt_of_le h2 hb.size, h3, fun j g hj => by
      rw [hb.cell (p := ⟨b, off + j * 2, none⟩) (by show b < B; omega), hb.cell (p := ⟨b, off + j * 2 + 1, none⟩) (by show b < B; omega)]
      exact h4 j g hj⟩
theorem Gvs.at {w : World} {a : Option Addr} {n c : Nat} {gs : List (Int × ByteArray)} (h : Gvs w (.slice a n c) gs) (hn : 0 < n) : ∃ b off, a = some ⟨b, off, none⟩ ∧ b < w.heap.size ∧ n ≤ c ∧ ∀ j g, gs[j]? = some g → w.cell? ⟨b, off + j * 2, none⟩ = some (.int .u64 g.1) ∧ w.cell? ⟨b, off + j * 2 + 1, none⟩ = some (.string g.2) := by
  rcases h with ⟨⟨a', cap, h⟩, _⟩ | ⟨b, off, cap, h1, h2, h3, h4⟩
  · simp only [Value.slice.injEq] at h; omega
  · simp only [Value.slice.injEq] at h1
    obtain ⟨rfl, rfl, rfl⟩ := h1
    exact ⟨b, off, rfl, h2, h3, h4⟩
/-- The names of a list of things. -/
def namesOf (gs : List (Int × ByteArray)) : List Bs := gs.map fun g => g.2.data.toList
def strV (l : List Bs) : List Value := l.map fun x => .string ⟨x.toArray⟩
theorem strV_length (l : List Bs) : (strV l).length = l.length := List.length_map _
end Go.Names
namespace Go.Proofs.YtpihgffcfoelbaaDoor
open Go.RowKit Go.Names Go.MapFun Go.Maps
theorem nUnderS : Tryd.prog.underlying 27 = some (.slice 9) := by kernel_rfl
theorem nInfo9 : (Tryd.prog.info? 9).map (fun i => (i.zero, i.size, i.bytes)) = some (some (.string ⟨#[]⟩), 1, 16) := by kernel_rfl
theorem FoAt.grown {base N : Nat} {F : Fo} {T : List Bs} {nx : Key → Option Int} {w w' : World} (h : FoAt base N F T nx w) (hs : w.heap.size ≤ w'.heap.size) (hb : ∀ k, k < w.heap.size → k = F.fb ∨ k = F.tb ∨ k = F.nb ∨ k < 6 → w'.heap[k]? = w.heap[k]?) : FoAt base N F T nx w' :=
  have ⟨l1, l2, l3, l4⟩ := h.lt
  ⟨(hb _ l1 (.inl rfl)).trans h.row, h.tk.kept (hb _ l2 (.inr (.inl rfl))), h.nxt.kept (hb _ l3 (.inr (.inr (.inl rfl)))), h.fb, h.tb, h.nb, h.ne, h.bs, h.vt.kept hs fun k hk => hb k (by have := h.vt.size; omega) (.inr (.inr (.inr hk)))⟩
/-- What Assign keeps. -/
structure An (W : World) (N : Nat) (F : Fo) (T : List Bs) (vo : Value) (outs : List Bs) (w : World) : Prop where
  fo : FoIs W.heap.size N F T w
  own : w.ownsRow W.heap.size 9 1 vo outs.length (strV outs)
  below : Below W.heap.size W w
theorem An.step {W w w' : World} {N : Nat} {F : Fo} {T : List Bs} {vo : Value} {outs : List Bs} (h : An W N F T vo outs w) (k : Below w.heap.size w w') : An W N F T vo outs w' := by
  obtain ⟨nx, h1, h2⟩ := h.fo
  refine ⟨⟨nx, h1.below (Nat.le_refl _) k, h2⟩, own_stays h.own (fun j hj => ?_), h.below.trans (k.mono h.below.size)⟩
  obtain ⟨_, cur, z, hc⟩ := own_at h.own hj
  exact k.block j (lt_of_block hc)
theorem An.turn {W w w' : World} {N N' : Nat} {F : Fo} {T T' : List Bs} {vo : Value} {outs : List Bs} (h : An W N F T vo outs w) (k : FoEx W.heap.size N' F T' w w') : An W N' F T' vo outs w' := by
  obtain ⟨nx, h1, h2⟩ := h.fo
  obtain ⟨k1, k2⟩ := k
  refine ⟨k1, own_stays h.own (fun j hj => ?_), h.below.trans (h1.tnb k2)⟩
  obtain ⟨_, cur, z, hc⟩ := own_at h.own hj
  refine k2.block j (lt_of_block hc) (fun e => ?_) (fun e => ?_)
  · obtain ⟨es, cl, hk⟩ := h1.tk.kind
    rw [e, hk] at hc
    cases hc
  · obtain ⟨es, cl, hk⟩ := h1.nxt.kind
    rw [e, hk] at hc
    cases hc
/-- append(names, x). -/
theorem An.append {W w : World} {N : Nat} {F : Fo} {T : List Bs} {a0 : Option Addr} {n0 c0 : Nat} {outs : List Bs} (h : An W N F T (.slice a0 n0 c0) outs w) (x : Bs) (hlen : outs.length ≤ 1000)
    {ops : Array Oper} {rest : List Oper} {o : Oper} {a : Act} {Q : Exit → Act → World → Prop} (hg : o.guard = none) (s y : Operand)
    (ho : o.op = .call { callee := .builtin .append, args := #[s, y], argTypes := #[27, 27] }) (hs : a.eval s = .slice a0 n0 c0) (hy : a.eval y = .slice (some ⟨w.heap.size, 0, none⟩) 1 1) {tt : TypeId}
    (k : ∀ a1 c1 w1, An W N F T (.slice a1 (outs.length + 1) c1) (outs ++ [x]) w1 → wpList Tryd.prog ops Q rest (a.put o.dst (.slice a1 (outs.length + 1) c1)) w1) : wpList Tryd.prog ops Q (o :: rest) a (w.alloc (.cells #[.string ⟨x.toArray⟩] tt)) := by
  obtain ⟨i9, hi9, hz0, hz1, hz2⟩ := info_parts nInfo9
  have hsz := h.below.size
  refine wpList_append_own _ hg s y 27 ho W.heap.size 9 i9 (.string ⟨#[]⟩) 1 16 nUnderS hi9 hz0 hz1 hz2 rfl (by decide) _ _ _ hs (h.own.alloc _) ⟨w.heap.size, 0, none⟩ 1 1 [.string ⟨x.toArray⟩] hy rfl (cell_new _ _ _) (fun u hu => by simp at hu; subst hu; rfl) (by unfold maxLen; omega) (by omega) (by simp; omega) ?_
  intro v' w1 hown hgrow _
  obtain ⟨a1, c1, rfl⟩ := own_slice hown
  refine k a1 c1 w1 ?_
  obtain ⟨nx, h1, h2⟩ := h.fo
  have ⟨l1, l2, l3, l4⟩ := h1.lt
  have hblk : ∀ j, j < w.heap.size → some j ≠ (Value.slice a0 n0 c0).ownBlock → w1.heap[j]? = w.heap[j]? := fun j hj hne => (hgrow.block j (by simp; omega) hne).trans (heap_alloc_old _ _ hj)
  refine ⟨⟨nx, h1.grown (by have := hgrow.size; simp at this; omega) (fun j hj hc => hblk j hj (fun e => ?_)), h2⟩, ?_, ?_⟩
  · obtain ⟨hbs, cur, z, hcur⟩ := own_at h.own e.symm
    rcases hc with rfl | rfl | rfl | hc
    · have := h1.row; rw [hcur] at this; cases this
    · obtain ⟨es, cl, hk⟩ := h1.tk.kind; rw [hcur] at hk; cases hk
    · obtain ⟨es, cl, hk⟩ := h1.nxt.kind; rw [hcur] at hk; cases hk
    · have := h1.bs; omega
  · rw [List.length_append]
    unfold strV at hown ⊢
    rw [List.map_append]
    exact hown
  · exact (h.below.alloc hsz _).grown hgrow (by simp; omega) fun j e => (own_at h.own e).1
end Go.Proofs.YtpihgffcfoelbaaDoor
