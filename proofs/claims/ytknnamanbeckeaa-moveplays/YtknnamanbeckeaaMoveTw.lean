/- A tree beside other memory, call by call; rows of operations. -/
import Derived.Test.YtknnamanbeckeaaMoveAdd
namespace Go.Mov
open Go.RowKit
/-- What comes of operations that come one behind the other: the list, and how many were taken back. -/
def addU (p : List En × Int) (e : En) : List En × Int := (addE p.1 e, p.2 + backs p.1 e)
def addsU (l : List En) : List En × Int := l.foldl addU ([], 0)
theorem addsU_snoc (l : List En) (e : En) : addsU (l ++ [e]) = addU (addsU l) e := by unfold addsU; rw [List.foldl_append]; rfl
theorem addsU_bound : ∀ (l : List En), (addsU l).1.length ≤ l.length ∧ 0 ≤ (addsU l).2 ∧ (addsU l).2 ≤ l.length * l.length := by
  intro l
  suffices h : ∀ (r : List En) (p : List En × Int) (n : Nat), p.1.length ≤ n → 0 ≤ p.2 → p.2 ≤ n * n → (r.foldl addU p).1.length ≤ n + r.length ∧ 0 ≤ (r.foldl addU p).2 ∧ (r.foldl addU p).2 ≤ ((n + r.length : Nat) : Int) * ((n + r.length : Nat) : Int) by
    have := h l ([], 0) 0 (Nat.le_refl _) (Int.le_refl _) (by simp)
    simpa [addsU] using this
  intro r
  induction r with
  | nil => intro p n h1 h2 h3; exact ⟨h1, h2, h3⟩
  | cons e r ih =>
    intro p n h1 h2 h3
    have hb := backs_le p.1 e
    have hl := addE_length p.1 e
    have := ih (addU p e) (n + 1) (by show (addE p.1 e).length ≤ _; omega) (by show 0 ≤ p.2 + _; omega) (by
      show p.2 + (backs p.1 e : Int) ≤ _
      have e1 : ((n + 1 : Nat) : Int) * ((n + 1 : Nat) : Int) = n * n + 2 * n + 1 := by
        rw [Int.natCast_add, Int.mul_add, Int.add_mul]; simp; omega
      rw [e1]; omega)
    rw [List.foldl_cons, List.length_cons, show n + (r.length + 1) = n + 1 + r.length by omega]
    exact this
theorem addE_fits {l : List En} {e : En} (hl : ∀ x ∈ l, x.Fits) (he : e.Fits) : ∀ x ∈ addE l e, x.Fits := by
  unfold addE
  split
  · exact hl
  · intro x hx
    rcases mem_ins.1 hx with rfl | hx
    · exact he
    · exact hl x hx
theorem addE_ord {l : List En} {e : En} (hl : Ord l) : Ord (addE l e) := by
  unfold addE
  split
  · exact hl
  · rename_i h; exact ord_ins hl (by simpa using h)
theorem cells10 {w : World} {g o : Nat} {e : En} (h : w.rangeAt g o e.cs) : w.cell? ⟨g, o, none⟩ = some (.int .i64 e.op.kind) ∧ w.cell? ⟨g, o + 1, none⟩ = some (.int .u64 e.op.tm.c) ∧ w.cell? ⟨g, o + 2, none⟩ = some (.int .i64 e.op.tm.k) ∧ w.cell? ⟨g, o + 3, none⟩ = some (.int .u64 e.op.thing) ∧ w.cell? ⟨g, o + 4, none⟩ = some (.int .u64 e.op.par) ∧ w.cell? ⟨g, o + 5, none⟩ = some (.string e.op.name) ∧ w.cell? ⟨g, o + 6, none⟩ = some (.bool e.op.dir) ∧ w.cell? ⟨g, o + 7, none⟩ = some (.string e.op.dg) ∧ w.cell? ⟨g, o + 8, none⟩ = some (.int .i64 e.op.size) ∧ w.cell? ⟨g, o + 9, none⟩ = some (.string e.h) :=
  ⟨h 0 _ rfl, h 1 _ rfl, h 2 _ rfl, h 3 _ rfl, h 4 _ rfl, h 5 _ rfl, h 6 _ rfl, h 7 _ rfl, h 8 _ rfl, h 9 _ rfl⟩
theorem ecs_at : ∀ {es : List En} {i : Nat} {e : En}, es[i]? = some e → ∀ j u, e.cs[j]? = some u → (es.flatMap En.cs)[i * 10 + j]? = some u
  | [], i, s, h, _, _, _ => by simp at h
  | a :: r, 0, s, h, j, u, hu => by
    simp only [List.getElem?_cons_zero, Option.some.injEq] at h
    subst h
    rw [List.flatMap_cons, List.getElem?_append_left]
    · simpa using hu
    · have := (List.getElem?_eq_some_iff.1 hu).1
      simpa using this
  | a :: r, i + 1, s, h, j, u, hu => by
    rw [List.flatMap_cons, List.getElem?_append_right (by show 10 ≤ _; omega)]
    rw [show (i + 1) * 10 + j - a.cs.length = i * 10 + j by show (i + 1) * 10 + j - 10 = _; omega]
    exact ecs_at (es := r) (by simpa using h) j u hu
theorem row_ens {w : World} {g T : Nat} {es : List En} (h : w.heap[g]? = some (.cells (es.flatMap En.cs).toArray T (0, 0))) {i : Nat} {e : En} (he : es[i]? = some e) : w.rangeAt g (i * 10) e.cs := fun j u hu => by
  rw [cell_of_row _ _ _ _ _ _ h, List.getElem?_toArray]
  exact ecs_at he j u hu
end Go.Mov
namespace Go.Proofs.Ytknnamanbeckeaa
open Go.RowKit Go.Opn Go.Stamp Go.MapInt Go.Mov Go.Shelf
/-- The tree in block b, all from W on; blocks S are not its own. -/
structure Tw (W : World) (b : Nat) (S : Nat → Prop) (l : List En) (u : Int) (v : World) : Prop where
  t : ∃ F : Ft, F.b = b ∧ TreeAt Try.prog 30 66 75 W.heap.size F l u v ∧ ∀ x, S x → ¬ F.has x
  lt : ∀ x, S x → x < v.heap.size
  k : Below W.heap.size W v
variable {W v v' : World} {b : Nat} {S : Nat → Prop} {l : List En} {u : Int}
theorem Tw.below (h : Tw W b S l u v) (k : Below v.heap.size v v') : Tw W b S l u v' := by
  obtain ⟨F, h1, h2, h3⟩ := h.t
  exact ⟨⟨F, h1, h2.below k, h3⟩, fun x hx => Nat.lt_of_lt_of_le (h.lt x hx) k.size, h.k.trans (k.mono h.k.size)⟩
/-- Blocks that came behind are not its own. -/
theorem Tw.more (h : Tw W b S l u v) (k : Below v.heap.size v v') (g : Nat) (h1 : v.heap.size ≤ g) (h2 : g < v'.heap.size) : Tw W b (fun x => S x ∨ x = g) l u v' := by
  obtain ⟨F, e1, e2, e3⟩ := h.t
  refine ⟨⟨F, e1, e2.below k, ?_⟩, ?_, h.k.trans (k.mono h.k.size)⟩
  · rintro x (hx | rfl) hf
    · exact e3 x hx hf
    · have := e2.lt x hf; omega
  · rintro x (hx | rfl)
    · exact Nat.lt_of_lt_of_le (h.lt x hx) k.size
    · exact h2
theorem Tw.turn (h : Tw W b S l u v) (k : Below v.heap.size v v') {S' : Nat → Prop} (hs : ∀ x, S' x → S x ∨ (v.heap.size ≤ x ∧ x < v'.heap.size)) : Tw W b S' l u v' := by
  obtain ⟨F, e1, e2, e3⟩ := h.t
  refine ⟨⟨F, e1, e2.below k, fun x hx hf => ?_⟩, fun x hx => ?_, h.k.trans (k.mono h.k.size)⟩
  · rcases hs x hx with h' | h'
    · exact e3 x h' hf
    · have := e2.lt x hf; omega
  · rcases hs x hx with h' | h'
    · exact Nat.lt_of_lt_of_le (h.lt x h') k.size
    · exact h'.2
theorem Tw.less (h : Tw W b S l u v) {S' : Nat → Prop} (hs : ∀ x, S' x → S x) : Tw W b S' l u v := by
  obtain ⟨F, e1, e2, e3⟩ := h.t
  exact ⟨⟨F, e1, e2, fun x hx => e3 x (hs x hx)⟩, fun x hx => h.lt x (hs x hx), h.k⟩
theorem newTw_any (w : World) : Calls Try.prog 5 #[] w fun r w' => ∃ b, r = .returned (.pointer (some ⟨b, 0, none⟩)) ∧ Tw w b (fun _ => False) [] 0 w' := by
  refine (newTree_any w).mono ?_
  rintro r w' ⟨F, rfl, h1, h2⟩
  exact ⟨F.b, rfl, ⟨F, rfl, h1, fun x hx => hx.elim⟩, fun x hx => hx.elim, h2⟩
theorem addTw_any (e : En) (h : Tw W b S l u v) (he : e.Fits) (hl : l.length ≤ 90000) (hu : 0 ≤ u ∧ u ≤ 1000000000000) :
    Calls Try.prog 10 #[.pointer (some ⟨b, 0, none⟩), e.v] v fun r w' => r = .returned (.bool (!known l e)) ∧ Tw W b S (addE l e) (u + backs l e) w' ∧ (∀ x, S x → w'.heap[x]? = v.heap[x]?) ∧ v.heap.size ≤ w'.heap.size := by
  obtain ⟨F, rfl, h2, h3⟩ := h.t
  refine (add_any e v h2 he hl hu h.k.size).mono ?_
  rintro r w' ⟨F', rfl, hb, ht, hto, htn⟩
  have hk : Below W.heap.size v w' := htn.below h2.low h.k.size
  refine ⟨rfl, ⟨⟨F', hb, ht, fun x hx hf => ?_⟩, fun x hx => Nat.lt_of_lt_of_le (h.lt x hx) htn.size, h.k.trans hk⟩, fun x hx => htn.block x (h.lt x hx) (h3 x hx), htn.size⟩
  rcases hto x hf with e | e
  · exact h3 x hx e
  · have := h.lt x hx; omega
theorem Tw.ths (h : Tw W b S l u v) : ∃ mb, ThsAt Try.prog 30 b mb (ths [] l) v := by
  obtain ⟨F, rfl, h2, _⟩ := h.t
  exact ⟨F.mb, h2.g.ths⟩
theorem Tw.fits (h : Tw W b S l u v) : ∀ e ∈ l, e.Fits := by obtain ⟨F, _, h2, _⟩ := h.t; exact h2.fits
theorem Tw.ord (h : Tw W b S l u v) : Ord l := by obtain ⟨F, _, h2, _⟩ := h.t; exact h2.ord
theorem getTw_any (h : Tw W b S l u v) (k : Int) (hk : Num k) :
    Calls Try.prog 19 #[.pointer (some ⟨b, 0, none⟩), .int .u64 k] v fun r w' => r = .returned (.tuple #[((Mov.look (ths [] l) k).getD Th.zero).v, .bool (Mov.look (ths [] l) k).isSome]) ∧ Below v.heap.size v w' := by
  obtain ⟨mb, h1⟩ := h.ths
  exact getTree_any k v h1 hk
theorem undoneTw_any (h : Tw W b S l u v) : Calls Try.prog 20 #[.pointer (some ⟨b, 0, none⟩)] v fun r w' => r = .returned (.int .i64 u) ∧ w' = v := by
  obtain ⟨F, rfl, h2, _⟩ := h.t
  exact undone_any v h2
theorem lenTw_any (h : Tw W b S l u v) : Calls Try.prog 12 #[.pointer (some ⟨b, 0, none⟩)] v fun r w' => r = .returned (.int .i64 l.length) ∧ w' = v := by
  obtain ⟨F, rfl, h2, _⟩ := h.t
  exact lenTree_any v h2
end Go.Proofs.Ytknnamanbeckeaa
