/- What is taken back: its memory, round by round. -/
import Derived.Test.YtknnamanbeckeaaMoveBackOf
import Derived.Test.YtknnamanbeckeaaMoveTree
import Derived.Test.YtknnamanbeckeaaMoveBecomes
import Derived.Test.YtknnamanbeckeaaRoundTail
namespace Go.Mov
open Go.RowKit Go.MapInt
theorem StepsAt.dropped {w : World} {g off c n : Nat} {ss : List Sp} (h : StepsAt w (.slice (some ⟨g, off, none⟩) ss.length c) ss) (hn : n ≤ ss.length) : StepsAt w (.slice (some ⟨g, off + n * 17, none⟩) (ss.length - n) (c - n)) (ss.drop n) := by
  rcases h with ⟨h, _⟩ | ⟨g', off', cap, h1, h2, h3, h4⟩
  · cases h
  · simp only [Value.slice.injEq, Option.some.injEq, Addr.mk.injEq, and_true, true_and] at h1
    obtain ⟨⟨rfl, rfl⟩, rfl⟩ := h1
    refine .inr ⟨g, off + n * 17, c - n, by rw [List.length_drop], h2, by rw [List.length_drop]; omega, fun i s hs => ?_⟩
    rw [List.getElem?_drop] at hs
    have := h4 _ s hs
    rw [show off + n * 17 + i * 17 = off + (n + i) * 17 by omega]
    exact this
theorem own_take {w : World} {base e g c L n : Nat} {xs : List Value} (h : w.ownsRow base e 17 (.slice (some ⟨g, 0, none⟩) L c) L xs) (hn : n ≤ L) : w.ownsRow base e 17 (.slice (some ⟨g, 0, none⟩) n c) n (xs.take (n * 17)) := by
  rcases h.2 with ⟨h1, _⟩ | ⟨g', cap, cur, h1, h2, h3, h4, h5, h6, h7⟩
  · cases h1
  · simp only [Value.slice.injEq, Option.some.injEq, Addr.mk.injEq, and_true, true_and] at h1
    obtain ⟨rfl, rfl⟩ := h1
    have hl := h.1
    refine ⟨by rw [List.length_take, hl]; exact Nat.min_eq_left (Nat.mul_le_mul_right _ hn), .inr ⟨g, c, cur, rfl, h2, h3, by omega, h5, h6, ?_⟩⟩
    rw [← h7, List.take_take, Nat.min_eq_left (Nat.mul_le_mul_right _ hn)]
theorem flat_take {a b : List Sp} : ((a ++ b).flatMap Sp.cs).take (a.length * 17) = a.flatMap Sp.cs := by
  rw [List.flatMap_append]
  have : (a.flatMap Sp.cs).length = a.length * 17 := by
    induction a with
    | nil => rfl
    | cons x r ih => rw [List.flatMap_cons, List.length_append, ih, Sp.cs_length, List.length_cons]; omega
  rw [← this, List.take_left]
/-- What is kept of one that is taken back. -/
def Bk (mb : Option Nat) (s : Sp) : Prop := Num s.en.op.thing ∧ (∀ y, s.was = some y → y.id = s.en.op.thing ∧ y.Fits) ∧ (mb = none → s.was = none)
theorem undo_all : ∀ (d : List En) {t : Ths}, Fine t → (∀ e ∈ d, e.Fits) → (sps t d).reverse.foldl undo (ths t d) = t
  | [], _, _, _ => rfl
  | e :: r, t, h, hf => by
    show ((_ :: sps (Mov.made t e.op) r).reverse).foldl undo (ths (Mov.made t e.op) r) = t
    rw [List.reverse_cons, List.foldl_append, undo_all r (h.made (hf e (by simp)).1) fun x hx => hf x (by simp [hx])]
    exact undo_made h e
theorem put_ne (l : Ths) (x : Th) : Mov.put l x ≠ [] := by
  cases l with
  | nil => simp [Mov.put]
  | cons y r => unfold Mov.put; split <;> (try split) <;> simp
theorem ths_nil : ∀ (d : List En) {t : Ths}, ths t d = [] → t = []
  | [], _, h => h
  | e :: r, t, h => by
    have h1 := ths_nil r (t := Mov.made t e.op) h
    unfold Mov.made at h1
    split at h1
    · exact absurd h1 (put_ne _ _)
    · exact h1
theorem sps_bk (mb : Option Nat) : ∀ (d : List En) {t : Ths}, Fine t → (∀ e ∈ d, e.Fits) → (mb = none → ths t d = []) → ∀ s ∈ sps t d, Bk mb s
  | [], _, _, _, _, s, hs => by cases hs
  | e :: r, t, h, hf, hm, s, hs => by
    rcases List.mem_cons.1 hs with rfl | hs
    · refine ⟨(hf e (by simp)).1.thing, fun y hy => ?_, fun hn => ?_⟩
      · have := look_mem hy
        exact ⟨this.2, h.fits y this.1⟩
      · have := ths_nil (e :: r) (hm hn)
        show Mov.look t e.op.thing = none
        rw [this]; rfl
    · exact sps_bk mb r (h.made (hf e (by simp)).1) (fun x hx => hf x (by simp [hx])) hm s hs
end Go.Mov
namespace Go.Proofs.Ytknnamanbeckeaa
open Go.RowKit Go.Opn Go.Stamp Go.MapInt Go.Mov Go.Shelf
attribute [local go_sem] Oper.semAt_some
theorem own_form {W : World} {base e z k : Nat} {v : Value} {xs : List Value} (h : W.ownsRow base e z v k xs) : ∃ a c, v = .slice a k c := by
  rcases h.2 with ⟨h1, h2⟩ | ⟨g, cap, cur, h1, _⟩
  · exact ⟨none, 0, by rw [h1, h2]⟩
  · exact ⟨_, _, h1⟩
theorem own_low {W : World} {base base' e z k : Nat} {v : Value} {xs : List Value} (h : W.ownsRow base e z v k xs) (hb : base' ≤ base) : W.ownsRow base' e z v k xs := by
  refine ⟨h.1, ?_⟩
  rcases h.2 with h2 | ⟨g, cap, cur, h1, h2, h3⟩
  · exact .inl h2
  · exact .inr ⟨g, cap, cur, h1, Nat.le_trans hb h2, h3⟩
theorem del_nil (k : Int) (ty : TypeId) (w : World) : (Builtin.delete_ #[63, 30] ty #[.map none, .int .u64 k]).run Try.prog w = .ok (.tuple #[]) w := by kernel_rfl
theorem putObj_other {W : World} {l k : Nat} {o : Obj} (h : k ≠ l) : (W.putObj l o).heap[k]? = W.heap[k]? := by
  unfold World.putObj
  simp [Ne.symm h]
theorem KpB_t (bx g : Nat) {A B C : World} (h : KpB bx g A B) (k : KpB bx g B C) : KpB bx g A C := ⟨Nat.le_trans h.1 k.1, k.2.1.trans h.2.1, k.2.2.trans h.2.2⟩
theorem KpB_b (bx g B : Nat) (h1 : bx < B) (h2 : g < B) (W : World) (l : Nat) (o o' : Obj) (hl : B ≤ l) (_ : W.heap[l]? = some o) (_ : o.isCells = false) (_ : o.isWalk = false) : KpB bx g W (W.putObj l o') := by
  have hg := grownBy_putObj' W l o'
  exact ⟨hg.size, putObj_other (by omega), putObj_other (by omega)⟩
/-- What stands between two rounds of taking back. -/
structure Tb (base : Nat) (F F2 : Ft) (l : List En) (n : Nat) (u : Int) (w w3 : World) (va : Option Addr) (vcc gc : Nat) (ss : List Sp) (W : World) : Prop where
  g : TreeG Try.prog 30 66 75 base F2 (ss.foldl undo (ths [] l)) (sps [] (l.take n)) u W
  rises : Rises (ss.foldl undo (ths [] l))
  fits : ∀ x ∈ ss.foldl undo (ths [] l), x.Fits
  len : (ss.foldl undo (ths [] l)).length ≤ l.length + ss.length
  t : W.heap[w.heap.size]? = some (.cells #[.pointer (some ⟨F2.b, 0, none⟩)] 23 (0, 0))
  own : W.ownsRow (w.heap.size + 1) 75 17 (.slice va (l.length - n) vcc) (l.length - n) ((sps (ths [] (l.take n)) (l.drop n)).flatMap Sp.cs)
  lt : ∀ x, F2.has x → x < w.heap.size
  olt : ∀ x, (Value.slice va (l.length - n) vcc).ownBlock = some x → x < w3.heap.size
  tn : Tn F w W
  sz : w.heap.size + 1 ≤ w3.heap.size
  wz : w3.heap.size + 1 ≤ W.heap.size
theorem Tb.kept {base : Nat} {F F2 : Ft} {l : List En} {n : Nat} {u : Int} {w w3 : World} {va : Option Addr} {vcc gc : Nat} {ss : List Sp} {A B : World} (h : Tb base F F2 l n u w w3 va vcc gc ss A) (hb : ∀ k, k < A.heap.size → k < w3.heap.size + 1 → B.heap[k]? = A.heap[k]?) (hAB : A.heap.size ≤ B.heap.size) (tn : Tn F w B) : Tb base F F2 l n u w w3 va vcc gc ss B := by
  have hsz := h.sz
  refine ⟨h.g.kept fun x hx => hb x (h.g.lt x hx) (by have := h.lt x hx; omega), h.rises, h.fits, h.len, (hb _ (Array.getElem?_eq_some_iff.1 h.t).1 (by omega)).trans h.t, own_kept h.own fun x hx => hb x (h.own.lt x hx).2 (by have := h.olt x hx; omega), h.lt, h.olt, tn, h.sz, Nat.le_trans h.wz hAB⟩
theorem Tb.same {base : Nat} {F F2 : Ft} {l : List En} {n : Nat} {u : Int} {w w3 : World} {va : Option Addr} {vcc gc : Nat} {ss : List Sp} {s : Sp} {A : World} (h : Tb base F F2 l n u w w3 va vcc gc ss A) (he : undo (ss.foldl undo (ths [] l)) s = ss.foldl undo (ths [] l)) : Tb base F F2 l n u w w3 va vcc gc (ss ++ [s]) A := by
  have hlen := h.len
  have e : (ss ++ [s]).foldl undo (ths [] l) = ss.foldl undo (ths [] l) := by rw [List.foldl_append]; exact he
  refine ⟨?_, ?_, ?_, ?_, h.t, h.own, h.lt, h.olt, h.tn, h.sz, h.wz⟩
  · rw [e]; exact h.g
  · rw [e]; exact h.rises
  · rw [e]; exact h.fits
  · rw [e, List.length_append]; omega
theorem Tb.turned {base : Nat} {F F2 : Ft} {l : List En} {n : Nat} {u : Int} {w w3 : World} {va : Option Addr} {vcc gc m : Nat} {ss : List Sp} {s : Sp} {A B : World} (h : Tb base F F2 l n u w w3 va vcc gc ss A) (hm : F2.mb = some m) (hF : F.has m) (hg : A.grownBy B (some m)) (hM : MapAt Try.prog 30 B (some m) (undo (ss.foldl undo (ths [] l)) s))
    (hr : Rises (undo (ss.foldl undo (ths [] l)) s)) (hf : ∀ x ∈ undo (ss.foldl undo (ths [] l)) s, x.Fits) (hl : (undo (ss.foldl undo (ths [] l)) s).length ≤ (ss.foldl undo (ths [] l)).length + 1) : Tb base F F2 l n u w w3 va vcc gc (ss ++ [s]) B := by
  have hml := h.lt m (.inr (.inl hm))
  have hlen := h.len
  have hsz := h.sz
  have e : (ss ++ [s]).foldl undo (ths [] l) = undo (ss.foldl undo (ths [] l)) s := by rw [List.foldl_append]; rfl
  refine ⟨?_, ?_, ?_, ?_, (hg.block _ (Array.getElem?_eq_some_iff.1 h.t).1 (fun e => by cases e; omega)).trans h.t, own_kept h.own fun x hx => hg.block x (h.own.lt x hx).2 (fun e => by have := (h.own.lt x hx).1; cases e; omega), h.lt, h.olt, h.tn.trans (Tn.of_grown (F := F) hg fun x hx => by cases hx; exact hF) (F.to_refl _), h.sz, Nat.le_trans h.wz hg.size⟩
  · rw [e]; exact h.g.setMap hm hg hM
  · rw [e]; exact hr
  · rw [e]; exact hf
  · rw [e, List.length_append]; simp only [List.length_singleton]; omega
end Go.Proofs.Ytknnamanbeckeaa
