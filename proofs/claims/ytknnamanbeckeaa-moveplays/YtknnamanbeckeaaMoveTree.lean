/- A tree in memory, its things and its row apart: what turns it; of no program. -/
import Derived.Test.YtknnamanbeckeaaMoveSearch
namespace Go.Mov
open Go.RowKit Go.MapInt
variable {P : Program} {kt Tt Ts base : Nat} {F : Ft} {t : Ths} {ss : List Sp} {u : Int} {w w' : World}
/-- A tree: its things t, what was done ss, u taken back. -/
structure TreeG (P : Program) (kt Tt Ts base : Nat) (F : Ft) (t : Ths) (ss : List Sp) (u : Int) (w : World) : Prop where
  blk : w.heap[F.b]? = some (.cells #[.map F.mb, F.lv, .int .i64 u] Tt (0, 0))
  map : MapAt P kt w F.mb t
  row : w.ownsRow base Ts 17 F.lv ss.length (ss.flatMap Sp.cs)
  low : ∀ x, F.has x → base ≤ x
theorem TreeG.lt (h : TreeG P kt Tt Ts base F t ss u w) : ∀ x, F.has x → x < w.heap.size := by
  rintro x (rfl | hx | hx)
  · exact (Array.getElem?_eq_some_iff.1 h.blk).1
  · exact h.map.lt hx
  · exact (h.row.lt x hx).2
theorem TreeG.ths (h : TreeG P kt Tt Ts base F t ss u w) : ThsAt P kt F.b F.mb t w := ⟨(cell_of_row _ _ _ _ _ _ h.blk).trans rfl, h.map⟩
theorem TreeG.c1 (h : TreeG P kt Tt Ts base F t ss u w) : w.cell? ⟨F.b, 1, none⟩ = some F.lv := (cell_of_row _ _ _ _ _ _ h.blk).trans rfl
theorem TreeG.c2 (h : TreeG P kt Tt Ts base F t ss u w) : w.cell? ⟨F.b, 2, none⟩ = some (.int .i64 u) := (cell_of_row _ _ _ _ _ _ h.blk).trans rfl
theorem TreeG.fz (h : TreeG P kt Tt Ts base F t ss u w) (i : Nat) : w.frozen? ⟨F.b, i, none⟩ = false := frozen_of_row _ _ _ _ _ h.blk
theorem TreeG.steps (h : TreeG P kt Tt Ts base F t ss u w) : StepsAt w F.lv ss := StepsAt.of_own h.row
theorem own_kept {w w' : World} {base e z k : Nat} {v : Value} {xs : List Value} (h : w.ownsRow base e z v k xs) (hb : ∀ g, v.ownBlock = some g → w'.heap[g]? = w.heap[g]?) : w'.ownsRow base e z v k xs := by
  refine ⟨h.1, ?_⟩
  rcases h.2 with h2 | ⟨g, cap, cur, h1, h2, h3, h4⟩
  · exact .inl h2
  · exact .inr ⟨g, cap, cur, h1, h2, (hb g (by rw [h1]; rfl)).trans h3, h4⟩
theorem TreeG.kept (h : TreeG P kt Tt Ts base F t ss u w) (hb : ∀ x, F.has x → w'.heap[x]? = w.heap[x]?) : TreeG P kt Tt Ts base F t ss u w' :=
  ⟨(hb _ (.inl rfl)).trans h.blk, h.map.kept fun b e => hb b (.inr (.inl e)), own_kept h.row fun g e => hb g (.inr (.inr e)), h.low⟩
theorem TreeG.below (h : TreeG P kt Tt Ts base F t ss u w) (k : Below w.heap.size w w') : TreeG P kt Tt Ts base F t ss u w' := h.kept fun x hx => k.block x (h.lt x hx)
theorem row_tag {w : World} {base e z k g : Nat} {v : Value} {xs : List Value} (h : w.ownsRow base e z v k xs) (hg : v.ownBlock = some g) : ∃ cur, w.heap[g]? = some (.cells cur e (0, 0)) := by
  rcases h.2 with ⟨h1, _⟩ | ⟨g', cap, cur, h1, _, h3, _⟩
  · rw [h1] at hg; cases hg
  · rw [h1] at hg; cases hg; exact ⟨cur, h3⟩
theorem TreeG.ne_row (h : TreeG P kt Tt Ts base F t ss u w) (hT : Tt ≠ Ts) : F.lv.ownBlock ≠ some F.b := fun e => by
  obtain ⟨cur, hc⟩ := row_tag h.row e
  rw [h.blk] at hc
  simp only [Option.some.injEq, Obj.cells.injEq] at hc
  exact hT hc.2.1
theorem TreeG.ne_map (h : TreeG P kt Tt Ts base F t ss u w) : F.mb ≠ some F.b := fun e => by
  obtain ⟨es, cl, hc⟩ := h.map.kind e
  rw [h.blk] at hc
  cases hc
theorem TreeG.map_row (h : TreeG P kt Tt Ts base F t ss u w) {m : Nat} (hm : F.mb = some m) : F.lv.ownBlock ≠ some m := fun e => by
  obtain ⟨cur, hc⟩ := row_tag h.row e
  obtain ⟨es, cl, hk⟩ := h.map.kind hm
  rw [hc] at hk
  cases hk
/-- The map has turned. -/
theorem TreeG.setMap (h : TreeG P kt Tt Ts base F t ss u w) {m : Nat} (hm : F.mb = some m) (hg : w.grownBy w' (some m)) {t' : Ths} (hM : MapAt P kt w' (some m) t') : TreeG P kt Tt Ts base F t' ss u w' :=
  ⟨(hg.block _ (h.lt _ (.inl rfl)) (fun e => h.ne_map (by rw [hm, e]))).trans h.blk, by rw [hm]; exact hM, own_kept h.row fun g e => hg.block g (h.lt g (.inr (.inr e))) (fun e2 => h.map_row hm (by rw [e, e2])), h.low⟩
/-- The row has grown, or is another one. -/
theorem TreeG.setLog (h : TreeG P kt Tt Ts base F t ss u w) (hT : Tt ≠ Ts) (hg : w.grownBy w' F.lv.ownBlock) {v' : Value} {ss' : List Sp} (hown : w'.ownsRow base Ts 17 v' ss'.length (ss'.flatMap Sp.cs)) (hv : ∀ x, v'.ownBlock = some x → F.lv.ownBlock = some x ∨ w.heap.size ≤ x) (hb : base ≤ w.heap.size) :
    TreeG P kt Tt Ts base ⟨F.b, F.mb, v'⟩ t ss' u (w'.setCell ⟨F.b, 1, none⟩ v') := by
  have hblk : w'.heap[F.b]? = some (.cells #[.map F.mb, F.lv, .int .i64 u] Tt (0, 0)) := (hg.block _ (h.lt _ (.inl rfl)) (fun e => h.ne_row hT e.symm)).trans h.blk
  have hne : ∀ x, v'.ownBlock = some x → x ≠ F.b := by
    rintro x hx rfl
    obtain ⟨cur, hc⟩ := row_tag hown hx
    rw [hblk] at hc
    simp only [Option.some.injEq, Obj.cells.injEq] at hc
    exact hT hc.2.1
  refine ⟨?_, ?_, own_kept hown fun g e => heap_setCell_other _ _ _ _ (hne g e), ?_⟩
  · have := heap_setCell_same _ _ 1 _ _ v' hblk
    exact this
  · refine (h.map.kept (w' := w') fun b e => hg.block b (h.map.lt e) (fun e2 => h.map_row e e2.symm)).kept fun b e => heap_setCell_other _ _ _ _ (fun e2 => h.ne_map (by rw [e, e2]))
  · rintro x (rfl | hx | hx)
    · exact h.low _ (.inl rfl)
    · exact h.low _ (.inr (.inl hx))
    · rcases hv x hx with e | e
      · exact h.low _ (.inr (.inr e))
      · omega
/-- A map is made. -/
theorem TreeG.newMap (h : TreeG P kt Tt Ts base F [] ss u w) (hT : Tt ≠ Ts) (hb : base ≤ w.heap.size) :
    TreeG P kt Tt Ts base ⟨F.b, some w.heap.size, F.lv⟩ [] ss u ((w.alloc (.map #[] 0)).setCell ⟨F.b, 0, none⟩ (.map (some w.heap.size))) := by
  have hblk : (w.alloc (.map #[] 0)).heap[F.b]? = some (.cells #[.map F.mb, F.lv, .int .i64 u] Tt (0, 0)) := (heap_alloc_old _ _ (h.lt _ (.inl rfl))).trans h.blk
  have hbl := h.lt _ (.inl rfl)
  refine ⟨?_, ?_, own_kept h.row fun g e => (heap_setCell_other _ _ _ _ (fun e2 => h.ne_row hT (by rw [e, e2]))).trans (heap_alloc_old _ _ (h.lt g (.inr (.inr e)))), ?_⟩
  · have := heap_setCell_same _ _ 0 _ _ (.map (some w.heap.size)) hblk
    exact this
  · refine (MapAt.made P kt w).kept fun b e => heap_setCell_other _ _ _ _ (fun e2 => ?_)
    cases e
    have e2 : w.heap.size = F.b := e2
    omega
  · rintro x (rfl | hx | hx)
    · exact h.low _ (.inl rfl)
    · cases hx; exact hb
    · exact h.low _ (.inr (.inr hx))
theorem TreeG.undone (h : TreeG P kt Tt Ts base F t ss u w) (hT : Tt ≠ Ts) (n : Int) : TreeG P kt Tt Ts base F t ss n (w.setCell ⟨F.b, 2, none⟩ (.int .i64 n)) := by
  refine ⟨?_, h.map.kept fun b e => heap_setCell_other _ _ _ _ (fun e2 => h.ne_map (by rw [e, e2])), own_kept h.row fun g e => heap_setCell_other _ _ _ _ (fun e2 => h.ne_row hT (by rw [e, e2])), h.low⟩
  have := heap_setCell_same _ _ 2 _ _ (.int .i64 n) h.blk
  exact this
theorem TreeAt.g {l : List En} (h : TreeAt P kt Tt Ts base F l u w) : TreeG P kt Tt Ts base F (Mov.ths [] l) (sps [] l) u w := ⟨h.blk, h.map, by rw [sps_length]; exact h.row, h.low⟩
theorem TreeG.at {l : List En} (h : TreeG P kt Tt Ts base F (Mov.ths [] l) (sps [] l) u w) (hf : ∀ e ∈ l, e.Fits) (ho : Ord l) : TreeAt P kt Tt Ts base F l u w := ⟨h.blk, h.map, by have := h.row; rw [sps_length] at this; exact this, h.low, hf, ho⟩
theorem TreeAt.fine {l : List En} (h : TreeAt P kt Tt Ts base F l u w) : Fine (Mov.ths [] l) := ths_fine Fine.nil h.fits
theorem Tn.of_grown {w w' : World} {row : Option Nat} (hg : w.grownBy w' row) (hr : ∀ x, row = some x → F.has x) : Tn F w w' := ⟨hg.os, hg.tape, hg.output, hg.size, fun k hk hn => hg.block k hk fun e => hn (hr k e.symm)⟩
theorem Tn.of_set (w : World) {a : Addr} (v : Value) (h : F.has a.block) : Tn F w (w.setCell a v) := ⟨rfl, rfl, rfl, by simp, fun k _ hn => heap_setCell_other _ _ _ _ (fun e => hn (e ▸ h))⟩
end Go.Mov
