/- becomes' own blocks. -/
import Derived.Test.YtnbhchdaobimmaaGreatDoorMunAB
import Derived.Test.YtnbhchdaobimmaaGreatDoorHeldAll
import Derived.BigRegion
import Derived.Deep.MidRow
import Derived.Deep.RegionHeld3
import Derived.Deep.Cut
import Derived.Deep.CutBlock
import Derived.Deep.DeepCutAuto
import Derived.Test.YtnbhchdaobimmaaGreatDoorStampAll
theorem Go.old_alloc_MoveBecomes (w : Go.World) (o : Go.Obj) (i : Nat) (h : i < w.heap.size) : (w.alloc o).heap[i]? = w.heap[i]? := by first | exact Go.heap_alloc_old w o i h | exact Go.heap_alloc_old w o h
namespace Go.Proofs.YtnbhchdaobimmaaGreatDoor
open Go.RowKit Go.Opn Go.Stamp Go.MapInt Go.Mov Go.Shelf
attribute [local go_sem] Oper.semAt_some
/-- becomes' own blocks: what came in, what goes out, the operation, the thing. -/
structure Bc (w : World) (gs gr go gx : Nat) (S R O X : Array Value) (v : World) : Prop where
 s : v.heap[gs]? = some (.cells S 118 (0, 0))
 r : v.heap[gr]? = some (.cells R 79 (0, 0))
 o : v.heap[go]? = some (.cells O 61 (0, 0))
 x : v.heap[gx]? = some (.cells X 79 (0, 0))
 ne : gr ≠ gx
 lr : w.heap.size ≤ gr
 lx : w.heap.size ≤ gx
 below : Below w.heap.size w v
set_option maxRecDepth 100000 in
theorem below_setRow {B : Nat} {w w1 : World} (h : Below B w w1) {g : Nat} (hg : B ≤ g) (cs : Array Value) : Below B w (w1.setRow g cs) :=
 h.trans ⟨rfl, rfl, rfl, by simp, fun k hk => setRow_other _ _ _ _ (by omega)⟩
set_option maxRecDepth 100000 in
theorem cells_lt {w : World} {g : Nat} {o : Obj} (h : w.heap[g]? = some o) : g < w.heap.size := (Array.getElem?_eq_some_iff.1 h).1
set_option maxRecDepth 100000 in
theorem Bc.step {w v u : World} {gs gr go gx : Nat} {S R O X : Array Value} (h : Bc w gs gr go gx S R O X v) (k : Below v.heap.size v u) : Bc w gs gr go gx S R O X u :=
 ⟨(k.block _ (cells_lt h.s)).trans h.s, (k.block _ (cells_lt h.r)).trans h.r, (k.block _ (cells_lt h.o)).trans h.o, (k.block _ (cells_lt h.x)).trans h.x, h.ne, h.lr, h.lx, h.below.trans (k.mono h.below.size)⟩
set_option maxRecDepth 100000 in
theorem heap_neT {w : World} {a b T U : Nat} {x y : Array Value} (h : w.heap[a]? = some (.cells x T (0, 0))) (k : w.heap[b]? = some (.cells y U (0, 0))) (hn : T ≠ U) : a ≠ b := by
 rintro rfl
 rw [h] at k
 simp only [Option.some.injEq, Obj.cells.injEq] at k
 exact hn k.2.1
set_option maxRecDepth 100000 in
theorem Bc.setX {w v : World} {gs gr go gx : Nat} {S R O X : Array Value} (h : Bc w gs gr go gx S R O X v) (Y : Array Value) : Bc w gs gr go gx S R O Y (v.setRow gx Y) :=
 ⟨(setRow_other _ _ _ _ (heap_neT h.s h.x (by decide))).trans h.s, (setRow_other _ _ _ _ h.ne).trans h.r, (setRow_other _ _ _ _ (heap_neT h.o h.x (by decide))).trans h.o, setRow_heap _ _ _ _ _ _ h.x, h.ne, h.lr, h.lx, below_setRow h.below h.lx _⟩
set_option maxRecDepth 100000 in
theorem Bc.cellX {w v : World} {gs gr go gx : Nat} {S R O X : Array Value} (h : Bc w gs gr go gx S R O X v) (i : Nat) (u : Value) : Bc w gs gr go gx S R O (X.setIfInBounds i u) (v.setCell ⟨gx, i, none⟩ u) :=
 ⟨(heap_setCell_other _ _ _ _ (heap_neT h.s h.x (by decide))).trans h.s, (heap_setCell_other _ _ _ _ h.ne).trans h.r, (heap_setCell_other _ _ _ _ (heap_neT h.o h.x (by decide))).trans h.o, heap_setCell_same _ _ _ _ _ _ h.x, h.ne, h.lr, h.lx, h.below.setCell (p := ⟨gx, i, none⟩) h.lx _⟩
set_option maxRecDepth 100000 in
theorem heap_drew (w : World) (k : Nat) : w.drew.heap[k]? = w.heap[k]? := rfl
set_option maxRecDepth 100000 in
theorem Bc.new1 (w : World) (S R O X : Array Value) : Bc w w.heap.size (w.heap.size + 1) (w.heap.size + 1 + 1) (w.heap.size + 1 + 1 + 1) S R O X ((((w.alloc (.cells S 118)).alloc (.cells R 79)).alloc (.cells O 61)).alloc (.cells X 79)).drew := by
 have k : Below w.heap.size w ((((w.alloc (.cells S 118)).alloc (.cells R 79)).alloc (.cells O 61)).alloc (.cells X 79)).drew := ((((((Below.refl _ w).alloc (Nat.le_refl _) _).alloc (by simp) _).alloc (by simp; omega) _).alloc (by simp; omega) _)).drew
 refine ⟨?_, ?_, ?_, ?_, by omega, by omega, by omega, k⟩
 ·exact ((Go.old_alloc_MoveBecomes _ _ _ (by first | (simp; done) | (simp; omega))).trans (Go.old_alloc_MoveBecomes _ _ _ (by first | (simp; done) | (simp; omega)))).trans ((Go.old_alloc_MoveBecomes _ _ _ (by first | (simp; done) | (simp; omega))).trans (heap_alloc_new w _))
 ·have := heap_alloc_new (w.alloc (.cells S 118)) (.cells R 79)
  rw [World.size_alloc] at this
  exact ((Go.old_alloc_MoveBecomes _ _ _ (by first | (simp; done) | (simp; omega))).trans (Go.old_alloc_MoveBecomes _ _ _ (by first | (simp; done) | (simp; omega)))).trans this
 ·have := heap_alloc_new ((w.alloc (.cells S 118)).alloc (.cells R 79)) (.cells O 61)
  rw [World.size_alloc, World.size_alloc] at this
  exact (Go.old_alloc_MoveBecomes _ _ _ (by first | (simp; done) | (simp; omega))).trans this
 ·have := heap_alloc_new (((w.alloc (.cells S 118)).alloc (.cells R 79)).alloc (.cells O 61)) (.cells X 79)
  rw [World.size_alloc, World.size_alloc, World.size_alloc] at this
  exact this
set_option maxRecDepth 100000 in
theorem Bc.new2 (w : World) (S R O X : Array Value) : Bc w w.heap.size (w.heap.size + 1) (w.heap.size + 1 + 1 + 1) (w.heap.size + 1 + 1) S R O X ((((w.alloc (.cells S 118)).alloc (.cells R 79)).alloc (.cells X 79)).alloc (.cells O 61)).drew := by
 have k : Below w.heap.size w ((((w.alloc (.cells S 118)).alloc (.cells R 79)).alloc (.cells X 79)).alloc (.cells O 61)).drew := ((((((Below.refl _ w).alloc (Nat.le_refl _) _).alloc (by simp) _).alloc (by simp; omega) _).alloc (by simp; omega) _)).drew
 refine ⟨?_, ?_, ?_, ?_, by omega, by omega, by omega, k⟩
 ·exact ((Go.old_alloc_MoveBecomes _ _ _ (by first | (simp; done) | (simp; omega))).trans (Go.old_alloc_MoveBecomes _ _ _ (by first | (simp; done) | (simp; omega)))).trans ((Go.old_alloc_MoveBecomes _ _ _ (by first | (simp; done) | (simp; omega))).trans (heap_alloc_new w _))
 ·have := heap_alloc_new (w.alloc (.cells S 118)) (.cells R 79)
  rw [World.size_alloc] at this
  exact ((Go.old_alloc_MoveBecomes _ _ _ (by first | (simp; done) | (simp; omega))).trans (Go.old_alloc_MoveBecomes _ _ _ (by first | (simp; done) | (simp; omega)))).trans this
 ·have := heap_alloc_new (((w.alloc (.cells S 118)).alloc (.cells R 79)).alloc (.cells X 79)) (.cells O 61)
  rw [World.size_alloc, World.size_alloc, World.size_alloc] at this
  exact this
 ·have := heap_alloc_new ((w.alloc (.cells S 118)).alloc (.cells R 79)) (.cells X 79)
  rw [World.size_alloc, World.size_alloc] at this
  exact (Go.old_alloc_MoveBecomes _ _ _ (by first | (simp; done) | (simp; omega))).trans this
set_option maxRecDepth 100000 in
theorem Bc.drew {w v : World} {gs gr go gx : Nat} {S R O X : Array Value} (h : Bc w gs gr go gx S R O X v) : Bc w gs gr go gx S R O X v.drew := h.step (Below.refl _ v).drew
set_option maxRecDepth 100000 in
/-- What goes out. -/
theorem Bc.setR {w v : World} {gs gr go gx : Nat} {S R O X : Array Value} (h : Bc w gs gr go gx S R O X v) (Y : Array Value) : (v.setRow gr Y).heap[gr]? = some (.cells Y 79 (0, 0)) ∧ Below w.heap.size w (v.setRow gr Y) :=
 ⟨setRow_heap _ _ _ _ _ _ h.r, below_setRow h.below h.lr _⟩
set_option maxRecDepth 100000 in
theorem Bc.cO {w v : World} {gs gr go gx : Nat} {S R O X : Array Value} (h : Bc w gs gr go gx S R O X v) {i : Nat} {u : Value} (hu : O[i]? = some u) : v.cell? ⟨go, i, none⟩ = some u := (cell_of_row _ _ _ _ _ _ h.o).trans hu
set_option maxRecDepth 100000 in
theorem Bc.cS {w v : World} {gs gr go gx : Nat} {S R O X : Array Value} (h : Bc w gs gr go gx S R O X v) {i : Nat} {u : Value} (hu : S[i]? = some u) : v.cell? ⟨gs, i, none⟩ = some u := (cell_of_row _ _ _ _ _ _ h.s).trans hu
set_option maxRecDepth 100000 in
theorem Bc.cX {w v : World} {gs gr go gx : Nat} {S R O X : Array Value} (h : Bc w gs gr go gx S R O X v) {i : Nat} {u : Value} (hu : X[i]? = some u) : v.cell? ⟨gx, i, none⟩ = some u := (cell_of_row _ _ _ _ _ _ h.x).trans hu
set_option maxRecDepth 100000 in
theorem Bc.cR {w v : World} {gs gr go gx : Nat} {S O X : Array Value} {a0 a1 a2 a3 a4 a5 : Value} (h : Bc w gs gr go gx S #[a0, a1, a2, a3, a4, a5] O X v) :
  (v.cell? ⟨gr, 0, none⟩ = some a0 ∧ v.cell? ⟨gr, 1, none⟩ = some a1 ∧ v.cell? ⟨gr, 2, none⟩ = some a2 ∧ v.cell? ⟨gr, 3, none⟩ = some a3 ∧ v.cell? ⟨gr, 4, none⟩ = some a4 ∧ v.cell? ⟨gr, 5, none⟩ = some a5) ∧
  (v.frozen? ⟨gr, 0, none⟩ = false ∧ v.frozen? ⟨gr, 1, none⟩ = false ∧ v.frozen? ⟨gr, 2, none⟩ = false ∧ v.frozen? ⟨gr, 3, none⟩ = false ∧ v.frozen? ⟨gr, 4, none⟩ = false ∧ v.frozen? ⟨gr, 5, none⟩ = false) :=
 ⟨⟨(cell_of_row _ _ _ _ _ _ h.r).trans rfl, (cell_of_row _ _ _ _ _ _ h.r).trans rfl, (cell_of_row _ _ _ _ _ _ h.r).trans rfl, (cell_of_row _ _ _ _ _ _ h.r).trans rfl, (cell_of_row _ _ _ _ _ _ h.r).trans rfl, (cell_of_row _ _ _ _ _ _ h.r).trans rfl⟩,
  ⟨frozen_of_row _ _ _ _ _ h.r, frozen_of_row _ _ _ _ _ h.r, frozen_of_row _ _ _ _ _ h.r, frozen_of_row _ _ _ _ _ h.r, frozen_of_row _ _ _ _ _ h.r, frozen_of_row _ _ _ _ _ h.r⟩⟩
set_option maxRecDepth 100000 in
theorem Bc.set6 {w v : World} {gs gr go gx : Nat} {S O X : Array Value} {a0 a1 a2 a3 a4 a5 : Value} (h : Bc w gs gr go gx S #[a0, a1, a2, a3, a4, a5] O X v) (b0 b1 b2 b3 b4 b5 : Value) :
  ((((((v.setCell ⟨gr, 0, none⟩ b0).setCell ⟨gr, 1, none⟩ b1).setCell ⟨gr, 2, none⟩ b2).setCell ⟨gr, 3, none⟩ b3).setCell ⟨gr, 4, none⟩ b4).setCell ⟨gr, 5, none⟩ b5).drew.heap[gr]? = some (.cells #[b0, b1, b2, b3, b4, b5] 79 (0, 0)) ∧
  Below w.heap.size w ((((((v.setCell ⟨gr, 0, none⟩ b0).setCell ⟨gr, 1, none⟩ b1).setCell ⟨gr, 2, none⟩ b2).setCell ⟨gr, 3, none⟩ b3).setCell ⟨gr, 4, none⟩ b4).setCell ⟨gr, 5, none⟩ b5).drew := by
 refine ⟨?_, ((((((h.below.setCell (p := ⟨gr, 0, none⟩) h.lr _).setCell (p := ⟨gr, 1, none⟩) h.lr _).setCell (p := ⟨gr, 2, none⟩) h.lr _).setCell (p := ⟨gr, 3, none⟩) h.lr _).setCell (p := ⟨gr, 4, none⟩) h.lr _).setCell (p := ⟨gr, 5, none⟩) h.lr _).drew⟩
 rw [heap_drew]
 exact heap_setCell_same _ _ _ _ _ _ (heap_setCell_same _ _ _ _ _ _ (heap_setCell_same _ _ _ _ _ _ (heap_setCell_same _ _ _ _ _ _ (heap_setCell_same _ _ _ _ _ _ (heap_setCell_same _ _ _ _ _ _ h.r)))))
set_option maxRecDepth 100000 in
theorem Bc.cX6 {w v : World} {gs gr go gx : Nat} {S R O : Array Value} {a0 a1 a2 a3 a4 a5 : Value} (h : Bc w gs gr go gx S R O #[a0, a1, a2, a3, a4, a5] v) :
  v.cell? ⟨gx, 0, none⟩ = some a0 ∧ v.cell? ⟨gx, 1, none⟩ = some a1 ∧ v.cell? ⟨gx, 2, none⟩ = some a2 ∧ v.cell? ⟨gx, 3, none⟩ = some a3 ∧ v.cell? ⟨gx, 4, none⟩ = some a4 ∧ v.cell? ⟨gx, 5, none⟩ = some a5 :=
 ⟨(cell_of_row _ _ _ _ _ _ h.x).trans rfl, (cell_of_row _ _ _ _ _ _ h.x).trans rfl, (cell_of_row _ _ _ _ _ _ h.x).trans rfl, (cell_of_row _ _ _ _ _ _ h.x).trans rfl, (cell_of_row _ _ _ _ _ _ h.x).trans rfl, (cell_of_row _ _ _ _ _ _ h.x).trans rfl⟩
set_option maxRecDepth 100000 in
theorem Bc.storeR {w v : World} {gs gr go gx : Nat} {S R O X : Array Value} (h : Bc w gs gr go gx S R O X v) (Y : Array Value) : Bc w gs gr go gx S Y O X (v.setRow gr Y) :=
 ⟨(setRow_other _ _ _ _ (heap_neT h.s h.r (by decide))).trans h.s, setRow_heap _ _ _ _ _ _ h.r, (setRow_other _ _ _ _ (heap_neT h.o h.r (by decide))).trans h.o, (setRow_other _ _ _ _ (Ne.symm h.ne)).trans h.x, h.ne, h.lr, h.lx, below_setRow h.below h.lr _⟩
set_option maxRecDepth 100000 in
theorem infoTh : (Tryz.prog.info? 79).map (·.size) = some 6 := by kernel_rfl
end Go.Proofs.YtnbhchdaobimmaaGreatDoor
