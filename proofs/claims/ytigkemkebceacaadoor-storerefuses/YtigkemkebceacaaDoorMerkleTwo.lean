/- Several texts in one: MerkleAt, MerkleBeside, MerkleClimb, MerkleErr, MerkleClaim, MerkleProve, MerkleShow. -/
import Derived.Test.YtigkemkebceacaaDoorMerkleFour
import Derived.Test.YtigkemkebceacaaDoorRowsTwo
import Derived.Deep.RegionLaw
import Derived.Test.YtigkemkebceacaaDoorMerkleOne
import Derived.LaidEql
import Derived.Stop.Asserts
import Derived.RowKitTokens
import Derived.Test.YtigkemkebceacaaDoorRegionAll
import Derived.Laws.CopyOwn
/- Contract: the chunk at a place. -/
namespace Go.Proofs.YtigkemkebceacaaDoor
open Go.RowKit Go.Shelf Go.Wire Go.Mk Go.Chunk
attribute [local go_sem] Oper.semAt_some
structure Cs (w : World) (k : Int) (r : ByteArray) (W : World) : Prop where
  b0 : Boxed W w.heap.size 3 (.int .i64 k)
  b1 : Boxed W (w.heap.size + 1) 9 (.string r)
  below : Below w.heap.size w W
theorem box_row {W : World} {B : Nat} {t : TypeId} {v : Value} {row : Option Nat} (h : Boxed W B t v) (hr : ∀ r, row = some r → ∃ o : Obj, W.heap[r]? = some o ∧ o.isCells = false) : some B ≠ row := fun e => by
  obtain ⟨o, ho, hc⟩ := hr B e.symm
  rw [show W.heap[B]? = _ from h] at ho; cases ho; cases hc
theorem Cs.turned {w : World} {k : Int} {q : ByteArray} {b : Nat} {W W' : World} {row : Option Nat} (h : Cs w k q W) (hg : W.grownBy W' row) (hr : ∀ r, row = some r → b ≤ r ∧ ∃ o : Obj, W.heap[r]? = some o ∧ o.isCells = false) (hb : w.heap.size ≤ b) : Cs w k q W' :=
  ⟨h.b0.kept hg (box_row h.b0 fun r e => (hr r e).2), h.b1.kept hg (box_row h.b1 fun r e => (hr r e).2), h.below.grown hg h.below.size fun k e => Nat.le_trans hb (hr k e).1⟩
theorem Cs.set0 {w : World} {k : Int} {q : ByteArray} {W : World} (h : Cs w k q W) (m : Int) : Cs w m q (W.setCell ⟨w.heap.size, 0, none⟩ (.int .i64 m)) :=
  ⟨h.b0.set _, h.b1.other (by omega) _, h.below.setCell (p := ⟨w.heap.size, 0, none⟩) (Nat.le_refl _) _⟩
theorem Cs.set1 {w : World} {k : Int} {q : ByteArray} {W : World} (h : Cs w k q W) (r : ByteArray) : Cs w k r (W.setCell ⟨w.heap.size + 1, 0, none⟩ (.string r)) :=
  ⟨h.b0.other (by omega) _, h.b1.set _, h.below.setCell (p := ⟨w.heap.size + 1, 0, none⟩) (by simp) _⟩
end Go.Proofs.YtigkemkebceacaaDoor
/- Contract: the digests beside the way up. -/
namespace Go.Proofs.YtigkemkebceacaaDoor
open Go.RowKit Go.Shelf Go.Wire Go.Mk Go.Chunk
attribute [local go_sem] Oper.semAt_some
end Go.Proofs.YtigkemkebceacaaDoor
/- Contracts: how many steps it is up, and what one comes to. -/
namespace Go.Proofs.YtigkemkebceacaaDoor
open Go.RowKit Go.Mk Go.Chunk
attribute [local go_sem] Oper.semAt_some
end Go.Proofs.YtigkemkebceacaaDoor
/- Contracts: errors within others: which number errors.Is finds in why a share shows nothing. -/
namespace Go.Proofs.YtigkemkebceacaaDoor
open Go.RowKit Go.Sort Go.Mk Go.Chunk Go.Extern.Stop Go.Stop Go.Extern
attribute [local go_sem] Oper.semAt_some
theorem erEqlNum (a b : Int) (w : World) : (binOp .eql 94 (.iface 26 (.int .i64 a)) (.iface 26 (.int .i64 b))).run Tryd.prog w = .ok (.bool (a == b)) w := by kernel_rfl
end Go.Proofs.YtigkemkebceacaaDoor
/- Contracts: what a share says may be, or not. -/
namespace Go.Mk
open Go.RowKit
/-- A share as a value, its digests the slice pv. -/
abbrev Sh.v (x : Sh) (pv : Value) : Value := .agg #[.string x.dg, .int .i64 x.sz, .int .i64 x.mn, .int .i64 x.at_, .string x.ck, pv]
end Go.Mk
namespace Go.Proofs.YtigkemkebceacaaDoor
open Go.RowKit Go.Mk Go.Chunk
attribute [local go_sem] Oper.semAt_some
theorem sized_any (size many : Int) (w : World) (h0 : 0 ≤ many) :
    Calls Tryd.prog 38 #[.int .i64 size, .int .i64 many] w fun e w' => e = .returned (.bool (decide (Sized size many))) ∧ w' = w := by
  unfold Sized
  by_cases h1 : many ≤ 256
  · by_cases h2 : size ≤ 8192
    · by_cases h3 : many ≤ size
      · by_cases h4 : size ≤ 512 * many
        · rw [decide_eq_true (p := many ≤ 256 ∧ size ≤ 8192 ∧ many ≤ size ∧ size ≤ 512 * many) ⟨h1, h2, h3, h4⟩]
          go_enter Tryd.func38, Tryd.ntmps38
          go_wp2
          go_ret
          exact ⟨rfl, rfl⟩
        · rw [decide_eq_false (p := many ≤ 256 ∧ size ≤ 8192 ∧ many ≤ size ∧ size ≤ 512 * many) (fun h => h4 h.2.2.2)]
          go_enter Tryd.func38, Tryd.ntmps38
          go_wp2
          go_ret
          exact ⟨rfl, rfl⟩
      · rw [decide_eq_false (p := many ≤ 256 ∧ size ≤ 8192 ∧ many ≤ size ∧ size ≤ 512 * many) (fun h => h3 h.2.2.1)]
        go_enter Tryd.func38, Tryd.ntmps38
        go_wp2
        go_ret
        exact ⟨rfl, rfl⟩
    · rw [decide_eq_false (p := many ≤ 256 ∧ size ≤ 8192 ∧ many ≤ size ∧ size ≤ 512 * many) (fun h => h2 h.2.1)]
      go_enter Tryd.func38, Tryd.ntmps38
      go_wp2
      go_ret
      exact ⟨rfl, rfl⟩
  · rw [decide_eq_false (p := many ≤ 256 ∧ size ≤ 8192 ∧ many ≤ size ∧ size ≤ 512 * many) (fun h => h1 h.1)]
    go_enter Tryd.func38, Tryd.ntmps38
    go_wp2
    go_ret
    exact ⟨rfl, rfl⟩
theorem sized_yes (size many : Int) (w : World) (h0 : 0 ≤ many) (h : Sized size many) :
    Calls Tryd.prog 38 #[.int .i64 size, .int .i64 many] w fun e w' => e = .returned (.bool true) ∧ w' = w := by
  have := sized_any size many w h0
  rwa [decide_eq_true h] at this
theorem sized_no (size many : Int) (w : World) (h0 : 0 ≤ many) (h : ¬ Sized size many) :
    Calls Tryd.prog 38 #[.int .i64 size, .int .i64 many] w fun e w' => e = .returned (.bool false) ∧ w' = w := by
  have := sized_any size many w h0
  rwa [decide_eq_false h] at this
end Go.Proofs.YtigkemkebceacaaDoor
/- Contracts: whether a share's digests come to the file's. -/
namespace Go.Mk
open Go.RowKit
theorem cells6 {w : World} {g : Nat} {a b c d e f : Value} {T : TypeId} (h : w.heap[g]? = some (.cells #[a, b, c, d, e, f] T (0, 0))) :
    w.cell? ⟨g, 0, none⟩ = some a ∧ w.cell? ⟨g, 1, none⟩ = some b ∧ w.cell? ⟨g, 2, none⟩ = some c ∧ w.cell? ⟨g, 3, none⟩ = some d ∧ w.cell? ⟨g, 4, none⟩ = some e ∧ w.cell? ⟨g, 5, none⟩ = some f := by
  refine ⟨?_, ?_, ?_, ?_, ?_, ?_⟩ <;> (rw [cell_of_row _ _ _ _ _ _ h]; rfl)
/-- A block of one's own, and all that was there. -/
structure Bx (w : World) (g : Nat) (cs : Array Value) (T : TypeId) (W : World) : Prop where
  row : W.heap[g]? = some (.cells cs T (0, 0))
  below : Below w.heap.size w W
theorem Bx.step {w W W' : World} {g : Nat} {cs : Array Value} {T : TypeId} (h : Bx w g cs T W) (k : Below W.heap.size W W') : Bx w g cs T W' := by
  have hlt : g < W.heap.size := by
    rcases Nat.lt_or_ge g W.heap.size with y | y
    · exact y
    · have := h.row; rw [Array.getElem?_eq_none y] at this; cases this
  exact ⟨(k.block g hlt).trans h.row, h.below.trans (k.mono h.below.size)⟩
theorem Bx.new (w : World) (cs : Array Value) (T : TypeId) : Bx w w.heap.size cs T (w.alloc (.cells cs T)) := ⟨heap_alloc_new _ _, (Below.refl _ w).alloc (Nat.le_refl _) _⟩
theorem str_ne {a b : ByteArray} (h : a ≠ b) : (a.toList == b.toList) = false := by
  rw [beq_eq_false_iff_ne, ByteArray.toList_eq, ByteArray.toList_eq]
  exact fun e => h (by cases a; cases b; simp at e; rw [e])
theorem first_bad : ∀ (l : List ByteArray) (_ : ¬ ∀ h ∈ l, h.size = 32), ∃ q, q < l.length ∧ (∀ s, l[q]? = some s → ¬ s.size = 32) ∧ ∀ j s, j < q → l[j]? = some s → s.size = 32
  | [], h => absurd (fun _ hx => (by cases hx)) h
  | y :: l, h => by
    by_cases hy : y.size = 32
    · obtain ⟨q, h1, h2, h3⟩ := first_bad l (fun h' => h (fun x hx => by rcases List.mem_cons.1 hx with rfl | hx; exact hy; exact h' x hx))
      refine ⟨q + 1, by simp; omega, fun s hs => h2 s (by simpa using hs), fun j s hj hs => ?_⟩
      match j, hj, hs with
      | 0, _, hs => simp at hs; subst hs; exact hy
      | j + 1, hj, hs => exact h3 j s (by omega) (by simpa using hs)
    · exact ⟨0, by simp, fun s hs => by simp at hs; subst hs; exact hy, fun j s hj => by omega⟩
end Go.Mk
namespace Go.Proofs.YtigkemkebceacaaDoor
open Go.RowKit Go.Mk Go.Chunk
attribute [local go_sem] Oper.semAt_some
theorem run_eql_iface_nil_right {P : Program} (w : World) {ti : TypeId} {ms : Array (String × TypeId)} (tp : TypeId) (v : Value) (hi : P.underlying ti = some (.interface ms)) :
    (binOp .eql ti (.iface tp v) .nilIface).run P w = .ok (.bool false) w := by
  have h : ∀ d : Nat, (Op.equalIn (d + 1) ti (.iface tp v) .nilIface).run P w = .ok false w := fun d => by simp [Op.equalIn, run_underlying hi]
  simp only [binOp]
  simp [Op.equal, Op.maxDepth, h 9999]
end Go.Proofs.YtigkemkebceacaaDoor
/- Contracts: a file's digest; the share of a file's chunk. -/
namespace Go.Proofs.YtigkemkebceacaaDoor
open Go.RowKit Go.Shelf Go.Wire Go.Mk Go.Chunk
attribute [local go_sem] Oper.semAt_some
theorem file_any (size : Nat) (xs : List ByteArray) (v : Value) (w : World) (hsz : size ≤ 100000) (hr : StrRow.Reads w v xs) (hn : xs.length ≤ 256) (hx : ∀ s ∈ xs, s.size = 32) (hst : Steps w) :
    Calls Tryd.prog 24 #[.agg #[.int .i64 size, v]] w fun e w' => e = .returned (.string (named size xs.length (root xs))) ∧ Below w.heap.size w w' := by
  obtain ⟨a, c, rfl⟩ := hr.form
  have hbw : Below w.heap.size w (w.alloc (.cells #[.int .i64 size, .slice a xs.length c] 24)) := (Below.refl _ w).alloc (Nat.le_refl _) _
  have hrow : (w.alloc (.cells #[.int .i64 size, .slice a xs.length c] 24)).heap[w.heap.size]? = some (.cells #[.int .i64 size, .slice a xs.length c] 24 (0, 0)) := heap_alloc_new _ _
  have hz := root_size xs hx
  have HR := hide (fun (w' : World) (h : Below w.heap.size w w') => root_any xs _ w' (hr.below h (Nat.le_refl _)) hn hx (hst.kept h))
  have HF := hide (fun (w' : World) (h : Below w.heap.size w w') => fileOf_any size xs.length (root xs) w' hsz (by omega) (by omega) (hst.kept h))
  clear hr hst hx
  generalize root xs = R at *
  go_enter Tryd.func24, Tryd.ntmps24
  go_upto_region 1 with fail
  generalize w.alloc (.cells #[.int .i64 size, .slice a xs.length c] 24) = W at *
  have c0 : W.cell? ⟨w.heap.size, 0, none⟩ = some (.int .i64 size) := by rw [cell_of_row _ _ _ _ _ _ hrow]; rfl
  have c1 : W.cell? ⟨w.heap.size, 1, none⟩ = some (.slice a xs.length c) := by rw [cell_of_row _ _ _ _ _ _ hrow]; rfl
  have r0 := cell_regrown c0
  have r1 := cell_regrown c1
  have HB := hide hbw
  clear hbw hrow
  refine QuietCalls.region (by kernel_rfl) (by kernel_rfl) ?_
  iterate 7 first | go_big_quiet_step (fail) | quiet_step (fail)
  refine QuietCalls.call1 rfl rfl Tryd.call41 (fun w' h => HR.out w' (HB.out.trans (h.mono HB.out.size))) rfl ?_; simp only [Act.put, List.setIfInBounds_toArray, List.set_cons_succ, List.set_cons_zero]
  refine QuietCalls.call3 rfl rfl Tryd.call40 (fun w' h => HF.out w' (HB.out.trans (h.mono HB.out.size))) rfl rfl rfl ?_; simp only [Act.put, List.setIfInBounds_toArray, List.set_cons_succ, List.set_cons_zero]
  refine QuietCalls.assign rfl rfl rfl ?_; simp only [Act.put, List.setIfInBounds_toArray, List.set_cons_succ, List.set_cons_zero]
  refine wpQuiet_nil ?_
  intro w2 hb2
  have HB2 := hide (HB.out.trans (hb2.mono HB.out.size))
  clear hb2 r0 r1
  go_wp2_with fail
  go_ret
  exact ⟨rfl, HB2.out⟩
theorem _root_.Go.Mk.Bx.both {w : World} {g : Nat} {cs : Array Value} {T : TypeId} {W : World} (h : Bx w g cs T W) (o : Obj) : Bx w g cs T (W.alloc o) := h.step ((Below.refl _ W).alloc (Nat.le_refl _) o)
end Go.Proofs.YtigkemkebceacaaDoor
