/- Contracts: an operation off a reader, the document's. -/
import Derived.Test.YtdcgemaaohldmaaOpRefCheck
import Derived.Test.YtdcgemaaohldmaaOpDecode
import Derived.Test.YtdcgemaaohldmaaWireRefTakes
namespace Go.Opn
open Go.RowKit Go.Wire Go.Stamp
abbrev rcs (q : St) : Array Value := #[.string q.s, .int .i64 q.pos, .int .i64 q.err]
/-- While the document's Take goes: its reader, its two answers, the operation. -/
structure RtAt (R S g : Nat) (w0 : World) (q : St) (o : Ob) (w : World) : Prop where
  b0 : w.heap[g]? = some (.cells (rcs q) R (0, 0))
  b1 : w.heap[g + 1]? = some (.cells (rcs ⟨⟨#[]⟩, 0, 0⟩) R (0, 0))
  b2 : w.heap[g + 2]? = some (.cells Ob.zero.cs S (0, 0))
  b3 : w.heap[g + 3]? = some (.cells o.cs S (0, 0))
  below : Below g w0 w
theorem RtAt.step {R S g : Nat} {w0 w w' : World} {q : St} {o : Ob} (i : RtAt R S g w0 q o w) (k : Below w.heap.size w w') : RtAt R S g w0 q o w' :=
  ⟨kept_block i.b0 k, kept_block i.b1 k, kept_block i.b2 k, kept_block i.b3 k, i.below.trans (k.mono (Nat.le_of_lt (row_lt i.b0)))⟩
theorem RtAt.setR {R S g : Nat} {w0 w : World} {q : St} {o : Ob} (i : RtAt R S g w0 q o w) (r : St) : RtAt R S g w0 r o (((w.setCell ⟨g, 0, none⟩ (.string r.s)).setCell ⟨g, 1, none⟩ (.int .i64 r.pos)).setCell ⟨g, 2, none⟩ (.int .i64 r.err)) := by
  have e : ∀ k, k ≠ g → (((w.setCell ⟨g, 0, none⟩ (.string r.s)).setCell ⟨g, 1, none⟩ (.int .i64 r.pos)).setCell ⟨g, 2, none⟩ (.int .i64 r.err)).heap[k]? = w.heap[k]? := fun k hk =>
    ((Below.heap_setCell _ ⟨g, 2, none⟩ _ k hk).trans (Below.heap_setCell _ ⟨g, 1, none⟩ _ k hk)).trans (Below.heap_setCell _ ⟨g, 0, none⟩ _ k hk)
  exact ⟨Wire.set3 i.b0 _ _ _, (e _ (by omega)).trans i.b1, (e _ (by omega)).trans i.b2, (e _ (by omega)).trans i.b3, below3 i.below (Nat.le_refl _) _ _ _⟩
theorem RtAt.setErr {R S g : Nat} {w0 w : World} {q : St} {o : Ob} (i : RtAt R S g w0 q o w) (e : Int) : RtAt R S g w0 ⟨q.s, q.pos, e⟩ o (w.setCell ⟨g, 2, none⟩ (.int .i64 e)) := by
  have x : ∀ k, k ≠ g → (w.setCell ⟨g, 2, none⟩ (.int .i64 e)).heap[k]? = w.heap[k]? := fun k hk => Below.heap_setCell _ ⟨g, 2, none⟩ _ k hk
  exact ⟨by rw [heap_setCell_same _ _ _ _ _ _ i.b0]; rfl, (x _ (by omega)).trans i.b1, (x _ (by omega)).trans i.b2, (x _ (by omega)).trans i.b3, i.below.setCell (p := ⟨g, 2, none⟩) (Nat.le_refl _) _⟩
theorem RtAt.setO {R S g : Nat} {w0 w : World} {q : St} {o : Ob} (i : RtAt R S g w0 q o w) (j : Nat) (v : Value) (o' : Ob) (e : (w.setCell ⟨g + 3, j, none⟩ v).heap[g + 3]? = some (.cells o'.cs S (0, 0))) : RtAt R S g w0 q o' (w.setCell ⟨g + 3, j, none⟩ v) := by
  have x : ∀ k, k ≠ g + 3 → (w.setCell ⟨g + 3, j, none⟩ v).heap[k]? = w.heap[k]? := fun k hk => Below.heap_setCell _ ⟨g + 3, j, none⟩ _ k hk
  exact ⟨(x _ (by omega)).trans i.b0, (x _ (by omega)).trans i.b1, (x _ (by omega)).trans i.b2, e, i.below.setCell (p := ⟨g + 3, j, none⟩) (by show g ≤ g + 3; omega) _⟩
theorem RtAt.setTm {R S g : Nat} {w0 w : World} {q : St} {kd th p : Int} {t : Tm} {n : ByteArray} {d : Bool} {x : ByteArray} {z : Int} (i : RtAt R S g w0 q ⟨kd, t, th, p, n, d, x, z⟩ w) (c k : Int) : RtAt R S g w0 q ⟨kd, ⟨c, k⟩, th, p, n, d, x, z⟩ ((w.setCell ⟨g + 3, 1, none⟩ (.int .u64 c)).setCell ⟨g + 3, 2, none⟩ (.int .i64 k)) :=
  (i.setO 1 (.int .u64 c) ⟨kd, ⟨c, t.k⟩, th, p, n, d, x, z⟩ (by rw [heap_setCell_same _ _ _ _ _ _ i.b3]; rfl)).setO 2 (.int .i64 k) ⟨kd, ⟨c, k⟩, th, p, n, d, x, z⟩ (by
    rw [heap_setCell_same _ _ _ _ _ _ (i.setO 1 (.int .u64 c) ⟨kd, ⟨c, t.k⟩, th, p, n, d, x, z⟩ (by rw [heap_setCell_same _ _ _ _ _ _ i.b3]; rfl)).b3]; rfl)
theorem at_new {w : World} {n : Nat} (h : w.heap.size = n) (o : Obj) : (w.alloc o).heap[n]? = some o := h ▸ heap_alloc_new w o
theorem below_row {B : Nat} {w w1 : World} (h : Below B w w1) {g : Nat} (hg : B ≤ g) (cs : Array Value) : Below B w (w1.setRow g cs) :=
  h.trans ⟨rfl, rfl, rfl, by simp, fun k hk => setRow_other _ _ _ _ (by omega)⟩
theorem RtAt.start {R S : Nat} {q : St} {w w1 : World} (k : Below ((((w.alloc (.cells (rcs q) R)).alloc (.cells (rcs ⟨⟨#[]⟩, 0, 0⟩) R)).alloc (.cells Ob.zero.cs S)).alloc (.cells Ob.zero.cs S)).heap.size ((((w.alloc (.cells (rcs q) R)).alloc (.cells (rcs ⟨⟨#[]⟩, 0, 0⟩) R)).alloc (.cells Ob.zero.cs S)).alloc (.cells Ob.zero.cs S)) w1) :
    RtAt R S w.heap.size w q Ob.zero w1 := by
  refine RtAt.step ⟨?_, ?_, ?_, ?_, ?_⟩ k
  · exact kept_alloc (kept_alloc (kept_alloc (heap_alloc_new _ _) _) _) _
  · exact kept_alloc (kept_alloc (at_new (by simp) _) _) _
  · exact kept_alloc (at_new (by simp) _) _
  · exact at_new (by simp) _
  · exact ((((Below.refl _ _).alloc (Nat.le_refl _) _).alloc (by simp) _).alloc (by simp; omega) _).alloc (by simp; omega) _
/-- Both answers are laid. -/
theorem RtAt.done {R S g : Nat} {w0 w : World} {q : St} {o : Ob} (i : RtAt R S g w0 q o w) (a b : Array Value) :
    ((w.setRow (g + 1) a).setRow (g + 2) b).heap[g + 1]? = some (.cells a R (0, 0)) ∧ ((w.setRow (g + 1) a).setRow (g + 2) b).heap[g + 2]? = some (.cells b S (0, 0)) ∧ Below g w0 ((w.setRow (g + 1) a).setRow (g + 2) b) :=
  ⟨(setRow_other _ _ _ _ (by omega)).trans (setRow_heap _ _ _ _ _ _ i.b1), setRow_heap _ _ _ _ _ _ ((setRow_other _ _ _ _ (by omega)).trans i.b2),
    below_row (below_row i.below (by omega) _) (by omega) _⟩
abbrev set9 (w : World) (g : Nat) (o : Ob) : World := (((((((((w.setCell ⟨g, 0, none⟩ (.int .i64 o.kind)).setCell ⟨g, 1, none⟩ (.int .u64 o.tm.c)).setCell ⟨g, 2, none⟩ (.int .i64 o.tm.k)).setCell ⟨g, 3, none⟩ (.int .u64 o.thing)).setCell ⟨g, 4, none⟩ (.int .u64 o.par)).setCell ⟨g, 5, none⟩ (.string o.name)).setCell ⟨g, 6, none⟩ (.bool o.dir)).setCell ⟨g, 7, none⟩ (.string o.dg)).setCell ⟨g, 8, none⟩ (.int .i64 o.size))
theorem set9_row {w : World} {g T : Nat} {a o : Ob} (h : w.heap[g]? = some (.cells a.cs T (0, 0))) : (set9 w g o).heap[g]? = some (.cells o.cs T (0, 0)) := by
  have h0 : (w.setCell ⟨g, 0, none⟩ (.int .i64 o.kind)).heap[g]? = some (.cells #[.int .i64 o.kind, .int .u64 a.tm.c, .int .i64 a.tm.k, .int .u64 a.thing, .int .u64 a.par, .string a.name, .bool a.dir, .string a.dg, .int .i64 a.size] T (0, 0)) := by rw [heap_setCell_same _ _ _ _ _ _ h]; rfl
  have h1 : ((w.setCell ⟨g, 0, none⟩ (.int .i64 o.kind)).setCell ⟨g, 1, none⟩ (.int .u64 o.tm.c)).heap[g]? = some (.cells #[.int .i64 o.kind, .int .u64 o.tm.c, .int .i64 a.tm.k, .int .u64 a.thing, .int .u64 a.par, .string a.name, .bool a.dir, .string a.dg, .int .i64 a.size] T (0, 0)) := by rw [heap_setCell_same _ _ _ _ _ _ h0]; rfl
  have h2 : (((w.setCell ⟨g, 0, none⟩ (.int .i64 o.kind)).setCell ⟨g, 1, none⟩ (.int .u64 o.tm.c)).setCell ⟨g, 2, none⟩ (.int .i64 o.tm.k)).heap[g]? = some (.cells #[.int .i64 o.kind, .int .u64 o.tm.c, .int .i64 o.tm.k, .int .u64 a.thing, .int .u64 a.par, .string a.name, .bool a.dir, .string a.dg, .int .i64 a.size] T (0, 0)) := by rw [heap_setCell_same _ _ _ _ _ _ h1]; rfl
  have h3 : ((((w.setCell ⟨g, 0, none⟩ (.int .i64 o.kind)).setCell ⟨g, 1, none⟩ (.int .u64 o.tm.c)).setCell ⟨g, 2, none⟩ (.int .i64 o.tm.k)).setCell ⟨g, 3, none⟩ (.int .u64 o.thing)).heap[g]? = some (.cells #[.int .i64 o.kind, .int .u64 o.tm.c, .int .i64 o.tm.k, .int .u64 o.thing, .int .u64 a.par, .string a.name, .bool a.dir, .string a.dg, .int .i64 a.size] T (0, 0)) := by rw [heap_setCell_same _ _ _ _ _ _ h2]; rfl
  have h4 : (((((w.setCell ⟨g, 0, none⟩ (.int .i64 o.kind)).setCell ⟨g, 1, none⟩ (.int .u64 o.tm.c)).setCell ⟨g, 2, none⟩ (.int .i64 o.tm.k)).setCell ⟨g, 3, none⟩ (.int .u64 o.thing)).setCell ⟨g, 4, none⟩ (.int .u64 o.par)).heap[g]? = some (.cells #[.int .i64 o.kind, .int .u64 o.tm.c, .int .i64 o.tm.k, .int .u64 o.thing, .int .u64 o.par, .string a.name, .bool a.dir, .string a.dg, .int .i64 a.size] T (0, 0)) := by rw [heap_setCell_same _ _ _ _ _ _ h3]; rfl
  have h5 : ((((((w.setCell ⟨g, 0, none⟩ (.int .i64 o.kind)).setCell ⟨g, 1, none⟩ (.int .u64 o.tm.c)).setCell ⟨g, 2, none⟩ (.int .i64 o.tm.k)).setCell ⟨g, 3, none⟩ (.int .u64 o.thing)).setCell ⟨g, 4, none⟩ (.int .u64 o.par)).setCell ⟨g, 5, none⟩ (.string o.name)).heap[g]? = some (.cells #[.int .i64 o.kind, .int .u64 o.tm.c, .int .i64 o.tm.k, .int .u64 o.thing, .int .u64 o.par, .string o.name, .bool a.dir, .string a.dg, .int .i64 a.size] T (0, 0)) := by rw [heap_setCell_same _ _ _ _ _ _ h4]; rfl
  have h6 : (((((((w.setCell ⟨g, 0, none⟩ (.int .i64 o.kind)).setCell ⟨g, 1, none⟩ (.int .u64 o.tm.c)).setCell ⟨g, 2, none⟩ (.int .i64 o.tm.k)).setCell ⟨g, 3, none⟩ (.int .u64 o.thing)).setCell ⟨g, 4, none⟩ (.int .u64 o.par)).setCell ⟨g, 5, none⟩ (.string o.name)).setCell ⟨g, 6, none⟩ (.bool o.dir)).heap[g]? = some (.cells #[.int .i64 o.kind, .int .u64 o.tm.c, .int .i64 o.tm.k, .int .u64 o.thing, .int .u64 o.par, .string o.name, .bool o.dir, .string a.dg, .int .i64 a.size] T (0, 0)) := by rw [heap_setCell_same _ _ _ _ _ _ h5]; rfl
  have h7 : ((((((((w.setCell ⟨g, 0, none⟩ (.int .i64 o.kind)).setCell ⟨g, 1, none⟩ (.int .u64 o.tm.c)).setCell ⟨g, 2, none⟩ (.int .i64 o.tm.k)).setCell ⟨g, 3, none⟩ (.int .u64 o.thing)).setCell ⟨g, 4, none⟩ (.int .u64 o.par)).setCell ⟨g, 5, none⟩ (.string o.name)).setCell ⟨g, 6, none⟩ (.bool o.dir)).setCell ⟨g, 7, none⟩ (.string o.dg)).heap[g]? = some (.cells #[.int .i64 o.kind, .int .u64 o.tm.c, .int .i64 o.tm.k, .int .u64 o.thing, .int .u64 o.par, .string o.name, .bool o.dir, .string o.dg, .int .i64 a.size] T (0, 0)) := by rw [heap_setCell_same _ _ _ _ _ _ h6]; rfl
  have h8 : (((((((((w.setCell ⟨g, 0, none⟩ (.int .i64 o.kind)).setCell ⟨g, 1, none⟩ (.int .u64 o.tm.c)).setCell ⟨g, 2, none⟩ (.int .i64 o.tm.k)).setCell ⟨g, 3, none⟩ (.int .u64 o.thing)).setCell ⟨g, 4, none⟩ (.int .u64 o.par)).setCell ⟨g, 5, none⟩ (.string o.name)).setCell ⟨g, 6, none⟩ (.bool o.dir)).setCell ⟨g, 7, none⟩ (.string o.dg)).setCell ⟨g, 8, none⟩ (.int .i64 o.size)).heap[g]? = some (.cells #[.int .i64 o.kind, .int .u64 o.tm.c, .int .i64 o.tm.k, .int .u64 o.thing, .int .u64 o.par, .string o.name, .bool o.dir, .string o.dg, .int .i64 o.size] T (0, 0)) := by rw [heap_setCell_same _ _ _ _ _ _ h7]; rfl
  exact h8
theorem set9_other (w : World) (g : Nat) (o : Ob) (k : Nat) (hk : k ≠ g) : (set9 w g o).heap[k]? = w.heap[k]? := by
  unfold set9
  rw [Below.heap_setCell _ ⟨g, 8, none⟩ _ k hk]
  rw [Below.heap_setCell _ ⟨g, 7, none⟩ _ k hk]
  rw [Below.heap_setCell _ ⟨g, 6, none⟩ _ k hk]
  rw [Below.heap_setCell _ ⟨g, 5, none⟩ _ k hk]
  rw [Below.heap_setCell _ ⟨g, 4, none⟩ _ k hk]
  rw [Below.heap_setCell _ ⟨g, 3, none⟩ _ k hk]
  rw [Below.heap_setCell _ ⟨g, 2, none⟩ _ k hk]
  rw [Below.heap_setCell _ ⟨g, 1, none⟩ _ k hk]
  rw [Below.heap_setCell _ ⟨g, 0, none⟩ _ k hk]
theorem set9_below {B g : Nat} {w0 w : World} (h : Below B w0 w) (hg : B ≤ g) (o : Ob) : Below B w0 (set9 w g o) := by
  unfold set9
  exact (((((((((h.setCell (p := ⟨g, 0, none⟩) hg _).setCell (p := ⟨g, 1, none⟩) hg _).setCell (p := ⟨g, 2, none⟩) hg _).setCell (p := ⟨g, 3, none⟩) hg _).setCell (p := ⟨g, 4, none⟩) hg _).setCell (p := ⟨g, 5, none⟩) hg _).setCell (p := ⟨g, 6, none⟩) hg _).setCell (p := ⟨g, 7, none⟩) hg _).setCell (p := ⟨g, 8, none⟩) hg _)
/-- Both answers are laid, cell by cell. -/
theorem RtAt.laid {R S g : Nat} {w0 w : World} {q : St} {o : Ob} (i : RtAt R S g w0 q o w) (r : St) (p : Ob) {W : World} (hW : W = (set9 (((w.setCell ⟨g + 1, 0, none⟩ (.string r.s)).setCell ⟨g + 1, 1, none⟩ (.int .i64 r.pos)).setCell ⟨g + 1, 2, none⟩ (.int .i64 r.err)) (g + 2) p).drew) :
    W.heap[g + 1]? = some (.cells (rcs r) R (0, 0)) ∧ W.heap[g + 2]? = some (.cells p.cs S (0, 0)) ∧ Below g w0 W := by
  generalize hU : (((w.setCell ⟨g + 1, 0, none⟩ (.string r.s)).setCell ⟨g + 1, 1, none⟩ (.int .i64 r.pos)).setCell ⟨g + 1, 2, none⟩ (.int .i64 r.err)) = U at hW
  have u1 : U.heap[g + 1]? = some (.cells (rcs r) R (0, 0)) := by rw [← hU]; exact Wire.set3 i.b1 _ _ _
  have u2 : U.heap[g + 2]? = some (.cells Ob.zero.cs S (0, 0)) := by
    rw [← hU, Below.heap_setCell _ ⟨g + 1, 2, none⟩ _ _ (by show g + 2 ≠ g + 1; omega), Below.heap_setCell _ ⟨g + 1, 1, none⟩ _ _ (by show g + 2 ≠ g + 1; omega), Below.heap_setCell _ ⟨g + 1, 0, none⟩ _ _ (by show g + 2 ≠ g + 1; omega)]
    exact i.b2
  have u3 : Below g w0 U := by rw [← hU]; exact below3 i.below (by omega) _ _ _
  clear hU
  have v1 := (set9_other U (g + 2) p (g + 1) (by omega)).trans u1
  have v2 := set9_row (o := p) u2
  have v3 := set9_below u3 (show g ≤ g + 2 by omega) p
  generalize set9 U (g + 2) p = V at hW v1 v2 v3
  subst hW
  exact ⟨v1, v2, v3.drew⟩
end Go.Opn
namespace Go.Proofs.Ytdcgemaaohldmaa
open Go.RowKit Go.Wire Go.Stamp Go.Opn Go.Sort
set_option maxRecDepth 100000 in
set_option maxHeartbeats 4000000 in
theorem rtake_0 (q r1 r2 r3  : St) (kd : Nat) (t : Tm) (th : Nat) (w : World) (hk : kd < 256) (k1 : kd ≠ 1) (k2 : kd ≠ 2) (k4 : kd ≠ 4)
    (HN1 : Hid (∀ w, Calls Try.prog 15 #[q.v, .int .i64 1] w fun e w' => e = .returned (.tuple #[r1.v, .int .u64 kd]) ∧ Below w.heap.size w w'))
    (HST : Hid (∀ w, Calls Try.prog 16 #[r1.v] w fun e w' => e = .returned (.tuple #[r2.v, t.v]) ∧ Below w.heap.size w w'))
    (HN8 : Hid (∀ w, Calls Try.prog 15 #[r2.v, .int .i64 8] w fun e w' => e = .returned (.tuple #[r3.v, .int .u64 th]) ∧ Below w.heap.size w w'))
    (e0 : Int) (HC : Hid (∀ w, Calls Try.prog 21 #[(Ob.mk kd t th 0 ⟨#[]⟩ false ⟨#[]⟩ 0).v] w fun e w' => e = .returned (.int .i64 e0) ∧ Below w.heap.size w w')) :
    Calls Try.prog 6 #[q.v] w fun e w' => e = .returned (.tuple #[(r3.fail e0).v, (if (r3.fail e0).err = 0 then Ob.mk kd t th 0 ⟨#[]⟩ false ⟨#[]⟩ 0 else Ob.zero).v]) ∧ Below w.heap.size w w' := by
  have hw : IntKind.i64.wrap (kd : Int) = kd := by simp [IntKind.wrap, IntKind.bits, IntKind.signed]; omega
  have e1 : ((kd : Int) == 1) = false := beq_eq_false_iff_ne.2 (by omega)
  have e2 : ((kd : Int) == 2) = false := beq_eq_false_iff_ne.2 (by omega)
  have e4 : ((kd : Int) == 4) = false := beq_eq_false_iff_ne.2 (by omega)
  clear k1 k2 k4 hk
  obtain ⟨c, k⟩ := t
  unfold Tm.v at HST
  unfold Ob.v at HC
  unfold St.v at HN1 HST HN8
  dsimp only at HST HC ⊢
  by_cases hr : r3.err = 0
  · have hs : r3 = ⟨r3.s, r3.pos, 0⟩ := by rw [← hr]
    generalize r3.s = rs at hs
    generalize r3.pos = rp at hs
    subst hs
    clear hr
    by_cases he : e0 = 0
    · subst he
      rw [fail_0, if_pos rfl]
      unfold Ob.v St.v
      dsimp only
      go_enter Try.func6, Try.ntmps6
      go_upto_region 18 with (first
        | (go_at_call_of 15 (Value.int IntKind.i64 1); refine (HN1.out _).mono ?_; rintro e w1 ⟨rfl, k1⟩; have I : Hid (RtAt 31 34 w.heap.size w q (Ob.zero) w1) := RtAt.start k1; clear k1; obtain ⟨a0, a1, a2, a3, a4, a5⟩ := cells3 I.out.b0; obtain ⟨c0, c1, c2, c3, c4, c5, c6, c7, c8⟩ := cells9 I.out.b3; have f0 := frozen9 I.out.b3 0)
        | (go_at_call 16; refine (HST.out _).mono ?_; clear HST; rintro e w2 ⟨rfl, k2⟩; replace I : Hid (RtAt 31 34 w.heap.size w r1 (Ob.mk kd ⟨0, 0⟩ 0 0 ⟨#[]⟩ false ⟨#[]⟩ 0) w2) := ((I.out.setR r1).setO 0 (.int .i64 kd) (Ob.mk kd ⟨0, 0⟩ 0 0 ⟨#[]⟩ false ⟨#[]⟩ 0) (by rw [heap_setCell_same _ _ _ _ _ _ ((I.out.setR r1)).b3]; rfl)).step k2; clear a0 a1 a2 a3 a4 a5 c0 c1 c2 c3 c4 c5 c6 c7 c8; clear f0; clear k2; obtain ⟨a0, a1, a2, a3, a4, a5⟩ := cells3 I.out.b0; obtain ⟨c0, c1, c2, c3, c4, c5, c6, c7, c8⟩ := cells9 I.out.b3; have f1 := frozen9 I.out.b3 1; have f2 := frozen9 I.out.b3 2)
        | (go_at_call_of 15 (Value.int IntKind.i64 8); refine (HN8.out _).mono ?_; clear HN8; rintro e w3 ⟨rfl, k3⟩; replace I : Hid (RtAt 31 34 w.heap.size w r2 (Ob.mk kd ⟨c, k⟩ 0 0 ⟨#[]⟩ false ⟨#[]⟩ 0) w3) := ((I.out.setR r2).setTm c k).step k3; clear a0 a1 a2 a3 a4 a5 c0 c1 c2 c3 c4 c5 c6 c7 c8; clear f1; clear f2; clear k3; obtain ⟨a0, a1, a2, a3, a4, a5⟩ := cells3 I.out.b0; obtain ⟨c0, c1, c2, c3, c4, c5, c6, c7, c8⟩ := cells9 I.out.b3; have f3 := frozen9 I.out.b3 3)
        | (go_at_call 21; refine (HC.out _).mono ?_; rintro e w4 ⟨rfl, k4⟩; replace I : Hid (RtAt 31 34 w.heap.size w ⟨rs, rp, 0⟩ (Ob.mk kd ⟨c, k⟩ th 0 ⟨#[]⟩ false ⟨#[]⟩ 0) w4) := ((I.out.setR ⟨rs, rp, 0⟩).setO 3 (.int .u64 th) (Ob.mk kd ⟨c, k⟩ th 0 ⟨#[]⟩ false ⟨#[]⟩ 0) (by rw [heap_setCell_same _ _ _ _ _ _ ((I.out.setR ⟨rs, rp, 0⟩)).b3]; rfl)).step k4; clear a0 a1 a2 a3 a4 a5 c0 c1 c2 c3 c4 c5 c6 c7 c8; clear f3; clear k4; obtain ⟨a0, a1, a2, a3, a4, a5⟩ := cells3 I.out.b0; obtain ⟨c0, c1, c2, c3, c4, c5, c6, c7, c8⟩ := cells9 I.out.b3))
      obtain ⟨W, hW⟩ : ∃ W, W = w4.setCell ⟨w.heap.size, 2, none⟩ (.int .i64 0) := ⟨_, rfl⟩
      rw [← hW]
      replace I : Hid (RtAt 31 34 w.heap.size w ⟨rs, rp, 0⟩ (Ob.mk kd ⟨c, k⟩ th 0 ⟨#[]⟩ false ⟨#[]⟩ 0) W) := by rw [hW]; exact I.out.setErr 0
      clear hW a0 a1 a2 a3 a4 a5 c0 c1 c2 c3 c4 c5 c6 c7 c8
      obtain ⟨a0, a1, a2, a3, a4, a5⟩ := cells3 I.out.b0
      obtain ⟨b0, b1, b2, b3, b4, b5⟩ := cells3 I.out.b1
      obtain ⟨c0, c1, c2, c3, c4, c5, c6, c7, c8⟩ := cells9 I.out.b3
      obtain ⟨d0, d1, d2, d3, d4, d5, d6, d7, d8⟩ := cells9 I.out.b2
      have f0 := frozen9 I.out.b2 0
      have f1 := frozen9 I.out.b2 1
      have f2 := frozen9 I.out.b2 2
      have f3 := frozen9 I.out.b2 3
      have f4 := frozen9 I.out.b2 4
      have f5 := frozen9 I.out.b2 5
      have f6 := frozen9 I.out.b2 6
      have f7 := frozen9 I.out.b2 7
      have f8 := frozen9 I.out.b2 8
      go_region
      go_wp2

      obtain ⟨z1, z2, z3⟩ := I.out.laid ⟨rs, rp, 0⟩ (Ob.mk kd ⟨c, k⟩ th 0 ⟨#[]⟩ false ⟨#[]⟩ 0) rfl
      exact bodyPost_ret (results_cells2 Try.results6 _ _ _ _ _ (0, 0) _ rfl z1 Try.underlying31 rfl infoRef _ _ _ (0, 0) _ rfl z2 Try.underlying34 rfl infoROp) rfl ⟨rfl, z3⟩
    · have e1 : (St.mk rs rp 0).fail e0 = ⟨rs, rp, e0⟩ := by unfold St.fail; rw [if_pos rfl]
      rw [e1, if_neg he]
      have g1 : (e0 == 0) = false := beq_eq_false_iff_ne.2 he
      clear he e1
      unfold Ob.v St.v Ob.zero
      dsimp only
      go_enter Try.func6, Try.ntmps6
      go_upto_region 17 with (first
        | (go_at_call_of 15 (Value.int IntKind.i64 1); refine (HN1.out _).mono ?_; rintro e w1 ⟨rfl, k1⟩; have I : Hid (RtAt 31 34 w.heap.size w q (Ob.zero) w1) := RtAt.start k1; clear k1; obtain ⟨a0, a1, a2, a3, a4, a5⟩ := cells3 I.out.b0; obtain ⟨c0, c1, c2, c3, c4, c5, c6, c7, c8⟩ := cells9 I.out.b3; have f0 := frozen9 I.out.b3 0)
        | (go_at_call 16; refine (HST.out _).mono ?_; clear HST; rintro e w2 ⟨rfl, k2⟩; replace I : Hid (RtAt 31 34 w.heap.size w r1 (Ob.mk kd ⟨0, 0⟩ 0 0 ⟨#[]⟩ false ⟨#[]⟩ 0) w2) := ((I.out.setR r1).setO 0 (.int .i64 kd) (Ob.mk kd ⟨0, 0⟩ 0 0 ⟨#[]⟩ false ⟨#[]⟩ 0) (by rw [heap_setCell_same _ _ _ _ _ _ ((I.out.setR r1)).b3]; rfl)).step k2; clear a0 a1 a2 a3 a4 a5 c0 c1 c2 c3 c4 c5 c6 c7 c8; clear f0; clear k2; obtain ⟨a0, a1, a2, a3, a4, a5⟩ := cells3 I.out.b0; obtain ⟨c0, c1, c2, c3, c4, c5, c6, c7, c8⟩ := cells9 I.out.b3; have f1 := frozen9 I.out.b3 1; have f2 := frozen9 I.out.b3 2)
        | (go_at_call_of 15 (Value.int IntKind.i64 8); refine (HN8.out _).mono ?_; clear HN8; rintro e w3 ⟨rfl, k3⟩; replace I : Hid (RtAt 31 34 w.heap.size w r2 (Ob.mk kd ⟨c, k⟩ 0 0 ⟨#[]⟩ false ⟨#[]⟩ 0) w3) := ((I.out.setR r2).setTm c k).step k3; clear a0 a1 a2 a3 a4 a5 c0 c1 c2 c3 c4 c5 c6 c7 c8; clear f1; clear f2; clear k3; obtain ⟨a0, a1, a2, a3, a4, a5⟩ := cells3 I.out.b0; obtain ⟨c0, c1, c2, c3, c4, c5, c6, c7, c8⟩ := cells9 I.out.b3; have f3 := frozen9 I.out.b3 3)
        | (go_at_call 21; refine (HC.out _).mono ?_; rintro e w4 ⟨rfl, k4⟩; replace I : Hid (RtAt 31 34 w.heap.size w ⟨rs, rp, 0⟩ (Ob.mk kd ⟨c, k⟩ th 0 ⟨#[]⟩ false ⟨#[]⟩ 0) w4) := ((I.out.setR ⟨rs, rp, 0⟩).setO 3 (.int .u64 th) (Ob.mk kd ⟨c, k⟩ th 0 ⟨#[]⟩ false ⟨#[]⟩ 0) (by rw [heap_setCell_same _ _ _ _ _ _ ((I.out.setR ⟨rs, rp, 0⟩)).b3]; rfl)).step k4; clear a0 a1 a2 a3 a4 a5 c0 c1 c2 c3 c4 c5 c6 c7 c8; clear f3; clear k4; obtain ⟨a0, a1, a2, a3, a4, a5⟩ := cells3 I.out.b0; obtain ⟨c0, c1, c2, c3, c4, c5, c6, c7, c8⟩ := cells9 I.out.b3))
      obtain ⟨W, hW⟩ : ∃ W, W = w4.setCell ⟨w.heap.size, 2, none⟩ (.int .i64 e0) := ⟨_, rfl⟩
      rw [← hW]
      have HZ : Hid (RtAt 31 34 w.heap.size w ⟨rs, rp, e0⟩ (Ob.mk kd ⟨c, k⟩ th 0 ⟨#[]⟩ false ⟨#[]⟩ 0) W) := by rw [hW]; exact I.out.setErr e0
      clear hW a0 a1 a2 a3 a4 a5 c0 c1 c2 c3 c4 c5 c6 c7 c8 I
      obtain ⟨a0, a1, a2, a3, a4, a5⟩ := cells3 HZ.out.b0
      go_wp2_with (first
        | (refine wpList_store_row rfl 31 _ _ rfl (w.heap.size + 1) _ rfl rfl 31 _ HZ.out.b1 infoRef rfl (by simp [Value.oneCell']) ?_)
        | (refine wpList_store_row rfl 34 _ _ rfl (w.heap.size + 2) _ rfl rfl 34 _ ((setRow_other _ _ _ _ (by omega)).trans HZ.out.b2) infoROp rfl (by simp [Value.oneCell']) ?_))
      obtain ⟨z1, z2, z3⟩ := HZ.out.done (rcs ⟨rs, rp, e0⟩) Ob.zero.cs
      exact bodyPost_ret (results_cells2 Try.results6 _ _ _ _ _ (0, 0) _ rfl z1 Try.underlying31 rfl infoRef _ _ _ (0, 0) _ rfl z2 Try.underlying34 rfl infoROp) rfl ⟨rfl, z3⟩
  · have e1 : r3.fail e0 = r3 := by unfold St.fail; rw [if_neg hr]
    rw [e1, if_neg hr]
    have g1 : (r3.err == 0) = false := beq_eq_false_iff_ne.2 hr
    clear hr e1
    unfold Ob.v St.v Ob.zero
    dsimp only
    go_enter Try.func6, Try.ntmps6
    go_upto_region 17 with (first
      | (go_at_call_of 15 (Value.int IntKind.i64 1); refine (HN1.out _).mono ?_; rintro e w1 ⟨rfl, k1⟩; have I : Hid (RtAt 31 34 w.heap.size w q (Ob.zero) w1) := RtAt.start k1; clear k1; obtain ⟨a0, a1, a2, a3, a4, a5⟩ := cells3 I.out.b0; obtain ⟨c0, c1, c2, c3, c4, c5, c6, c7, c8⟩ := cells9 I.out.b3; have f0 := frozen9 I.out.b3 0)
      | (go_at_call 16; refine (HST.out _).mono ?_; clear HST; rintro e w2 ⟨rfl, k2⟩; replace I : Hid (RtAt 31 34 w.heap.size w r1 (Ob.mk kd ⟨0, 0⟩ 0 0 ⟨#[]⟩ false ⟨#[]⟩ 0) w2) := ((I.out.setR r1).setO 0 (.int .i64 kd) (Ob.mk kd ⟨0, 0⟩ 0 0 ⟨#[]⟩ false ⟨#[]⟩ 0) (by rw [heap_setCell_same _ _ _ _ _ _ ((I.out.setR r1)).b3]; rfl)).step k2; clear a0 a1 a2 a3 a4 a5 c0 c1 c2 c3 c4 c5 c6 c7 c8; clear f0; clear k2; obtain ⟨a0, a1, a2, a3, a4, a5⟩ := cells3 I.out.b0; obtain ⟨c0, c1, c2, c3, c4, c5, c6, c7, c8⟩ := cells9 I.out.b3; have f1 := frozen9 I.out.b3 1; have f2 := frozen9 I.out.b3 2)
      | (go_at_call_of 15 (Value.int IntKind.i64 8); refine (HN8.out _).mono ?_; clear HN8; rintro e w3 ⟨rfl, k3⟩; replace I : Hid (RtAt 31 34 w.heap.size w r2 (Ob.mk kd ⟨c, k⟩ 0 0 ⟨#[]⟩ false ⟨#[]⟩ 0) w3) := ((I.out.setR r2).setTm c k).step k3; clear a0 a1 a2 a3 a4 a5 c0 c1 c2 c3 c4 c5 c6 c7 c8; clear f1; clear f2; clear k3; obtain ⟨a0, a1, a2, a3, a4, a5⟩ := cells3 I.out.b0; obtain ⟨c0, c1, c2, c3, c4, c5, c6, c7, c8⟩ := cells9 I.out.b3; have f3 := frozen9 I.out.b3 3))
    obtain ⟨W, hW⟩ : ∃ W, W = (((w3.setCell ⟨w.heap.size, 0, none⟩ (.string r3.s)).setCell ⟨w.heap.size, 1, none⟩ (.int .i64 r3.pos)).setCell ⟨w.heap.size, 2, none⟩ (.int .i64 r3.err)).setCell ⟨w.heap.size + 1 + 1 + 1, 3, none⟩ (.int .u64 th) := ⟨_, rfl⟩
    rw [← hW]
    have HZ : Hid (RtAt 31 34 w.heap.size w r3 (Ob.mk kd ⟨c, k⟩ th 0 ⟨#[]⟩ false ⟨#[]⟩ 0) W) := by rw [hW]; exact ((I.out.setR r3).setO 3 (.int .u64 th) (Ob.mk kd ⟨c, k⟩ th 0 ⟨#[]⟩ false ⟨#[]⟩ 0) (by rw [heap_setCell_same _ _ _ _ _ _ ((I.out.setR r3)).b3]; rfl))
    clear hW a0 a1 a2 a3 a4 a5 c0 c1 c2 c3 c4 c5 c6 c7 c8 f3 I
    obtain ⟨a0, a1, a2, a3, a4, a5⟩ := cells3 HZ.out.b0
    go_wp2_with (first
      | (refine wpList_store_row rfl 31 _ _ rfl (w.heap.size + 1) _ rfl rfl 31 _ HZ.out.b1 infoRef rfl (by simp [Value.oneCell']) ?_)
      | (refine wpList_store_row rfl 34 _ _ rfl (w.heap.size + 2) _ rfl rfl 34 _ ((setRow_other _ _ _ _ (by omega)).trans HZ.out.b2) infoROp rfl (by simp [Value.oneCell']) ?_))
    obtain ⟨z1, z2, z3⟩ := HZ.out.done (rcs r3) Ob.zero.cs
    exact bodyPost_ret (results_cells2 Try.results6 _ _ _ _ _ (0, 0) _ rfl z1 Try.underlying31 rfl infoRef _ _ _ (0, 0) _ rfl z2 Try.underlying34 rfl infoROp) rfl ⟨rfl, z3⟩
end Go.Proofs.Ytdcgemaaohldmaa
