/- Several texts in one: OpRefTake0, OpRefTake1, OpRefTake2, OpRefTake4, OpRefTake. -/
import Derived.Test.YtcdmdpafkiljdaaGreatDoorOpRefs
import Derived.Test.YtcdmdpafkiljdaaGreatDoorOpTwo
import Derived.Test.YtcdmdpafkiljdaaGreatDoorWireRefTakes
/- Contracts: an operation off a reader, the document's. -/
namespace Go.Opn
open Go.RowKit Go.Wire Go.Stamp
abbrev rcs (q : St) : Array Value := #[.string q.s, .int .i64 q.pos, .int .i64 q.err]
/-- While the document's Take goes: its reader, its two answers, the operation. -/
structure RtAt (R S g : Nat) (w0 : World) (q : St) (o : Ob) (w : World) : Prop where
  b0 : w.heap[g]? = some (.cells (rcs q) R (0, 0))
  b1 : w.heap[g + 1]? = some (.cells (rcs ⟨⟨#[]⟩, 0, 0⟩) R (0, 0))
  b2 : w.heap[g + 2]? = some (.cells Ob.zero.cs S (0, 0))
  b3 : w.heap[g + 3]? = some (.cells o.cs S (0, 0))
  below : Below g w0 w
theorem RtAt.step {R S g : Nat} {w0 w w' : World} {q : St} {o : Ob} (i : RtAt R S g w0 q o w) (k : Below w.heap.size w w') : RtAt R S g w0 q o w' :=
  ⟨kept_block i.b0 k, kept_block i.b1 k, kept_block i.b2 k, kept_block i.b3 k, i.below.trans (k.mono (Nat.le_of_lt (row_lt i.b0)))⟩
theorem RtAt.setR {R S g : Nat} {w0 w : World} {q : St} {o : Ob} (i : RtAt R S g w0 q o w) (r : St) : RtAt R S g w0 r o (((w.setCell ⟨g, 0, none⟩ (.string r.s)).setCell ⟨g, 1, none⟩ (.int .i64 r.pos)).setCell ⟨g, 2, none⟩ (.int .i64 r.err)) := by
  have e : ∀ k, k ≠ g → (((w.setCell ⟨g, 0, none⟩ (.string r.s)).setCell ⟨g, 1, none⟩ (.int .i64 r.pos)).setCell ⟨g, 2, none⟩ (.int .i64 r.err)).heap[k]? = w.heap[k]? := fun k hk =>
    ((Below.heap_setCell _ ⟨g, 2, none⟩ _ k hk).trans (Below.heap_setCell _ ⟨g, 1, none⟩ _ k hk)).trans (Below.heap_setCell _ ⟨g, 0, none⟩ _ k hk)
  exact ⟨Wire.set3 i.b0 _ _ _, (e _ (by omega)).trans i.b1, (e _ (by omega)).trans i.b2, (e _ (by omega)).trans i.b3, below3 i.below (Nat.le_refl _) _ _ _⟩
theorem RtAt.setErr {R S g : Nat} {w0 w : World} {q : St} {o : Ob} (i : RtAt R S g w0 q o w) (e : Int) : RtAt R S g w0 ⟨q.s, q.pos, e⟩ o (w.setCell ⟨g, 2, none⟩ (.int .i64 e)) := by
  have x : ∀ k, k ≠ g → (w.setCell ⟨g, 2, none⟩ (.int .i64 e)).heap[k]? = w.heap[k]? := fun k hk => Below.heap_setCell _ ⟨g, 2, none⟩ _ k hk
  exact ⟨by rw [heap_setCell_same _ _ _ _ _ _ i.b0]; rfl, (x _ (by omega)).trans i.b1, (x _ (by omega)).trans i.b2, (x _ (by omega)).trans i.b3, i.below.setCell (p := ⟨g, 2, none⟩) (Nat.le_refl _) _⟩
theorem RtAt.setO {R S g : Nat} {w0 w : World} {q : St} {o : Ob} (i : RtAt R S g w0 q o w) (j : Nat) (v : Value) (o' : Ob) (e : (w.setCell ⟨g + 3, j, none⟩ v).heap[g + 3]? = some (.cells o'.cs S (0, 0))) : RtAt R S g w0 q o' (w.setCell ⟨g + 3, j, none⟩ v) := by
  have x : ∀ k, k ≠ g + 3 → (w.setCell ⟨g + 3, j, none⟩ v).heap[k]? = w.heap[k]? := fun k hk => Below.heap_setCell _ ⟨g + 3, j, none⟩ _ k hk
  exact ⟨(x _ (by omega)).trans i.b0, (x _ (by omega)).trans i.b1, (x _ (by omega)).trans i.b2, e, i.below.setCell (p := ⟨g + 3, j, none⟩) (by show g ≤ g + 3; omega) _⟩
theorem RtAt.setTm {R S g : Nat} {w0 w : World} {q : St} {kd th p : Int} {t : Tm} {n : ByteArray} {d : Bool} {x : ByteArray} {z : Int} (i : RtAt R S g w0 q ⟨kd, t, th, p, n, d, x, z⟩ w) (c k : Int) : RtAt R S g w0 q ⟨kd, ⟨c, k⟩, th, p, n, d, x, z⟩ ((w.setCell ⟨g + 3, 1, none⟩ (.int .u64 c)).setCell ⟨g + 3, 2, none⟩ (.int .i64 k)) :=
  (i.setO 1 (.int .u64 c) ⟨kd, ⟨c, t.k⟩, th, p, n, d, x, z⟩ (by rw [heap_setCell_same _ _ _ _ _ _ i.b3]; rfl)).setO 2 (.int .i64 k) ⟨kd, ⟨c, k⟩, th, p, n, d, x, z⟩ (by
    rw [heap_setCell_same _ _ _ _ _ _ (i.setO 1 (.int .u64 c) ⟨kd, ⟨c, t.k⟩, th, p, n, d, x, z⟩ (by rw [heap_setCell_same _ _ _ _ _ _ i.b3]; rfl)).b3]; rfl)
theorem at_new {w : World} {n : Nat} (h : w.heap.size = n) (o : Obj) : (w.alloc o).heap[n]? = some o := h ▸ heap_alloc_new w o
theorem below_row {B : Nat} {w w1 : World} (h : Below B w w1) {g : Nat} (hg : B ≤ g) (cs : Array Value) : Below B w (w1.setRow g cs) :=
  h.trans ⟨rfl, rfl, rfl, by simp, fun k hk => setRow_other _ _ _ _ (by omega)⟩
theorem RtAt.start {R S : Nat} {q : St} {w w1 : World} (k : Below ((((w.alloc (.cells (rcs q) R)).alloc (.cells (rcs ⟨⟨#[]⟩, 0, 0⟩) R)).alloc (.cells Ob.zero.cs S)).alloc (.cells Ob.zero.cs S)).heap.size ((((w.alloc (.cells (rcs q) R)).alloc (.cells (rcs ⟨⟨#[]⟩, 0, 0⟩) R)).alloc (.cells Ob.zero.cs S)).alloc (.cells Ob.zero.cs S)) w1) :
    RtAt R S w.heap.size w q Ob.zero w1 := by
  refine RtAt.step ⟨?_, ?_, ?_, ?_, ?_⟩ k
  · exact kept_alloc (kept_alloc (kept_alloc (heap_alloc_new _ _) _) _) _
  · exact kept_alloc (kept_alloc (at_new (by simp) _) _) _
  · exact kept_alloc (at_new (by simp) _) _
  · exact at_new (by simp) _
  · exact ((((Below.refl _ _).alloc (Nat.le_refl _) _).alloc (by simp) _).alloc (by simp; omega) _).alloc (by simp; omega) _
/-- Both answers are laid. -/
theorem RtAt.done {R S g : Nat} {w0 w : World} {q : St} {o : Ob} (i : RtAt R S g w0 q o w) (a b : Array Value) :
    ((w.setRow (g + 1) a).setRow (g + 2) b).heap[g + 1]? = some (.cells a R (0, 0)) ∧ ((w.setRow (g + 1) a).setRow (g + 2) b).heap[g + 2]? = some (.cells b S (0, 0)) ∧ Below g w0 ((w.setRow (g + 1) a).setRow (g + 2) b) :=
  ⟨(setRow_other _ _ _ _ (by omega)).trans (setRow_heap _ _ _ _ _ _ i.b1), setRow_heap _ _ _ _ _ _ ((setRow_other _ _ _ _ (by omega)).trans i.b2),
    below_row (below_row i.below (by omega) _) (by omega) _⟩
abbrev set9 (w : World) (g : Nat) (o : Ob) : World := (((((((((w.setCell ⟨g, 0, none⟩ (.int .i64 o.kind)).setCell ⟨g, 1, none⟩ (.int .u64 o.tm.c)).setCell ⟨g, 2, none⟩ (.int .i64 o.tm.k)).setCell ⟨g, 3, none⟩ (.int .u64 o.thing)).setCell ⟨g, 4, none⟩ (.int .u64 o.par)).setCell ⟨g, 5, none⟩ (.string o.name)).setCell ⟨g, 6, none⟩ (.bool o.dir)).setCell ⟨g, 7, none⟩ (.string o.dg)).setCell ⟨g, 8, none⟩ (.int .i64 o.size))
theorem set9_row {w : World} {g T : Nat} {a o : Ob} (h : w.heap[g]? = some (.cells a.cs T (0, 0))) : (set9 w g o).heap[g]? = some (.cells o.cs T (0, 0)) := by
  have h0 : (w.setCell ⟨g, 0, none⟩ (.int .i64 o.kind)).heap[g]? = some (.cells #[.int .i64 o.kind, .int .u64 a.tm.c, .int .i64 a.tm.k, .int .u64 a.thing, .int .u64 a.par, .string a.name, .bool a.dir, .string a.dg, .int .i64 a.size] T (0, 0)) := by rw [heap_setCell_same _ _ _ _ _ _ h]; rfl
  have h1 : ((w.setCell ⟨g, 0, none⟩ (.int .i64 o.kind)).setCell ⟨g, 1, none⟩ (.int .u64 o.tm.c)).heap[g]? = some (.cells #[.int .i64 o.kind, .int .u64 o.tm.c, .int .i64 a.tm.k, .int .u64 a.thing, .int .u64 a.par, .string a.name, .bool a.dir, .string a.dg, .int .i64 a.size] T (0, 0)) := by rw [heap_setCell_same _ _ _ _ _ _ h0]; rfl
  have h2 : (((w.setCell ⟨g, 0, none⟩ (.int .i64 o.kind)).setCell ⟨g, 1, none⟩ (.int .u64 o.tm.c)).setCell ⟨g, 2, none⟩ (.int .i64 o.tm.k)).heap[g]? = some (.cells #[.int .i64 o.kind, .int .u64 o.tm.c, .int .i64 o.tm.k, .int .u64 a.thing, .int .u64 a.par, .string a.name, .bool a.dir, .string a.dg, .int .i64 a.size] T (0, 0)) := by rw [heap_setCell_same _ _ _ _ _ _ h1]; rfl
  have h3 : ((((w.setCell ⟨g, 0, none⟩ (.int .i64 o.kind)).setCell ⟨g, 1, none⟩ (.int .u64 o.tm.c)).setCell ⟨g, 2, none⟩ (.int .i64 o.tm.k)).setCell ⟨g, 3, none⟩ (.int .u64 o.thing)).heap[g]? = some (.cells #[.int .i64 o.kind, .int .u64 o.tm.c, .int .i64 o.tm.k, .int .u64 o.thing, .int .u64 a.par, .string a.name, .bool a.dir, .string a.dg, .int .i64 a.size] T (0, 0)) := by rw [heap_setCell_same _ _ _ _ _ _ h2]; rfl
  have h4 : (((((w.setCell ⟨g, 0, none⟩ (.int .i64 o.kind)).setCell ⟨g, 1, none⟩ (.int .u64 o.tm.c)).setCell ⟨g, 2, none⟩ (.int .i64 o.tm.k)).setCell ⟨g, 3, none⟩ (.int .u64 o.thing)).setCell ⟨g, 4, none⟩ (.int .u64 o.par)).heap[g]? = some (.cells #[.int .i64 o.kind, .int .u64 o.tm.c, .int .i64 o.tm.k, .int .u64 o.thing, .int .u64 o.par, .string a.name, .bool a.dir, .string a.dg, .int .i64 a.size] T (0, 0)) := by rw [heap_setCell_same _ _ _ _ _ _ h3]; rfl
  have h5 : ((((((w.setCell ⟨g, 0, none⟩ (.int .i64 o.kind)).setCell ⟨g, 1, none⟩ (.int .u64 o.tm.c)).setCell ⟨g, 2, none⟩ (.int .i64 o.tm.k)).setCell ⟨g, 3, none⟩ (.int .u64 o.thing)).setCell ⟨g, 4, none⟩ (.int .u64 o.par)).setCell ⟨g, 5, none⟩ (.string o.name)).heap[g]? = some (.cells #[.int .i64 o.kind, .int .u64 o.tm.c, .int .i64 o.tm.k, .int .u64 o.thing, .int .u64 o.par, .string o.name, .bool a.dir, .string a.dg, .int .i64 a.size] T (0, 0)) := by rw [heap_setCell_same _ _ _ _ _ _ h4]; rfl
  have h6 : (((((((w.setCell ⟨g, 0, none⟩ (.int .i64 o.kind)).setCell ⟨g, 1, none⟩ (.int .u64 o.tm.c)).setCell ⟨g, 2, none⟩ (.int .i64 o.tm.k)).setCell ⟨g, 3, none⟩ (.int .u64 o.thing)).setCell ⟨g, 4, none⟩ (.int .u64 o.par)).setCell ⟨g, 5, none⟩ (.string o.name)).setCell ⟨g, 6, none⟩ (.bool o.dir)).heap[g]? = some (.cells #[.int .i64 o.kind, .int .u64 o.tm.c, .int .i64 o.tm.k, .int .u64 o.thing, .int .u64 o.par, .string o.name, .bool o.dir, .string a.dg, .int .i64 a.size] T (0, 0)) := by rw [heap_setCell_same _ _ _ _ _ _ h5]; rfl
  have h7 : ((((((((w.setCell ⟨g, 0, none⟩ (.int .i64 o.kind)).setCell ⟨g, 1, none⟩ (.int .u64 o.tm.c)).setCell ⟨g, 2, none⟩ (.int .i64 o.tm.k)).setCell ⟨g, 3, none⟩ (.int .u64 o.thing)).setCell ⟨g, 4, none⟩ (.int .u64 o.par)).setCell ⟨g, 5, none⟩ (.string o.name)).setCell ⟨g, 6, none⟩ (.bool o.dir)).setCell ⟨g, 7, none⟩ (.string o.dg)).heap[g]? = some (.cells #[.int .i64 o.kind, .int .u64 o.tm.c, .int .i64 o.tm.k, .int .u64 o.thing, .int .u64 o.par, .string o.name, .bool o.dir, .string o.dg, .int .i64 a.size] T (0, 0)) := by rw [heap_setCell_same _ _ _ _ _ _ h6]; rfl
  have h8 : (((((((((w.setCell ⟨g, 0, none⟩ (.int .i64 o.kind)).setCell ⟨g, 1, none⟩ (.int .u64 o.tm.c)).setCell ⟨g, 2, none⟩ (.int .i64 o.tm.k)).setCell ⟨g, 3, none⟩ (.int .u64 o.thing)).setCell ⟨g, 4, none⟩ (.int .u64 o.par)).setCell ⟨g, 5, none⟩ (.string o.name)).setCell ⟨g, 6, none⟩ (.bool o.dir)).setCell ⟨g, 7, none⟩ (.string o.dg)).setCell ⟨g, 8, none⟩ (.int .i64 o.size)).heap[g]? = some (.cells #[.int .i64 o.kind, .int .u64 o.tm.c, .int .i64 o.tm.k, .int .u64 o.thing, .int .u64 o.par, .string o.name, .bool o.dir, .string o.dg, .int .i64 o.size] T (0, 0)) := by rw [heap_setCell_same _ _ _ _ _ _ h7]; rfl
  exact h8
theorem set9_other (w : World) (g : Nat) (o : Ob) (k : Nat) (hk : k ≠ g) : (set9 w g o).heap[k]? = w.heap[k]? := by
  unfold set9
  rw [Below.heap_setCell _ ⟨g, 8, none⟩ _ k hk]
  rw [Below.heap_setCell _ ⟨g, 7, none⟩ _ k hk]
  rw [Below.heap_setCell _ ⟨g, 6, none⟩ _ k hk]
  rw [Below.heap_setCell _ ⟨g, 5, none⟩ _ k hk]
  rw [Below.heap_setCell _ ⟨g, 4, none⟩ _ k hk]
  rw [Below.heap_setCell _ ⟨g, 3, none⟩ _ k hk]
  rw [Below.heap_setCell _ ⟨g, 2, none⟩ _ k hk]
  rw [Below.heap_setCell _ ⟨g, 1, none⟩ _ k hk]
  rw [Below.heap_setCell _ ⟨g, 0, none⟩ _ k hk]
theorem set9_below {B g : Nat} {w0 w : World} (h : Below B w0 w) (hg : B ≤ g) (o : Ob) : Below B w0 (set9 w g o) := by
  unfold set9
  exact (((((((((h.setCell (p := ⟨g, 0, none⟩) hg _).setCell (p := ⟨g, 1, none⟩) hg _).setCell (p := ⟨g, 2, none⟩) hg _).setCell (p := ⟨g, 3, none⟩) hg _).setCell (p := ⟨g, 4, none⟩) hg _).setCell (p := ⟨g, 5, none⟩) hg _).setCell (p := ⟨g, 6, none⟩) hg _).setCell (p := ⟨g, 7, none⟩) hg _).setCell (p := ⟨g, 8, none⟩) hg _)
/-- Both answers are laid, cell by cell. -/
theorem RtAt.laid {R S g : Nat} {w0 w : World} {q : St} {o : Ob} (i : RtAt R S g w0 q o w) (r : St) (p : Ob) {W : World} (hW : W = (set9 (((w.setCell ⟨g + 1, 0, none⟩ (.string r.s)).setCell ⟨g + 1, 1, none⟩ (.int .i64 r.pos)).setCell ⟨g + 1, 2, none⟩ (.int .i64 r.err)) (g + 2) p).drew) :
    W.heap[g + 1]? = some (.cells (rcs r) R (0, 0)) ∧ W.heap[g + 2]? = some (.cells p.cs S (0, 0)) ∧ Below g w0 W := by
  generalize hU : (((w.setCell ⟨g + 1, 0, none⟩ (.string r.s)).setCell ⟨g + 1, 1, none⟩ (.int .i64 r.pos)).setCell ⟨g + 1, 2, none⟩ (.int .i64 r.err)) = U at hW
  have u1 : U.heap[g + 1]? = some (.cells (rcs r) R (0, 0)) := by rw [← hU]; exact Wire.set3 i.b1 _ _ _
  have u2 : U.heap[g + 2]? = some (.cells Ob.zero.cs S (0, 0)) := by
    rw [← hU, Below.heap_setCell _ ⟨g + 1, 2, none⟩ _ _ (by show g + 2 ≠ g + 1; omega), Below.heap_setCell _ ⟨g + 1, 1, none⟩ _ _ (by show g + 2 ≠ g + 1; omega), Below.heap_setCell _ ⟨g + 1, 0, none⟩ _ _ (by show g + 2 ≠ g + 1; omega)]
    exact i.b2
  have u3 : Below g w0 U := by rw [← hU]; exact below3 i.below (by omega) _ _ _
  clear hU
  have v1 := (set9_other U (g + 2) p (g + 1) (by omega)).trans u1
  have v2 := set9_row (o := p) u2
  have v3 := set9_below u3 (show g ≤ g + 2 by omega) p
  generalize set9 U (g + 2) p = V at hW v1 v2 v3
  subst hW
  exact ⟨v1, v2, v3.drew⟩
end Go.Opn
namespace Go.Proofs.YtcdmdpafkiljdaaGreatDoor
open Go.RowKit Go.Wire Go.Stamp Go.Opn Go.Sort
set_option maxRecDepth 100000 in
set_option maxHeartbeats 4000000 in
theorem rtake_0 (q r1 r2 r3  : St) (kd : Nat) (t : Tm) (th : Nat) (w : World) (hk : kd < 256) (k1 : kd ≠ 1) (k2 : kd ≠ 2) (k4 : kd ≠ 4)
    (HN1 : Hid (∀ w, Calls Tryz.prog 35 #[q.v, .int .i64 1] w fun e w' => e = .returned (.tuple #[r1.v, .int .u64 kd]) ∧ Below w.heap.size w w'))
    (HST : Hid (∀ w, Calls Tryz.prog 78 #[r1.v] w fun e w' => e = .returned (.tuple #[r2.v, t.v]) ∧ Below w.heap.size w w'))
    (HN8 : Hid (∀ w, Calls Tryz.prog 35 #[r2.v, .int .i64 8] w fun e w' => e = .returned (.tuple #[r3.v, .int .u64 th]) ∧ Below w.heap.size w w'))
    (e0 : Int) (HC : Hid (∀ w, Calls Tryz.prog 17 #[(Ob.mk kd t th 0 ⟨#[]⟩ false ⟨#[]⟩ 0).v] w fun e w' => e = .returned (.int .i64 e0) ∧ Below w.heap.size w w')) :
    Calls Tryz.prog 37 #[q.v] w fun e w' => e = .returned (.tuple #[(r3.fail e0).v, (if (r3.fail e0).err = 0 then Ob.mk kd t th 0 ⟨#[]⟩ false ⟨#[]⟩ 0 else Ob.zero).v]) ∧ Below w.heap.size w w' := by
  have hw : IntKind.i64.wrap (kd : Int) = kd := by simp [IntKind.wrap, IntKind.bits, IntKind.signed]; omega
  have e1 : ((kd : Int) == 1) = false := beq_eq_false_iff_ne.2 (by omega)
  have e2 : ((kd : Int) == 2) = false := beq_eq_false_iff_ne.2 (by omega)
  have e4 : ((kd : Int) == 4) = false := beq_eq_false_iff_ne.2 (by omega)
  clear k1 k2 k4 hk
  obtain ⟨c, k⟩ := t
  unfold Tm.v at HST
  unfold Ob.v at HC
  unfold St.v at HN1 HST HN8
  dsimp only at HST HC ⊢
  by_cases hr : r3.err = 0
  · have hs : r3 = ⟨r3.s, r3.pos, 0⟩ := by rw [← hr]
    generalize r3.s = rs at hs
    generalize r3.pos = rp at hs
    subst hs
    clear hr
    by_cases he : e0 = 0
    · subst he
      rw [fail_0, if_pos rfl]
      unfold Ob.v St.v
      dsimp only
      go_enter Tryz.func37, Tryz.ntmps37
      go_upto_region 18 with (first
        | (go_at_call_of 35 (Value.int IntKind.i64 1); refine (HN1.out _).mono ?_; rintro e w1 ⟨rfl, k1⟩; have I : Hid (RtAt 72 36 w.heap.size w q (Ob.zero) w1) := RtAt.start k1; clear k1; obtain ⟨a0, a1, a2, a3, a4, a5⟩ := cells3 I.out.b0; obtain ⟨c0, c1, c2, c3, c4, c5, c6, c7, c8⟩ := cells9 I.out.b3; have f0 := frozen9 I.out.b3 0)
        | (go_at_call 78; refine (HST.out _).mono ?_; clear HST; rintro e w2 ⟨rfl, k2⟩; replace I : Hid (RtAt 72 36 w.heap.size w r1 (Ob.mk kd ⟨0, 0⟩ 0 0 ⟨#[]⟩ false ⟨#[]⟩ 0) w2) := ((I.out.setR r1).setO 0 (.int .i64 kd) (Ob.mk kd ⟨0, 0⟩ 0 0 ⟨#[]⟩ false ⟨#[]⟩ 0) (by rw [heap_setCell_same _ _ _ _ _ _ ((I.out.setR r1)).b3]; rfl)).step k2; clear a0 a1 a2 a3 a4 a5 c0 c1 c2 c3 c4 c5 c6 c7 c8; clear f0; clear k2; obtain ⟨a0, a1, a2, a3, a4, a5⟩ := cells3 I.out.b0; obtain ⟨c0, c1, c2, c3, c4, c5, c6, c7, c8⟩ := cells9 I.out.b3; have f1 := frozen9 I.out.b3 1; have f2 := frozen9 I.out.b3 2)
        | (go_at_call_of 35 (Value.int IntKind.i64 8); refine (HN8.out _).mono ?_; clear HN8; rintro e w3 ⟨rfl, k3⟩; replace I : Hid (RtAt 72 36 w.heap.size w r2 (Ob.mk kd ⟨c, k⟩ 0 0 ⟨#[]⟩ false ⟨#[]⟩ 0) w3) := ((I.out.setR r2).setTm c k).step k3; clear a0 a1 a2 a3 a4 a5 c0 c1 c2 c3 c4 c5 c6 c7 c8; clear f1; clear f2; clear k3; obtain ⟨a0, a1, a2, a3, a4, a5⟩ := cells3 I.out.b0; obtain ⟨c0, c1, c2, c3, c4, c5, c6, c7, c8⟩ := cells9 I.out.b3; have f3 := frozen9 I.out.b3 3)
        | (go_at_call 17; refine (HC.out _).mono ?_; rintro e w4 ⟨rfl, k4⟩; replace I : Hid (RtAt 72 36 w.heap.size w ⟨rs, rp, 0⟩ (Ob.mk kd ⟨c, k⟩ th 0 ⟨#[]⟩ false ⟨#[]⟩ 0) w4) := ((I.out.setR ⟨rs, rp, 0⟩).setO 3 (.int .u64 th) (Ob.mk kd ⟨c, k⟩ th 0 ⟨#[]⟩ false ⟨#[]⟩ 0) (by rw [heap_setCell_same _ _ _ _ _ _ ((I.out.setR ⟨rs, rp, 0⟩)).b3]; rfl)).step k4; clear a0 a1 a2 a3 a4 a5 c0 c1 c2 c3 c4 c5 c6 c7 c8; clear f3; clear k4; obtain ⟨a0, a1, a2, a3, a4, a5⟩ := cells3 I.out.b0; obtain ⟨c0, c1, c2, c3, c4, c5, c6, c7, c8⟩ := cells9 I.out.b3))
      obtain ⟨W, hW⟩ : ∃ W, W = w4.setCell ⟨w.heap.size, 2, none⟩ (.int .i64 0) := ⟨_, rfl⟩
      rw [← hW]
      replace I : Hid (RtAt 72 36 w.heap.size w ⟨rs, rp, 0⟩ (Ob.mk kd ⟨c, k⟩ th 0 ⟨#[]⟩ false ⟨#[]⟩ 0) W) := by rw [hW]; exact I.out.setErr 0
      clear hW a0 a1 a2 a3 a4 a5 c0 c1 c2 c3 c4 c5 c6 c7 c8
      obtain ⟨a0, a1, a2, a3, a4, a5⟩ := cells3 I.out.b0
      obtain ⟨b0, b1, b2, b3, b4, b5⟩ := cells3 I.out.b1
      obtain ⟨c0, c1, c2, c3, c4, c5, c6, c7, c8⟩ := cells9 I.out.b3
      obtain ⟨d0, d1, d2, d3, d4, d5, d6, d7, d8⟩ := cells9 I.out.b2
      have f0 := frozen9 I.out.b2 0
      have f1 := frozen9 I.out.b2 1
      have f2 := frozen9 I.out.b2 2
      have f3 := frozen9 I.out.b2 3
      have f4 := frozen9 I.out.b2 4
      have f5 := frozen9 I.out.b2 5
      have f6 := frozen9 I.out.b2 6
      have f7 := frozen9 I.out.b2 7
      have f8 := frozen9 I.out.b2 8
      go_region
      go_wp2

      obtain ⟨z1, z2, z3⟩ := I.out.laid ⟨rs, rp, 0⟩ (Ob.mk kd ⟨c, k⟩ th 0 ⟨#[]⟩ false ⟨#[]⟩ 0) rfl
      exact bodyPost_ret (results_cells2 Tryz.results37 _ _ _ _ _ (0, 0) _ rfl z1 Tryz.underlying72 rfl infoRef _ _ _ (0, 0) _ rfl z2 Tryz.underlying36 rfl infoROp) rfl ⟨rfl, z3⟩
    · have e1 : (St.mk rs rp 0).fail e0 = ⟨rs, rp, e0⟩ := by unfold St.fail; rw [if_pos rfl]
      rw [e1, if_neg he]
      have g1 : (e0 == 0) = false := beq_eq_false_iff_ne.2 he
      clear he e1
      unfold Ob.v St.v Ob.zero
      dsimp only
      go_enter Tryz.func37, Tryz.ntmps37
      go_upto_region 17 with (first
        | (go_at_call_of 35 (Value.int IntKind.i64 1); refine (HN1.out _).mono ?_; rintro e w1 ⟨rfl, k1⟩; have I : Hid (RtAt 72 36 w.heap.size w q (Ob.zero) w1) := RtAt.start k1; clear k1; obtain ⟨a0, a1, a2, a3, a4, a5⟩ := cells3 I.out.b0; obtain ⟨c0, c1, c2, c3, c4, c5, c6, c7, c8⟩ := cells9 I.out.b3; have f0 := frozen9 I.out.b3 0)
        | (go_at_call 78; refine (HST.out _).mono ?_; clear HST; rintro e w2 ⟨rfl, k2⟩; replace I : Hid (RtAt 72 36 w.heap.size w r1 (Ob.mk kd ⟨0, 0⟩ 0 0 ⟨#[]⟩ false ⟨#[]⟩ 0) w2) := ((I.out.setR r1).setO 0 (.int .i64 kd) (Ob.mk kd ⟨0, 0⟩ 0 0 ⟨#[]⟩ false ⟨#[]⟩ 0) (by rw [heap_setCell_same _ _ _ _ _ _ ((I.out.setR r1)).b3]; rfl)).step k2; clear a0 a1 a2 a3 a4 a5 c0 c1 c2 c3 c4 c5 c6 c7 c8; clear f0; clear k2; obtain ⟨a0, a1, a2, a3, a4, a5⟩ := cells3 I.out.b0; obtain ⟨c0, c1, c2, c3, c4, c5, c6, c7, c8⟩ := cells9 I.out.b3; have f1 := frozen9 I.out.b3 1; have f2 := frozen9 I.out.b3 2)
        | (go_at_call_of 35 (Value.int IntKind.i64 8); refine (HN8.out _).mono ?_; clear HN8; rintro e w3 ⟨rfl, k3⟩; replace I : Hid (RtAt 72 36 w.heap.size w r2 (Ob.mk kd ⟨c, k⟩ 0 0 ⟨#[]⟩ false ⟨#[]⟩ 0) w3) := ((I.out.setR r2).setTm c k).step k3; clear a0 a1 a2 a3 a4 a5 c0 c1 c2 c3 c4 c5 c6 c7 c8; clear f1; clear f2; clear k3; obtain ⟨a0, a1, a2, a3, a4, a5⟩ := cells3 I.out.b0; obtain ⟨c0, c1, c2, c3, c4, c5, c6, c7, c8⟩ := cells9 I.out.b3; have f3 := frozen9 I.out.b3 3)
        | (go_at_call 17; refine (HC.out _).mono ?_; rintro e w4 ⟨rfl, k4⟩; replace I : Hid (RtAt 72 36 w.heap.size w ⟨rs, rp, 0⟩ (Ob.mk kd ⟨c, k⟩ th 0 ⟨#[]⟩ false ⟨#[]⟩ 0) w4) := ((I.out.setR ⟨rs, rp, 0⟩).setO 3 (.int .u64 th) (Ob.mk kd ⟨c, k⟩ th 0 ⟨#[]⟩ false ⟨#[]⟩ 0) (by rw [heap_setCell_same _ _ _ _ _ _ ((I.out.setR ⟨rs, rp, 0⟩)).b3]; rfl)).step k4; clear a0 a1 a2 a3 a4 a5 c0 c1 c2 c3 c4 c5 c6 c7 c8; clear f3; clear k4; obtain ⟨a0, a1, a2, a3, a4, a5⟩ := cells3 I.out.b0; obtain ⟨c0, c1, c2, c3, c4, c5, c6, c7, c8⟩ := cells9 I.out.b3))
      obtain ⟨W, hW⟩ : ∃ W, W = w4.setCell ⟨w.heap.size, 2, none⟩ (.int .i64 e0) := ⟨_, rfl⟩
      rw [← hW]
      have HZ : Hid (RtAt 72 36 w.heap.size w ⟨rs, rp, e0⟩ (Ob.mk kd ⟨c, k⟩ th 0 ⟨#[]⟩ false ⟨#[]⟩ 0) W) := by rw [hW]; exact I.out.setErr e0
      clear hW a0 a1 a2 a3 a4 a5 c0 c1 c2 c3 c4 c5 c6 c7 c8 I
      obtain ⟨a0, a1, a2, a3, a4, a5⟩ := cells3 HZ.out.b0
      go_wp2_with (first
        | (refine wpList_store_row rfl 72 _ _ rfl (w.heap.size + 1) _ rfl rfl 72 _ HZ.out.b1 infoRef rfl (by simp [Value.oneCell']) ?_)
        | (refine wpList_store_row rfl 36 _ _ rfl (w.heap.size + 2) _ rfl rfl 36 _ ((setRow_other _ _ _ _ (by omega)).trans HZ.out.b2) infoROp rfl (by simp [Value.oneCell']) ?_))
      obtain ⟨z1, z2, z3⟩ := HZ.out.done (rcs ⟨rs, rp, e0⟩) Ob.zero.cs
      exact bodyPost_ret (results_cells2 Tryz.results37 _ _ _ _ _ (0, 0) _ rfl z1 Tryz.underlying72 rfl infoRef _ _ _ (0, 0) _ rfl z2 Tryz.underlying36 rfl infoROp) rfl ⟨rfl, z3⟩
  · have e1 : r3.fail e0 = r3 := by unfold St.fail; rw [if_neg hr]
    rw [e1, if_neg hr]
    have g1 : (r3.err == 0) = false := beq_eq_false_iff_ne.2 hr
    clear hr e1
    unfold Ob.v St.v Ob.zero
    dsimp only
    go_enter Tryz.func37, Tryz.ntmps37
    go_upto_region 17 with (first
      | (go_at_call_of 35 (Value.int IntKind.i64 1); refine (HN1.out _).mono ?_; rintro e w1 ⟨rfl, k1⟩; have I : Hid (RtAt 72 36 w.heap.size w q (Ob.zero) w1) := RtAt.start k1; clear k1; obtain ⟨a0, a1, a2, a3, a4, a5⟩ := cells3 I.out.b0; obtain ⟨c0, c1, c2, c3, c4, c5, c6, c7, c8⟩ := cells9 I.out.b3; have f0 := frozen9 I.out.b3 0)
      | (go_at_call 78; refine (HST.out _).mono ?_; clear HST; rintro e w2 ⟨rfl, k2⟩; replace I : Hid (RtAt 72 36 w.heap.size w r1 (Ob.mk kd ⟨0, 0⟩ 0 0 ⟨#[]⟩ false ⟨#[]⟩ 0) w2) := ((I.out.setR r1).setO 0 (.int .i64 kd) (Ob.mk kd ⟨0, 0⟩ 0 0 ⟨#[]⟩ false ⟨#[]⟩ 0) (by rw [heap_setCell_same _ _ _ _ _ _ ((I.out.setR r1)).b3]; rfl)).step k2; clear a0 a1 a2 a3 a4 a5 c0 c1 c2 c3 c4 c5 c6 c7 c8; clear f0; clear k2; obtain ⟨a0, a1, a2, a3, a4, a5⟩ := cells3 I.out.b0; obtain ⟨c0, c1, c2, c3, c4, c5, c6, c7, c8⟩ := cells9 I.out.b3; have f1 := frozen9 I.out.b3 1; have f2 := frozen9 I.out.b3 2)
      | (go_at_call_of 35 (Value.int IntKind.i64 8); refine (HN8.out _).mono ?_; clear HN8; rintro e w3 ⟨rfl, k3⟩; replace I : Hid (RtAt 72 36 w.heap.size w r2 (Ob.mk kd ⟨c, k⟩ 0 0 ⟨#[]⟩ false ⟨#[]⟩ 0) w3) := ((I.out.setR r2).setTm c k).step k3; clear a0 a1 a2 a3 a4 a5 c0 c1 c2 c3 c4 c5 c6 c7 c8; clear f1; clear f2; clear k3; obtain ⟨a0, a1, a2, a3, a4, a5⟩ := cells3 I.out.b0; obtain ⟨c0, c1, c2, c3, c4, c5, c6, c7, c8⟩ := cells9 I.out.b3; have f3 := frozen9 I.out.b3 3))
    obtain ⟨W, hW⟩ : ∃ W, W = (((w3.setCell ⟨w.heap.size, 0, none⟩ (.string r3.s)).setCell ⟨w.heap.size, 1, none⟩ (.int .i64 r3.pos)).setCell ⟨w.heap.size, 2, none⟩ (.int .i64 r3.err)).setCell ⟨w.heap.size + 1 + 1 + 1, 3, none⟩ (.int .u64 th) := ⟨_, rfl⟩
    rw [← hW]
    have HZ : Hid (RtAt 72 36 w.heap.size w r3 (Ob.mk kd ⟨c, k⟩ th 0 ⟨#[]⟩ false ⟨#[]⟩ 0) W) := by rw [hW]; exact ((I.out.setR r3).setO 3 (.int .u64 th) (Ob.mk kd ⟨c, k⟩ th 0 ⟨#[]⟩ false ⟨#[]⟩ 0) (by rw [heap_setCell_same _ _ _ _ _ _ ((I.out.setR r3)).b3]; rfl))
    clear hW a0 a1 a2 a3 a4 a5 c0 c1 c2 c3 c4 c5 c6 c7 c8 f3 I
    obtain ⟨a0, a1, a2, a3, a4, a5⟩ := cells3 HZ.out.b0
    go_wp2_with (first
      | (refine wpList_store_row rfl 72 _ _ rfl (w.heap.size + 1) _ rfl rfl 72 _ HZ.out.b1 infoRef rfl (by simp [Value.oneCell']) ?_)
      | (refine wpList_store_row rfl 36 _ _ rfl (w.heap.size + 2) _ rfl rfl 36 _ ((setRow_other _ _ _ _ (by omega)).trans HZ.out.b2) infoROp rfl (by simp [Value.oneCell']) ?_))
    obtain ⟨z1, z2, z3⟩ := HZ.out.done (rcs r3) Ob.zero.cs
    exact bodyPost_ret (results_cells2 Tryz.results37 _ _ _ _ _ (0, 0) _ rfl z1 Tryz.underlying72 rfl infoRef _ _ _ (0, 0) _ rfl z2 Tryz.underlying36 rfl infoROp) rfl ⟨rfl, z3⟩
end Go.Proofs.YtcdmdpafkiljdaaGreatDoor
/- Contracts: an operation off a reader, the document's: one kind. -/
namespace Go.Proofs.YtcdmdpafkiljdaaGreatDoor
open Go.RowKit Go.Wire Go.Stamp Go.Opn Go.Sort
set_option maxRecDepth 100000 in
set_option maxHeartbeats 4000000 in
theorem rtake_1 (q r1 r2 r3 r4 r5 r6 : St) (d : Bool) (p : Nat) (n : ByteArray) (t : Tm) (th : Nat) (w : World)
    (HN1 : Hid (∀ w, Calls Tryz.prog 35 #[q.v, .int .i64 1] w fun e w' => e = .returned (.tuple #[r1.v, .int .u64 1]) ∧ Below w.heap.size w w'))
    (HST : Hid (∀ w, Calls Tryz.prog 78 #[r1.v] w fun e w' => e = .returned (.tuple #[r2.v, t.v]) ∧ Below w.heap.size w w'))
    (HN8 : Hid (∀ w, Calls Tryz.prog 35 #[r2.v, .int .i64 8] w fun e w' => e = .returned (.tuple #[r3.v, .int .u64 th]) ∧ Below w.heap.size w w'))
    (HBo : Hid (∀ w, Calls Tryz.prog 79 #[r3.v] w fun e w' => e = .returned (.tuple #[r4.v, .bool d]) ∧ Below w.heap.size w w'))
    (HP8 : Hid (∀ w, Calls Tryz.prog 35 #[r4.v, .int .i64 8] w fun e w' => e = .returned (.tuple #[r5.v, .int .u64 p]) ∧ Below w.heap.size w w'))
    (HTx : Hid (∀ w, Calls Tryz.prog 80 #[r5.v, .int .i64 32] w fun e w' => e = .returned (.tuple #[r6.v, .string n]) ∧ Below w.heap.size w w'))
    (e0 : Int) (HC : Hid (∀ w, Calls Tryz.prog 17 #[(Ob.mk 1 t th p n d ⟨#[]⟩ 0).v] w fun e w' => e = .returned (.int .i64 e0) ∧ Below w.heap.size w w')) :
    Calls Tryz.prog 37 #[q.v] w fun e w' => e = .returned (.tuple #[(r6.fail e0).v, (if (r6.fail e0).err = 0 then Ob.mk 1 t th p n d ⟨#[]⟩ 0 else Ob.zero).v]) ∧ Below w.heap.size w w' := by
  obtain ⟨c, k⟩ := t
  unfold Tm.v at HST
  unfold Ob.v at HC
  unfold St.v at HN1 HST HN8 HBo HP8 HTx
  dsimp only at HST HC ⊢
  by_cases hr : r6.err = 0
  · have hs : r6 = ⟨r6.s, r6.pos, 0⟩ := by rw [← hr]
    generalize r6.s = rs at hs
    generalize r6.pos = rp at hs
    subst hs
    clear hr
    by_cases he : e0 = 0
    · subst he
      rw [fail_0, if_pos rfl]
      unfold Ob.v St.v
      dsimp only
      go_enter Tryz.func37, Tryz.ntmps37
      go_upto_region 18 with (first
        | (go_at_call_of 35 (Value.int IntKind.i64 1); refine (HN1.out _).mono ?_; rintro e w1 ⟨rfl, k1⟩; have I : Hid (RtAt 72 36 w.heap.size w q (Ob.zero) w1) := RtAt.start k1; clear k1; obtain ⟨a0, a1, a2, a3, a4, a5⟩ := cells3 I.out.b0; obtain ⟨c0, c1, c2, c3, c4, c5, c6, c7, c8⟩ := cells9 I.out.b3; have f0 := frozen9 I.out.b3 0)
        | (go_at_call 78; refine (HST.out _).mono ?_; clear HST; rintro e w2 ⟨rfl, k2⟩; replace I : Hid (RtAt 72 36 w.heap.size w r1 (Ob.mk 1 ⟨0, 0⟩ 0 0 ⟨#[]⟩ false ⟨#[]⟩ 0) w2) := ((I.out.setR r1).setO 0 (.int .i64 1) (Ob.mk 1 ⟨0, 0⟩ 0 0 ⟨#[]⟩ false ⟨#[]⟩ 0) (by rw [heap_setCell_same _ _ _ _ _ _ ((I.out.setR r1)).b3]; rfl)).step k2; clear a0 a1 a2 a3 a4 a5 c0 c1 c2 c3 c4 c5 c6 c7 c8; clear f0; clear k2; obtain ⟨a0, a1, a2, a3, a4, a5⟩ := cells3 I.out.b0; obtain ⟨c0, c1, c2, c3, c4, c5, c6, c7, c8⟩ := cells9 I.out.b3; have f1 := frozen9 I.out.b3 1; have f2 := frozen9 I.out.b3 2)
        | (go_at_call_of 35 (Value.int IntKind.i64 8); refine (HN8.out _).mono ?_; clear HN8; rintro e w3 ⟨rfl, k3⟩; replace I : Hid (RtAt 72 36 w.heap.size w r2 (Ob.mk 1 ⟨c, k⟩ 0 0 ⟨#[]⟩ false ⟨#[]⟩ 0) w3) := ((I.out.setR r2).setTm c k).step k3; clear a0 a1 a2 a3 a4 a5 c0 c1 c2 c3 c4 c5 c6 c7 c8; clear f1; clear f2; clear k3; obtain ⟨a0, a1, a2, a3, a4, a5⟩ := cells3 I.out.b0; obtain ⟨c0, c1, c2, c3, c4, c5, c6, c7, c8⟩ := cells9 I.out.b3; have f3 := frozen9 I.out.b3 3)
        | (go_at_call 79; refine (HBo.out _).mono ?_; clear HBo; rintro e w4 ⟨rfl, k4⟩; replace I : Hid (RtAt 72 36 w.heap.size w r3 (Ob.mk 1 ⟨c, k⟩ th 0 ⟨#[]⟩ false ⟨#[]⟩ 0) w4) := ((I.out.setR r3).setO 3 (.int .u64 th) (Ob.mk 1 ⟨c, k⟩ th 0 ⟨#[]⟩ false ⟨#[]⟩ 0) (by rw [heap_setCell_same _ _ _ _ _ _ ((I.out.setR r3)).b3]; rfl)).step k4; clear a0 a1 a2 a3 a4 a5 c0 c1 c2 c3 c4 c5 c6 c7 c8; clear f3; clear k4; obtain ⟨a0, a1, a2, a3, a4, a5⟩ := cells3 I.out.b0; obtain ⟨c0, c1, c2, c3, c4, c5, c6, c7, c8⟩ := cells9 I.out.b3; have f6 := frozen9 I.out.b3 6)
        | (go_at_call_of 35 (Value.int IntKind.i64 8); refine (HP8.out _).mono ?_; clear HP8; rintro e w5 ⟨rfl, k5⟩; replace I : Hid (RtAt 72 36 w.heap.size w r4 (Ob.mk 1 ⟨c, k⟩ th 0 ⟨#[]⟩ d ⟨#[]⟩ 0) w5) := ((I.out.setR r4).setO 6 (.bool d) (Ob.mk 1 ⟨c, k⟩ th 0 ⟨#[]⟩ d ⟨#[]⟩ 0) (by rw [heap_setCell_same _ _ _ _ _ _ ((I.out.setR r4)).b3]; rfl)).step k5; clear a0 a1 a2 a3 a4 a5 c0 c1 c2 c3 c4 c5 c6 c7 c8; clear f6; clear k5; obtain ⟨a0, a1, a2, a3, a4, a5⟩ := cells3 I.out.b0; obtain ⟨c0, c1, c2, c3, c4, c5, c6, c7, c8⟩ := cells9 I.out.b3; have f4 := frozen9 I.out.b3 4)
        | (go_at_call 80; refine (HTx.out _).mono ?_; clear HTx; rintro e w6 ⟨rfl, k6⟩; replace I : Hid (RtAt 72 36 w.heap.size w r5 (Ob.mk 1 ⟨c, k⟩ th p ⟨#[]⟩ d ⟨#[]⟩ 0) w6) := ((I.out.setR r5).setO 4 (.int .u64 p) (Ob.mk 1 ⟨c, k⟩ th p ⟨#[]⟩ d ⟨#[]⟩ 0) (by rw [heap_setCell_same _ _ _ _ _ _ ((I.out.setR r5)).b3]; rfl)).step k6; clear a0 a1 a2 a3 a4 a5 c0 c1 c2 c3 c4 c5 c6 c7 c8; clear f4; clear k6; obtain ⟨a0, a1, a2, a3, a4, a5⟩ := cells3 I.out.b0; obtain ⟨c0, c1, c2, c3, c4, c5, c6, c7, c8⟩ := cells9 I.out.b3; have f5 := frozen9 I.out.b3 5)
        | (go_at_call 17; refine (HC.out _).mono ?_; rintro e w7 ⟨rfl, k7⟩; replace I : Hid (RtAt 72 36 w.heap.size w ⟨rs, rp, 0⟩ (Ob.mk 1 ⟨c, k⟩ th p n d ⟨#[]⟩ 0) w7) := ((I.out.setR ⟨rs, rp, 0⟩).setO 5 (.string n) (Ob.mk 1 ⟨c, k⟩ th p n d ⟨#[]⟩ 0) (by rw [heap_setCell_same _ _ _ _ _ _ ((I.out.setR ⟨rs, rp, 0⟩)).b3]; rfl)).step k7; clear a0 a1 a2 a3 a4 a5 c0 c1 c2 c3 c4 c5 c6 c7 c8; clear f5; clear k7; obtain ⟨a0, a1, a2, a3, a4, a5⟩ := cells3 I.out.b0; obtain ⟨c0, c1, c2, c3, c4, c5, c6, c7, c8⟩ := cells9 I.out.b3))
      obtain ⟨W, hW⟩ : ∃ W, W = w7.setCell ⟨w.heap.size, 2, none⟩ (.int .i64 0) := ⟨_, rfl⟩
      rw [← hW]
      replace I : Hid (RtAt 72 36 w.heap.size w ⟨rs, rp, 0⟩ (Ob.mk 1 ⟨c, k⟩ th p n d ⟨#[]⟩ 0) W) := by rw [hW]; exact I.out.setErr 0
      clear hW a0 a1 a2 a3 a4 a5 c0 c1 c2 c3 c4 c5 c6 c7 c8
      obtain ⟨a0, a1, a2, a3, a4, a5⟩ := cells3 I.out.b0
      obtain ⟨b0, b1, b2, b3, b4, b5⟩ := cells3 I.out.b1
      obtain ⟨c0, c1, c2, c3, c4, c5, c6, c7, c8⟩ := cells9 I.out.b3
      obtain ⟨d0, d1, d2, d3, d4, d5, d6, d7, d8⟩ := cells9 I.out.b2
      have f0 := frozen9 I.out.b2 0
      have f1 := frozen9 I.out.b2 1
      have f2 := frozen9 I.out.b2 2
      have f3 := frozen9 I.out.b2 3
      have f4 := frozen9 I.out.b2 4
      have f5 := frozen9 I.out.b2 5
      have f6 := frozen9 I.out.b2 6
      have f7 := frozen9 I.out.b2 7
      have f8 := frozen9 I.out.b2 8
      go_region
      go_wp2

      obtain ⟨z1, z2, z3⟩ := I.out.laid ⟨rs, rp, 0⟩ (Ob.mk 1 ⟨c, k⟩ th p n d ⟨#[]⟩ 0) rfl
      exact bodyPost_ret (results_cells2 Tryz.results37 _ _ _ _ _ (0, 0) _ rfl z1 Tryz.underlying72 rfl infoRef _ _ _ (0, 0) _ rfl z2 Tryz.underlying36 rfl infoROp) rfl ⟨rfl, z3⟩
    · have e1 : (St.mk rs rp 0).fail e0 = ⟨rs, rp, e0⟩ := by unfold St.fail; rw [if_pos rfl]
      rw [e1, if_neg he]
      have g1 : (e0 == 0) = false := beq_eq_false_iff_ne.2 he
      clear he e1
      unfold Ob.v St.v Ob.zero
      dsimp only
      go_enter Tryz.func37, Tryz.ntmps37
      go_upto_region 17 with (first
        | (go_at_call_of 35 (Value.int IntKind.i64 1); refine (HN1.out _).mono ?_; rintro e w1 ⟨rfl, k1⟩; have I : Hid (RtAt 72 36 w.heap.size w q (Ob.zero) w1) := RtAt.start k1; clear k1; obtain ⟨a0, a1, a2, a3, a4, a5⟩ := cells3 I.out.b0; obtain ⟨c0, c1, c2, c3, c4, c5, c6, c7, c8⟩ := cells9 I.out.b3; have f0 := frozen9 I.out.b3 0)
        | (go_at_call 78; refine (HST.out _).mono ?_; clear HST; rintro e w2 ⟨rfl, k2⟩; replace I : Hid (RtAt 72 36 w.heap.size w r1 (Ob.mk 1 ⟨0, 0⟩ 0 0 ⟨#[]⟩ false ⟨#[]⟩ 0) w2) := ((I.out.setR r1).setO 0 (.int .i64 1) (Ob.mk 1 ⟨0, 0⟩ 0 0 ⟨#[]⟩ false ⟨#[]⟩ 0) (by rw [heap_setCell_same _ _ _ _ _ _ ((I.out.setR r1)).b3]; rfl)).step k2; clear a0 a1 a2 a3 a4 a5 c0 c1 c2 c3 c4 c5 c6 c7 c8; clear f0; clear k2; obtain ⟨a0, a1, a2, a3, a4, a5⟩ := cells3 I.out.b0; obtain ⟨c0, c1, c2, c3, c4, c5, c6, c7, c8⟩ := cells9 I.out.b3; have f1 := frozen9 I.out.b3 1; have f2 := frozen9 I.out.b3 2)
        | (go_at_call_of 35 (Value.int IntKind.i64 8); refine (HN8.out _).mono ?_; clear HN8; rintro e w3 ⟨rfl, k3⟩; replace I : Hid (RtAt 72 36 w.heap.size w r2 (Ob.mk 1 ⟨c, k⟩ 0 0 ⟨#[]⟩ false ⟨#[]⟩ 0) w3) := ((I.out.setR r2).setTm c k).step k3; clear a0 a1 a2 a3 a4 a5 c0 c1 c2 c3 c4 c5 c6 c7 c8; clear f1; clear f2; clear k3; obtain ⟨a0, a1, a2, a3, a4, a5⟩ := cells3 I.out.b0; obtain ⟨c0, c1, c2, c3, c4, c5, c6, c7, c8⟩ := cells9 I.out.b3; have f3 := frozen9 I.out.b3 3)
        | (go_at_call 79; refine (HBo.out _).mono ?_; clear HBo; rintro e w4 ⟨rfl, k4⟩; replace I : Hid (RtAt 72 36 w.heap.size w r3 (Ob.mk 1 ⟨c, k⟩ th 0 ⟨#[]⟩ false ⟨#[]⟩ 0) w4) := ((I.out.setR r3).setO 3 (.int .u64 th) (Ob.mk 1 ⟨c, k⟩ th 0 ⟨#[]⟩ false ⟨#[]⟩ 0) (by rw [heap_setCell_same _ _ _ _ _ _ ((I.out.setR r3)).b3]; rfl)).step k4; clear a0 a1 a2 a3 a4 a5 c0 c1 c2 c3 c4 c5 c6 c7 c8; clear f3; clear k4; obtain ⟨a0, a1, a2, a3, a4, a5⟩ := cells3 I.out.b0; obtain ⟨c0, c1, c2, c3, c4, c5, c6, c7, c8⟩ := cells9 I.out.b3; have f6 := frozen9 I.out.b3 6)
        | (go_at_call_of 35 (Value.int IntKind.i64 8); refine (HP8.out _).mono ?_; clear HP8; rintro e w5 ⟨rfl, k5⟩; replace I : Hid (RtAt 72 36 w.heap.size w r4 (Ob.mk 1 ⟨c, k⟩ th 0 ⟨#[]⟩ d ⟨#[]⟩ 0) w5) := ((I.out.setR r4).setO 6 (.bool d) (Ob.mk 1 ⟨c, k⟩ th 0 ⟨#[]⟩ d ⟨#[]⟩ 0) (by rw [heap_setCell_same _ _ _ _ _ _ ((I.out.setR r4)).b3]; rfl)).step k5; clear a0 a1 a2 a3 a4 a5 c0 c1 c2 c3 c4 c5 c6 c7 c8; clear f6; clear k5; obtain ⟨a0, a1, a2, a3, a4, a5⟩ := cells3 I.out.b0; obtain ⟨c0, c1, c2, c3, c4, c5, c6, c7, c8⟩ := cells9 I.out.b3; have f4 := frozen9 I.out.b3 4)
        | (go_at_call 80; refine (HTx.out _).mono ?_; clear HTx; rintro e w6 ⟨rfl, k6⟩; replace I : Hid (RtAt 72 36 w.heap.size w r5 (Ob.mk 1 ⟨c, k⟩ th p ⟨#[]⟩ d ⟨#[]⟩ 0) w6) := ((I.out.setR r5).setO 4 (.int .u64 p) (Ob.mk 1 ⟨c, k⟩ th p ⟨#[]⟩ d ⟨#[]⟩ 0) (by rw [heap_setCell_same _ _ _ _ _ _ ((I.out.setR r5)).b3]; rfl)).step k6; clear a0 a1 a2 a3 a4 a5 c0 c1 c2 c3 c4 c5 c6 c7 c8; clear f4; clear k6; obtain ⟨a0, a1, a2, a3, a4, a5⟩ := cells3 I.out.b0; obtain ⟨c0, c1, c2, c3, c4, c5, c6, c7, c8⟩ := cells9 I.out.b3; have f5 := frozen9 I.out.b3 5)
        | (go_at_call 17; refine (HC.out _).mono ?_; rintro e w7 ⟨rfl, k7⟩; replace I : Hid (RtAt 72 36 w.heap.size w ⟨rs, rp, 0⟩ (Ob.mk 1 ⟨c, k⟩ th p n d ⟨#[]⟩ 0) w7) := ((I.out.setR ⟨rs, rp, 0⟩).setO 5 (.string n) (Ob.mk 1 ⟨c, k⟩ th p n d ⟨#[]⟩ 0) (by rw [heap_setCell_same _ _ _ _ _ _ ((I.out.setR ⟨rs, rp, 0⟩)).b3]; rfl)).step k7; clear a0 a1 a2 a3 a4 a5 c0 c1 c2 c3 c4 c5 c6 c7 c8; clear f5; clear k7; obtain ⟨a0, a1, a2, a3, a4, a5⟩ := cells3 I.out.b0; obtain ⟨c0, c1, c2, c3, c4, c5, c6, c7, c8⟩ := cells9 I.out.b3))
      obtain ⟨W, hW⟩ : ∃ W, W = w7.setCell ⟨w.heap.size, 2, none⟩ (.int .i64 e0) := ⟨_, rfl⟩
      rw [← hW]
      have HZ : Hid (RtAt 72 36 w.heap.size w ⟨rs, rp, e0⟩ (Ob.mk 1 ⟨c, k⟩ th p n d ⟨#[]⟩ 0) W) := by rw [hW]; exact I.out.setErr e0
      clear hW a0 a1 a2 a3 a4 a5 c0 c1 c2 c3 c4 c5 c6 c7 c8 I
      obtain ⟨a0, a1, a2, a3, a4, a5⟩ := cells3 HZ.out.b0
      go_wp2_with (first
        | (refine wpList_store_row rfl 72 _ _ rfl (w.heap.size + 1) _ rfl rfl 72 _ HZ.out.b1 infoRef rfl (by simp [Value.oneCell']) ?_)
        | (refine wpList_store_row rfl 36 _ _ rfl (w.heap.size + 2) _ rfl rfl 36 _ ((setRow_other _ _ _ _ (by omega)).trans HZ.out.b2) infoROp rfl (by simp [Value.oneCell']) ?_))
      obtain ⟨z1, z2, z3⟩ := HZ.out.done (rcs ⟨rs, rp, e0⟩) Ob.zero.cs
      exact bodyPost_ret (results_cells2 Tryz.results37 _ _ _ _ _ (0, 0) _ rfl z1 Tryz.underlying72 rfl infoRef _ _ _ (0, 0) _ rfl z2 Tryz.underlying36 rfl infoROp) rfl ⟨rfl, z3⟩
  · have e1 : r6.fail e0 = r6 := by unfold St.fail; rw [if_neg hr]
    rw [e1, if_neg hr]
    have g1 : (r6.err == 0) = false := beq_eq_false_iff_ne.2 hr
    clear hr e1
    unfold Ob.v St.v Ob.zero
    dsimp only
    go_enter Tryz.func37, Tryz.ntmps37
    go_upto_region 17 with (first
      | (go_at_call_of 35 (Value.int IntKind.i64 1); refine (HN1.out _).mono ?_; rintro e w1 ⟨rfl, k1⟩; have I : Hid (RtAt 72 36 w.heap.size w q (Ob.zero) w1) := RtAt.start k1; clear k1; obtain ⟨a0, a1, a2, a3, a4, a5⟩ := cells3 I.out.b0; obtain ⟨c0, c1, c2, c3, c4, c5, c6, c7, c8⟩ := cells9 I.out.b3; have f0 := frozen9 I.out.b3 0)
      | (go_at_call 78; refine (HST.out _).mono ?_; clear HST; rintro e w2 ⟨rfl, k2⟩; replace I : Hid (RtAt 72 36 w.heap.size w r1 (Ob.mk 1 ⟨0, 0⟩ 0 0 ⟨#[]⟩ false ⟨#[]⟩ 0) w2) := ((I.out.setR r1).setO 0 (.int .i64 1) (Ob.mk 1 ⟨0, 0⟩ 0 0 ⟨#[]⟩ false ⟨#[]⟩ 0) (by rw [heap_setCell_same _ _ _ _ _ _ ((I.out.setR r1)).b3]; rfl)).step k2; clear a0 a1 a2 a3 a4 a5 c0 c1 c2 c3 c4 c5 c6 c7 c8; clear f0; clear k2; obtain ⟨a0, a1, a2, a3, a4, a5⟩ := cells3 I.out.b0; obtain ⟨c0, c1, c2, c3, c4, c5, c6, c7, c8⟩ := cells9 I.out.b3; have f1 := frozen9 I.out.b3 1; have f2 := frozen9 I.out.b3 2)
      | (go_at_call_of 35 (Value.int IntKind.i64 8); refine (HN8.out _).mono ?_; clear HN8; rintro e w3 ⟨rfl, k3⟩; replace I : Hid (RtAt 72 36 w.heap.size w r2 (Ob.mk 1 ⟨c, k⟩ 0 0 ⟨#[]⟩ false ⟨#[]⟩ 0) w3) := ((I.out.setR r2).setTm c k).step k3; clear a0 a1 a2 a3 a4 a5 c0 c1 c2 c3 c4 c5 c6 c7 c8; clear f1; clear f2; clear k3; obtain ⟨a0, a1, a2, a3, a4, a5⟩ := cells3 I.out.b0; obtain ⟨c0, c1, c2, c3, c4, c5, c6, c7, c8⟩ := cells9 I.out.b3; have f3 := frozen9 I.out.b3 3)
      | (go_at_call 79; refine (HBo.out _).mono ?_; clear HBo; rintro e w4 ⟨rfl, k4⟩; replace I : Hid (RtAt 72 36 w.heap.size w r3 (Ob.mk 1 ⟨c, k⟩ th 0 ⟨#[]⟩ false ⟨#[]⟩ 0) w4) := ((I.out.setR r3).setO 3 (.int .u64 th) (Ob.mk 1 ⟨c, k⟩ th 0 ⟨#[]⟩ false ⟨#[]⟩ 0) (by rw [heap_setCell_same _ _ _ _ _ _ ((I.out.setR r3)).b3]; rfl)).step k4; clear a0 a1 a2 a3 a4 a5 c0 c1 c2 c3 c4 c5 c6 c7 c8; clear f3; clear k4; obtain ⟨a0, a1, a2, a3, a4, a5⟩ := cells3 I.out.b0; obtain ⟨c0, c1, c2, c3, c4, c5, c6, c7, c8⟩ := cells9 I.out.b3; have f6 := frozen9 I.out.b3 6)
      | (go_at_call_of 35 (Value.int IntKind.i64 8); refine (HP8.out _).mono ?_; clear HP8; rintro e w5 ⟨rfl, k5⟩; replace I : Hid (RtAt 72 36 w.heap.size w r4 (Ob.mk 1 ⟨c, k⟩ th 0 ⟨#[]⟩ d ⟨#[]⟩ 0) w5) := ((I.out.setR r4).setO 6 (.bool d) (Ob.mk 1 ⟨c, k⟩ th 0 ⟨#[]⟩ d ⟨#[]⟩ 0) (by rw [heap_setCell_same _ _ _ _ _ _ ((I.out.setR r4)).b3]; rfl)).step k5; clear a0 a1 a2 a3 a4 a5 c0 c1 c2 c3 c4 c5 c6 c7 c8; clear f6; clear k5; obtain ⟨a0, a1, a2, a3, a4, a5⟩ := cells3 I.out.b0; obtain ⟨c0, c1, c2, c3, c4, c5, c6, c7, c8⟩ := cells9 I.out.b3; have f4 := frozen9 I.out.b3 4)
      | (go_at_call 80; refine (HTx.out _).mono ?_; clear HTx; rintro e w6 ⟨rfl, k6⟩; replace I : Hid (RtAt 72 36 w.heap.size w r5 (Ob.mk 1 ⟨c, k⟩ th p ⟨#[]⟩ d ⟨#[]⟩ 0) w6) := ((I.out.setR r5).setO 4 (.int .u64 p) (Ob.mk 1 ⟨c, k⟩ th p ⟨#[]⟩ d ⟨#[]⟩ 0) (by rw [heap_setCell_same _ _ _ _ _ _ ((I.out.setR r5)).b3]; rfl)).step k6; clear a0 a1 a2 a3 a4 a5 c0 c1 c2 c3 c4 c5 c6 c7 c8; clear f4; clear k6; obtain ⟨a0, a1, a2, a3, a4, a5⟩ := cells3 I.out.b0; obtain ⟨c0, c1, c2, c3, c4, c5, c6, c7, c8⟩ := cells9 I.out.b3; have f5 := frozen9 I.out.b3 5))
    obtain ⟨W, hW⟩ : ∃ W, W = (((w6.setCell ⟨w.heap.size, 0, none⟩ (.string r6.s)).setCell ⟨w.heap.size, 1, none⟩ (.int .i64 r6.pos)).setCell ⟨w.heap.size, 2, none⟩ (.int .i64 r6.err)).setCell ⟨w.heap.size + 1 + 1 + 1, 5, none⟩ (.string n) := ⟨_, rfl⟩
    rw [← hW]
    have HZ : Hid (RtAt 72 36 w.heap.size w r6 (Ob.mk 1 ⟨c, k⟩ th p n d ⟨#[]⟩ 0) W) := by rw [hW]; exact ((I.out.setR r6).setO 5 (.string n) (Ob.mk 1 ⟨c, k⟩ th p n d ⟨#[]⟩ 0) (by rw [heap_setCell_same _ _ _ _ _ _ ((I.out.setR r6)).b3]; rfl))
    clear hW a0 a1 a2 a3 a4 a5 c0 c1 c2 c3 c4 c5 c6 c7 c8 f5 I
    obtain ⟨a0, a1, a2, a3, a4, a5⟩ := cells3 HZ.out.b0
    go_wp2_with (first
      | (refine wpList_store_row rfl 72 _ _ rfl (w.heap.size + 1) _ rfl rfl 72 _ HZ.out.b1 infoRef rfl (by simp [Value.oneCell']) ?_)
      | (refine wpList_store_row rfl 36 _ _ rfl (w.heap.size + 2) _ rfl rfl 36 _ ((setRow_other _ _ _ _ (by omega)).trans HZ.out.b2) infoROp rfl (by simp [Value.oneCell']) ?_))
    obtain ⟨z1, z2, z3⟩ := HZ.out.done (rcs r6) Ob.zero.cs
    exact bodyPost_ret (results_cells2 Tryz.results37 _ _ _ _ _ (0, 0) _ rfl z1 Tryz.underlying72 rfl infoRef _ _ _ (0, 0) _ rfl z2 Tryz.underlying36 rfl infoROp) rfl ⟨rfl, z3⟩
end Go.Proofs.YtcdmdpafkiljdaaGreatDoor
/- Contracts: an operation off a reader, the document's: one kind. -/
namespace Go.Proofs.YtcdmdpafkiljdaaGreatDoor
open Go.RowKit Go.Wire Go.Stamp Go.Opn Go.Sort
set_option maxRecDepth 100000 in
set_option maxHeartbeats 4000000 in
theorem rtake_2 (q r1 r2 r3 r5 r6 : St) (p : Nat) (n : ByteArray) (t : Tm) (th : Nat) (w : World)
    (HN1 : Hid (∀ w, Calls Tryz.prog 35 #[q.v, .int .i64 1] w fun e w' => e = .returned (.tuple #[r1.v, .int .u64 2]) ∧ Below w.heap.size w w'))
    (HST : Hid (∀ w, Calls Tryz.prog 78 #[r1.v] w fun e w' => e = .returned (.tuple #[r2.v, t.v]) ∧ Below w.heap.size w w'))
    (HN8 : Hid (∀ w, Calls Tryz.prog 35 #[r2.v, .int .i64 8] w fun e w' => e = .returned (.tuple #[r3.v, .int .u64 th]) ∧ Below w.heap.size w w'))
    (HP8 : Hid (∀ w, Calls Tryz.prog 35 #[r3.v, .int .i64 8] w fun e w' => e = .returned (.tuple #[r5.v, .int .u64 p]) ∧ Below w.heap.size w w'))
    (HTx : Hid (∀ w, Calls Tryz.prog 80 #[r5.v, .int .i64 32] w fun e w' => e = .returned (.tuple #[r6.v, .string n]) ∧ Below w.heap.size w w'))
    (e0 : Int) (HC : Hid (∀ w, Calls Tryz.prog 17 #[(Ob.mk 2 t th p n false ⟨#[]⟩ 0).v] w fun e w' => e = .returned (.int .i64 e0) ∧ Below w.heap.size w w')) :
    Calls Tryz.prog 37 #[q.v] w fun e w' => e = .returned (.tuple #[(r6.fail e0).v, (if (r6.fail e0).err = 0 then Ob.mk 2 t th p n false ⟨#[]⟩ 0 else Ob.zero).v]) ∧ Below w.heap.size w w' := by
  obtain ⟨c, k⟩ := t
  unfold Tm.v at HST
  unfold Ob.v at HC
  unfold St.v at HN1 HST HN8 HP8 HTx
  dsimp only at HST HC ⊢
  by_cases hr : r6.err = 0
  · have hs : r6 = ⟨r6.s, r6.pos, 0⟩ := by rw [← hr]
    generalize r6.s = rs at hs
    generalize r6.pos = rp at hs
    subst hs
    clear hr
    by_cases he : e0 = 0
    · subst he
      rw [fail_0, if_pos rfl]
      unfold Ob.v St.v
      dsimp only
      go_enter Tryz.func37, Tryz.ntmps37
      go_upto_region 18 with (first
        | (go_at_call_of 35 (Value.int IntKind.i64 1); refine (HN1.out _).mono ?_; rintro e w1 ⟨rfl, k1⟩; have I : Hid (RtAt 72 36 w.heap.size w q (Ob.zero) w1) := RtAt.start k1; clear k1; obtain ⟨a0, a1, a2, a3, a4, a5⟩ := cells3 I.out.b0; obtain ⟨c0, c1, c2, c3, c4, c5, c6, c7, c8⟩ := cells9 I.out.b3; have f0 := frozen9 I.out.b3 0)
        | (go_at_call 78; refine (HST.out _).mono ?_; clear HST; rintro e w2 ⟨rfl, k2⟩; replace I : Hid (RtAt 72 36 w.heap.size w r1 (Ob.mk 2 ⟨0, 0⟩ 0 0 ⟨#[]⟩ false ⟨#[]⟩ 0) w2) := ((I.out.setR r1).setO 0 (.int .i64 2) (Ob.mk 2 ⟨0, 0⟩ 0 0 ⟨#[]⟩ false ⟨#[]⟩ 0) (by rw [heap_setCell_same _ _ _ _ _ _ ((I.out.setR r1)).b3]; rfl)).step k2; clear a0 a1 a2 a3 a4 a5 c0 c1 c2 c3 c4 c5 c6 c7 c8; clear f0; clear k2; obtain ⟨a0, a1, a2, a3, a4, a5⟩ := cells3 I.out.b0; obtain ⟨c0, c1, c2, c3, c4, c5, c6, c7, c8⟩ := cells9 I.out.b3; have f1 := frozen9 I.out.b3 1; have f2 := frozen9 I.out.b3 2)
        | (go_at_call_of 35 (Value.int IntKind.i64 8); refine (HN8.out _).mono ?_; clear HN8; rintro e w3 ⟨rfl, k3⟩; replace I : Hid (RtAt 72 36 w.heap.size w r2 (Ob.mk 2 ⟨c, k⟩ 0 0 ⟨#[]⟩ false ⟨#[]⟩ 0) w3) := ((I.out.setR r2).setTm c k).step k3; clear a0 a1 a2 a3 a4 a5 c0 c1 c2 c3 c4 c5 c6 c7 c8; clear f1; clear f2; clear k3; obtain ⟨a0, a1, a2, a3, a4, a5⟩ := cells3 I.out.b0; obtain ⟨c0, c1, c2, c3, c4, c5, c6, c7, c8⟩ := cells9 I.out.b3; have f3 := frozen9 I.out.b3 3)
        | (go_at_call_of 35 (Value.int IntKind.i64 8); refine (HP8.out _).mono ?_; clear HP8; rintro e w4 ⟨rfl, k4⟩; replace I : Hid (RtAt 72 36 w.heap.size w r3 (Ob.mk 2 ⟨c, k⟩ th 0 ⟨#[]⟩ false ⟨#[]⟩ 0) w4) := ((I.out.setR r3).setO 3 (.int .u64 th) (Ob.mk 2 ⟨c, k⟩ th 0 ⟨#[]⟩ false ⟨#[]⟩ 0) (by rw [heap_setCell_same _ _ _ _ _ _ ((I.out.setR r3)).b3]; rfl)).step k4; clear a0 a1 a2 a3 a4 a5 c0 c1 c2 c3 c4 c5 c6 c7 c8; clear f3; clear k4; obtain ⟨a0, a1, a2, a3, a4, a5⟩ := cells3 I.out.b0; obtain ⟨c0, c1, c2, c3, c4, c5, c6, c7, c8⟩ := cells9 I.out.b3; have f4 := frozen9 I.out.b3 4)
        | (go_at_call 80; refine (HTx.out _).mono ?_; clear HTx; rintro e w5 ⟨rfl, k5⟩; replace I : Hid (RtAt 72 36 w.heap.size w r5 (Ob.mk 2 ⟨c, k⟩ th p ⟨#[]⟩ false ⟨#[]⟩ 0) w5) := ((I.out.setR r5).setO 4 (.int .u64 p) (Ob.mk 2 ⟨c, k⟩ th p ⟨#[]⟩ false ⟨#[]⟩ 0) (by rw [heap_setCell_same _ _ _ _ _ _ ((I.out.setR r5)).b3]; rfl)).step k5; clear a0 a1 a2 a3 a4 a5 c0 c1 c2 c3 c4 c5 c6 c7 c8; clear f4; clear k5; obtain ⟨a0, a1, a2, a3, a4, a5⟩ := cells3 I.out.b0; obtain ⟨c0, c1, c2, c3, c4, c5, c6, c7, c8⟩ := cells9 I.out.b3; have f5 := frozen9 I.out.b3 5)
        | (go_at_call 17; refine (HC.out _).mono ?_; rintro e w6 ⟨rfl, k6⟩; replace I : Hid (RtAt 72 36 w.heap.size w ⟨rs, rp, 0⟩ (Ob.mk 2 ⟨c, k⟩ th p n false ⟨#[]⟩ 0) w6) := ((I.out.setR ⟨rs, rp, 0⟩).setO 5 (.string n) (Ob.mk 2 ⟨c, k⟩ th p n false ⟨#[]⟩ 0) (by rw [heap_setCell_same _ _ _ _ _ _ ((I.out.setR ⟨rs, rp, 0⟩)).b3]; rfl)).step k6; clear a0 a1 a2 a3 a4 a5 c0 c1 c2 c3 c4 c5 c6 c7 c8; clear f5; clear k6; obtain ⟨a0, a1, a2, a3, a4, a5⟩ := cells3 I.out.b0; obtain ⟨c0, c1, c2, c3, c4, c5, c6, c7, c8⟩ := cells9 I.out.b3))
      obtain ⟨W, hW⟩ : ∃ W, W = w6.setCell ⟨w.heap.size, 2, none⟩ (.int .i64 0) := ⟨_, rfl⟩
      rw [← hW]
      replace I : Hid (RtAt 72 36 w.heap.size w ⟨rs, rp, 0⟩ (Ob.mk 2 ⟨c, k⟩ th p n false ⟨#[]⟩ 0) W) := by rw [hW]; exact I.out.setErr 0
      clear hW a0 a1 a2 a3 a4 a5 c0 c1 c2 c3 c4 c5 c6 c7 c8
      obtain ⟨a0, a1, a2, a3, a4, a5⟩ := cells3 I.out.b0
      obtain ⟨b0, b1, b2, b3, b4, b5⟩ := cells3 I.out.b1
      obtain ⟨c0, c1, c2, c3, c4, c5, c6, c7, c8⟩ := cells9 I.out.b3
      obtain ⟨d0, d1, d2, d3, d4, d5, d6, d7, d8⟩ := cells9 I.out.b2
      have f0 := frozen9 I.out.b2 0
      have f1 := frozen9 I.out.b2 1
      have f2 := frozen9 I.out.b2 2
      have f3 := frozen9 I.out.b2 3
      have f4 := frozen9 I.out.b2 4
      have f5 := frozen9 I.out.b2 5
      have f6 := frozen9 I.out.b2 6
      have f7 := frozen9 I.out.b2 7
      have f8 := frozen9 I.out.b2 8
      go_region
      go_wp2

      obtain ⟨z1, z2, z3⟩ := I.out.laid ⟨rs, rp, 0⟩ (Ob.mk 2 ⟨c, k⟩ th p n false ⟨#[]⟩ 0) rfl
      exact bodyPost_ret (results_cells2 Tryz.results37 _ _ _ _ _ (0, 0) _ rfl z1 Tryz.underlying72 rfl infoRef _ _ _ (0, 0) _ rfl z2 Tryz.underlying36 rfl infoROp) rfl ⟨rfl, z3⟩
    · have e1 : (St.mk rs rp 0).fail e0 = ⟨rs, rp, e0⟩ := by unfold St.fail; rw [if_pos rfl]
      rw [e1, if_neg he]
      have g1 : (e0 == 0) = false := beq_eq_false_iff_ne.2 he
      clear he e1
      unfold Ob.v St.v Ob.zero
      dsimp only
      go_enter Tryz.func37, Tryz.ntmps37
      go_upto_region 17 with (first
        | (go_at_call_of 35 (Value.int IntKind.i64 1); refine (HN1.out _).mono ?_; rintro e w1 ⟨rfl, k1⟩; have I : Hid (RtAt 72 36 w.heap.size w q (Ob.zero) w1) := RtAt.start k1; clear k1; obtain ⟨a0, a1, a2, a3, a4, a5⟩ := cells3 I.out.b0; obtain ⟨c0, c1, c2, c3, c4, c5, c6, c7, c8⟩ := cells9 I.out.b3; have f0 := frozen9 I.out.b3 0)
        | (go_at_call 78; refine (HST.out _).mono ?_; clear HST; rintro e w2 ⟨rfl, k2⟩; replace I : Hid (RtAt 72 36 w.heap.size w r1 (Ob.mk 2 ⟨0, 0⟩ 0 0 ⟨#[]⟩ false ⟨#[]⟩ 0) w2) := ((I.out.setR r1).setO 0 (.int .i64 2) (Ob.mk 2 ⟨0, 0⟩ 0 0 ⟨#[]⟩ false ⟨#[]⟩ 0) (by rw [heap_setCell_same _ _ _ _ _ _ ((I.out.setR r1)).b3]; rfl)).step k2; clear a0 a1 a2 a3 a4 a5 c0 c1 c2 c3 c4 c5 c6 c7 c8; clear f0; clear k2; obtain ⟨a0, a1, a2, a3, a4, a5⟩ := cells3 I.out.b0; obtain ⟨c0, c1, c2, c3, c4, c5, c6, c7, c8⟩ := cells9 I.out.b3; have f1 := frozen9 I.out.b3 1; have f2 := frozen9 I.out.b3 2)
        | (go_at_call_of 35 (Value.int IntKind.i64 8); refine (HN8.out _).mono ?_; clear HN8; rintro e w3 ⟨rfl, k3⟩; replace I : Hid (RtAt 72 36 w.heap.size w r2 (Ob.mk 2 ⟨c, k⟩ 0 0 ⟨#[]⟩ false ⟨#[]⟩ 0) w3) := ((I.out.setR r2).setTm c k).step k3; clear a0 a1 a2 a3 a4 a5 c0 c1 c2 c3 c4 c5 c6 c7 c8; clear f1; clear f2; clear k3; obtain ⟨a0, a1, a2, a3, a4, a5⟩ := cells3 I.out.b0; obtain ⟨c0, c1, c2, c3, c4, c5, c6, c7, c8⟩ := cells9 I.out.b3; have f3 := frozen9 I.out.b3 3)
        | (go_at_call_of 35 (Value.int IntKind.i64 8); refine (HP8.out _).mono ?_; clear HP8; rintro e w4 ⟨rfl, k4⟩; replace I : Hid (RtAt 72 36 w.heap.size w r3 (Ob.mk 2 ⟨c, k⟩ th 0 ⟨#[]⟩ false ⟨#[]⟩ 0) w4) := ((I.out.setR r3).setO 3 (.int .u64 th) (Ob.mk 2 ⟨c, k⟩ th 0 ⟨#[]⟩ false ⟨#[]⟩ 0) (by rw [heap_setCell_same _ _ _ _ _ _ ((I.out.setR r3)).b3]; rfl)).step k4; clear a0 a1 a2 a3 a4 a5 c0 c1 c2 c3 c4 c5 c6 c7 c8; clear f3; clear k4; obtain ⟨a0, a1, a2, a3, a4, a5⟩ := cells3 I.out.b0; obtain ⟨c0, c1, c2, c3, c4, c5, c6, c7, c8⟩ := cells9 I.out.b3; have f4 := frozen9 I.out.b3 4)
        | (go_at_call 80; refine (HTx.out _).mono ?_; clear HTx; rintro e w5 ⟨rfl, k5⟩; replace I : Hid (RtAt 72 36 w.heap.size w r5 (Ob.mk 2 ⟨c, k⟩ th p ⟨#[]⟩ false ⟨#[]⟩ 0) w5) := ((I.out.setR r5).setO 4 (.int .u64 p) (Ob.mk 2 ⟨c, k⟩ th p ⟨#[]⟩ false ⟨#[]⟩ 0) (by rw [heap_setCell_same _ _ _ _ _ _ ((I.out.setR r5)).b3]; rfl)).step k5; clear a0 a1 a2 a3 a4 a5 c0 c1 c2 c3 c4 c5 c6 c7 c8; clear f4; clear k5; obtain ⟨a0, a1, a2, a3, a4, a5⟩ := cells3 I.out.b0; obtain ⟨c0, c1, c2, c3, c4, c5, c6, c7, c8⟩ := cells9 I.out.b3; have f5 := frozen9 I.out.b3 5)
        | (go_at_call 17; refine (HC.out _).mono ?_; rintro e w6 ⟨rfl, k6⟩; replace I : Hid (RtAt 72 36 w.heap.size w ⟨rs, rp, 0⟩ (Ob.mk 2 ⟨c, k⟩ th p n false ⟨#[]⟩ 0) w6) := ((I.out.setR ⟨rs, rp, 0⟩).setO 5 (.string n) (Ob.mk 2 ⟨c, k⟩ th p n false ⟨#[]⟩ 0) (by rw [heap_setCell_same _ _ _ _ _ _ ((I.out.setR ⟨rs, rp, 0⟩)).b3]; rfl)).step k6; clear a0 a1 a2 a3 a4 a5 c0 c1 c2 c3 c4 c5 c6 c7 c8; clear f5; clear k6; obtain ⟨a0, a1, a2, a3, a4, a5⟩ := cells3 I.out.b0; obtain ⟨c0, c1, c2, c3, c4, c5, c6, c7, c8⟩ := cells9 I.out.b3))
      obtain ⟨W, hW⟩ : ∃ W, W = w6.setCell ⟨w.heap.size, 2, none⟩ (.int .i64 e0) := ⟨_, rfl⟩
      rw [← hW]
      have HZ : Hid (RtAt 72 36 w.heap.size w ⟨rs, rp, e0⟩ (Ob.mk 2 ⟨c, k⟩ th p n false ⟨#[]⟩ 0) W) := by rw [hW]; exact I.out.setErr e0
      clear hW a0 a1 a2 a3 a4 a5 c0 c1 c2 c3 c4 c5 c6 c7 c8 I
      obtain ⟨a0, a1, a2, a3, a4, a5⟩ := cells3 HZ.out.b0
      go_wp2_with (first
        | (refine wpList_store_row rfl 72 _ _ rfl (w.heap.size + 1) _ rfl rfl 72 _ HZ.out.b1 infoRef rfl (by simp [Value.oneCell']) ?_)
        | (refine wpList_store_row rfl 36 _ _ rfl (w.heap.size + 2) _ rfl rfl 36 _ ((setRow_other _ _ _ _ (by omega)).trans HZ.out.b2) infoROp rfl (by simp [Value.oneCell']) ?_))
      obtain ⟨z1, z2, z3⟩ := HZ.out.done (rcs ⟨rs, rp, e0⟩) Ob.zero.cs
      exact bodyPost_ret (results_cells2 Tryz.results37 _ _ _ _ _ (0, 0) _ rfl z1 Tryz.underlying72 rfl infoRef _ _ _ (0, 0) _ rfl z2 Tryz.underlying36 rfl infoROp) rfl ⟨rfl, z3⟩
  · have e1 : r6.fail e0 = r6 := by unfold St.fail; rw [if_neg hr]
    rw [e1, if_neg hr]
    have g1 : (r6.err == 0) = false := beq_eq_false_iff_ne.2 hr
    clear hr e1
    unfold Ob.v St.v Ob.zero
    dsimp only
    go_enter Tryz.func37, Tryz.ntmps37
    go_upto_region 17 with (first
      | (go_at_call_of 35 (Value.int IntKind.i64 1); refine (HN1.out _).mono ?_; rintro e w1 ⟨rfl, k1⟩; have I : Hid (RtAt 72 36 w.heap.size w q (Ob.zero) w1) := RtAt.start k1; clear k1; obtain ⟨a0, a1, a2, a3, a4, a5⟩ := cells3 I.out.b0; obtain ⟨c0, c1, c2, c3, c4, c5, c6, c7, c8⟩ := cells9 I.out.b3; have f0 := frozen9 I.out.b3 0)
      | (go_at_call 78; refine (HST.out _).mono ?_; clear HST; rintro e w2 ⟨rfl, k2⟩; replace I : Hid (RtAt 72 36 w.heap.size w r1 (Ob.mk 2 ⟨0, 0⟩ 0 0 ⟨#[]⟩ false ⟨#[]⟩ 0) w2) := ((I.out.setR r1).setO 0 (.int .i64 2) (Ob.mk 2 ⟨0, 0⟩ 0 0 ⟨#[]⟩ false ⟨#[]⟩ 0) (by rw [heap_setCell_same _ _ _ _ _ _ ((I.out.setR r1)).b3]; rfl)).step k2; clear a0 a1 a2 a3 a4 a5 c0 c1 c2 c3 c4 c5 c6 c7 c8; clear f0; clear k2; obtain ⟨a0, a1, a2, a3, a4, a5⟩ := cells3 I.out.b0; obtain ⟨c0, c1, c2, c3, c4, c5, c6, c7, c8⟩ := cells9 I.out.b3; have f1 := frozen9 I.out.b3 1; have f2 := frozen9 I.out.b3 2)
      | (go_at_call_of 35 (Value.int IntKind.i64 8); refine (HN8.out _).mono ?_; clear HN8; rintro e w3 ⟨rfl, k3⟩; replace I : Hid (RtAt 72 36 w.heap.size w r2 (Ob.mk 2 ⟨c, k⟩ 0 0 ⟨#[]⟩ false ⟨#[]⟩ 0) w3) := ((I.out.setR r2).setTm c k).step k3; clear a0 a1 a2 a3 a4 a5 c0 c1 c2 c3 c4 c5 c6 c7 c8; clear f1; clear f2; clear k3; obtain ⟨a0, a1, a2, a3, a4, a5⟩ := cells3 I.out.b0; obtain ⟨c0, c1, c2, c3, c4, c5, c6, c7, c8⟩ := cells9 I.out.b3; have f3 := frozen9 I.out.b3 3)
      | (go_at_call_of 35 (Value.int IntKind.i64 8); refine (HP8.out _).mono ?_; clear HP8; rintro e w4 ⟨rfl, k4⟩; replace I : Hid (RtAt 72 36 w.heap.size w r3 (Ob.mk 2 ⟨c, k⟩ th 0 ⟨#[]⟩ false ⟨#[]⟩ 0) w4) := ((I.out.setR r3).setO 3 (.int .u64 th) (Ob.mk 2 ⟨c, k⟩ th 0 ⟨#[]⟩ false ⟨#[]⟩ 0) (by rw [heap_setCell_same _ _ _ _ _ _ ((I.out.setR r3)).b3]; rfl)).step k4; clear a0 a1 a2 a3 a4 a5 c0 c1 c2 c3 c4 c5 c6 c7 c8; clear f3; clear k4; obtain ⟨a0, a1, a2, a3, a4, a5⟩ := cells3 I.out.b0; obtain ⟨c0, c1, c2, c3, c4, c5, c6, c7, c8⟩ := cells9 I.out.b3; have f4 := frozen9 I.out.b3 4)
      | (go_at_call 80; refine (HTx.out _).mono ?_; clear HTx; rintro e w5 ⟨rfl, k5⟩; replace I : Hid (RtAt 72 36 w.heap.size w r5 (Ob.mk 2 ⟨c, k⟩ th p ⟨#[]⟩ false ⟨#[]⟩ 0) w5) := ((I.out.setR r5).setO 4 (.int .u64 p) (Ob.mk 2 ⟨c, k⟩ th p ⟨#[]⟩ false ⟨#[]⟩ 0) (by rw [heap_setCell_same _ _ _ _ _ _ ((I.out.setR r5)).b3]; rfl)).step k5; clear a0 a1 a2 a3 a4 a5 c0 c1 c2 c3 c4 c5 c6 c7 c8; clear f4; clear k5; obtain ⟨a0, a1, a2, a3, a4, a5⟩ := cells3 I.out.b0; obtain ⟨c0, c1, c2, c3, c4, c5, c6, c7, c8⟩ := cells9 I.out.b3; have f5 := frozen9 I.out.b3 5))
    obtain ⟨W, hW⟩ : ∃ W, W = (((w5.setCell ⟨w.heap.size, 0, none⟩ (.string r6.s)).setCell ⟨w.heap.size, 1, none⟩ (.int .i64 r6.pos)).setCell ⟨w.heap.size, 2, none⟩ (.int .i64 r6.err)).setCell ⟨w.heap.size + 1 + 1 + 1, 5, none⟩ (.string n) := ⟨_, rfl⟩
    rw [← hW]
    have HZ : Hid (RtAt 72 36 w.heap.size w r6 (Ob.mk 2 ⟨c, k⟩ th p n false ⟨#[]⟩ 0) W) := by rw [hW]; exact ((I.out.setR r6).setO 5 (.string n) (Ob.mk 2 ⟨c, k⟩ th p n false ⟨#[]⟩ 0) (by rw [heap_setCell_same _ _ _ _ _ _ ((I.out.setR r6)).b3]; rfl))
    clear hW a0 a1 a2 a3 a4 a5 c0 c1 c2 c3 c4 c5 c6 c7 c8 f5 I
    obtain ⟨a0, a1, a2, a3, a4, a5⟩ := cells3 HZ.out.b0
    go_wp2_with (first
      | (refine wpList_store_row rfl 72 _ _ rfl (w.heap.size + 1) _ rfl rfl 72 _ HZ.out.b1 infoRef rfl (by simp [Value.oneCell']) ?_)
      | (refine wpList_store_row rfl 36 _ _ rfl (w.heap.size + 2) _ rfl rfl 36 _ ((setRow_other _ _ _ _ (by omega)).trans HZ.out.b2) infoROp rfl (by simp [Value.oneCell']) ?_))
    obtain ⟨z1, z2, z3⟩ := HZ.out.done (rcs r6) Ob.zero.cs
    exact bodyPost_ret (results_cells2 Tryz.results37 _ _ _ _ _ (0, 0) _ rfl z1 Tryz.underlying72 rfl infoRef _ _ _ (0, 0) _ rfl z2 Tryz.underlying36 rfl infoROp) rfl ⟨rfl, z3⟩
end Go.Proofs.YtcdmdpafkiljdaaGreatDoor
/- Contracts: an operation off a reader, the document's: one kind. -/
namespace Go.Proofs.YtcdmdpafkiljdaaGreatDoor
open Go.RowKit Go.Wire Go.Stamp Go.Opn Go.Sort
set_option maxRecDepth 100000 in
set_option maxHeartbeats 4000000 in
theorem rtake_4 (q r1 r2 r3 r4 r5 : St) (g : ByteArray) (z : Nat) (t : Tm) (th : Nat) (w : World)
    (HN1 : Hid (∀ w, Calls Tryz.prog 35 #[q.v, .int .i64 1] w fun e w' => e = .returned (.tuple #[r1.v, .int .u64 4]) ∧ Below w.heap.size w w'))
    (HST : Hid (∀ w, Calls Tryz.prog 78 #[r1.v] w fun e w' => e = .returned (.tuple #[r2.v, t.v]) ∧ Below w.heap.size w w'))
    (HN8 : Hid (∀ w, Calls Tryz.prog 35 #[r2.v, .int .i64 8] w fun e w' => e = .returned (.tuple #[r3.v, .int .u64 th]) ∧ Below w.heap.size w w'))
    (HBy : Hid (∀ w, Calls Tryz.prog 36 #[r3.v, .int .i64 32] w fun e w' => e = .returned (.tuple #[r4.v, .string g]) ∧ Below w.heap.size w w'))
    (HCo : Hid (∀ w, Calls Tryz.prog 81 #[r4.v, .int .i64 8192] w fun e w' => e = .returned (.tuple #[r5.v, .int .i64 z]) ∧ Below w.heap.size w w'))
    (e0 : Int) (HC : Hid (∀ w, Calls Tryz.prog 17 #[(Ob.mk 4 t th 0 ⟨#[]⟩ false g z).v] w fun e w' => e = .returned (.int .i64 e0) ∧ Below w.heap.size w w')) :
    Calls Tryz.prog 37 #[q.v] w fun e w' => e = .returned (.tuple #[(r5.fail e0).v, (if (r5.fail e0).err = 0 then Ob.mk 4 t th 0 ⟨#[]⟩ false g z else Ob.zero).v]) ∧ Below w.heap.size w w' := by
  obtain ⟨c, k⟩ := t
  unfold Tm.v at HST
  unfold Ob.v at HC
  unfold St.v at HN1 HST HN8 HBy HCo
  dsimp only at HST HC ⊢
  by_cases hr : r5.err = 0
  · have hs : r5 = ⟨r5.s, r5.pos, 0⟩ := by rw [← hr]
    generalize r5.s = rs at hs
    generalize r5.pos = rp at hs
    subst hs
    clear hr
    by_cases he : e0 = 0
    · subst he
      rw [fail_0, if_pos rfl]
      unfold Ob.v St.v
      dsimp only
      go_enter Tryz.func37, Tryz.ntmps37
      go_upto_region 18 with (first
        | (go_at_call_of 35 (Value.int IntKind.i64 1); refine (HN1.out _).mono ?_; rintro e w1 ⟨rfl, k1⟩; have I : Hid (RtAt 72 36 w.heap.size w q (Ob.zero) w1) := RtAt.start k1; clear k1; obtain ⟨a0, a1, a2, a3, a4, a5⟩ := cells3 I.out.b0; obtain ⟨c0, c1, c2, c3, c4, c5, c6, c7, c8⟩ := cells9 I.out.b3; have f0 := frozen9 I.out.b3 0)
        | (go_at_call 78; refine (HST.out _).mono ?_; clear HST; rintro e w2 ⟨rfl, k2⟩; replace I : Hid (RtAt 72 36 w.heap.size w r1 (Ob.mk 4 ⟨0, 0⟩ 0 0 ⟨#[]⟩ false ⟨#[]⟩ 0) w2) := ((I.out.setR r1).setO 0 (.int .i64 4) (Ob.mk 4 ⟨0, 0⟩ 0 0 ⟨#[]⟩ false ⟨#[]⟩ 0) (by rw [heap_setCell_same _ _ _ _ _ _ ((I.out.setR r1)).b3]; rfl)).step k2; clear a0 a1 a2 a3 a4 a5 c0 c1 c2 c3 c4 c5 c6 c7 c8; clear f0; clear k2; obtain ⟨a0, a1, a2, a3, a4, a5⟩ := cells3 I.out.b0; obtain ⟨c0, c1, c2, c3, c4, c5, c6, c7, c8⟩ := cells9 I.out.b3; have f1 := frozen9 I.out.b3 1; have f2 := frozen9 I.out.b3 2)
        | (go_at_call_of 35 (Value.int IntKind.i64 8); refine (HN8.out _).mono ?_; clear HN8; rintro e w3 ⟨rfl, k3⟩; replace I : Hid (RtAt 72 36 w.heap.size w r2 (Ob.mk 4 ⟨c, k⟩ 0 0 ⟨#[]⟩ false ⟨#[]⟩ 0) w3) := ((I.out.setR r2).setTm c k).step k3; clear a0 a1 a2 a3 a4 a5 c0 c1 c2 c3 c4 c5 c6 c7 c8; clear f1; clear f2; clear k3; obtain ⟨a0, a1, a2, a3, a4, a5⟩ := cells3 I.out.b0; obtain ⟨c0, c1, c2, c3, c4, c5, c6, c7, c8⟩ := cells9 I.out.b3; have f3 := frozen9 I.out.b3 3)
        | (go_at_call 36; refine (HBy.out _).mono ?_; clear HBy; rintro e w4 ⟨rfl, k4⟩; replace I : Hid (RtAt 72 36 w.heap.size w r3 (Ob.mk 4 ⟨c, k⟩ th 0 ⟨#[]⟩ false ⟨#[]⟩ 0) w4) := ((I.out.setR r3).setO 3 (.int .u64 th) (Ob.mk 4 ⟨c, k⟩ th 0 ⟨#[]⟩ false ⟨#[]⟩ 0) (by rw [heap_setCell_same _ _ _ _ _ _ ((I.out.setR r3)).b3]; rfl)).step k4; clear a0 a1 a2 a3 a4 a5 c0 c1 c2 c3 c4 c5 c6 c7 c8; clear f3; clear k4; obtain ⟨a0, a1, a2, a3, a4, a5⟩ := cells3 I.out.b0; obtain ⟨c0, c1, c2, c3, c4, c5, c6, c7, c8⟩ := cells9 I.out.b3; have f7 := frozen9 I.out.b3 7)
        | (go_at_call 81; refine (HCo.out _).mono ?_; clear HCo; rintro e w5 ⟨rfl, k5⟩; replace I : Hid (RtAt 72 36 w.heap.size w r4 (Ob.mk 4 ⟨c, k⟩ th 0 ⟨#[]⟩ false g 0) w5) := ((I.out.setR r4).setO 7 (.string g) (Ob.mk 4 ⟨c, k⟩ th 0 ⟨#[]⟩ false g 0) (by rw [heap_setCell_same _ _ _ _ _ _ ((I.out.setR r4)).b3]; rfl)).step k5; clear a0 a1 a2 a3 a4 a5 c0 c1 c2 c3 c4 c5 c6 c7 c8; clear f7; clear k5; obtain ⟨a0, a1, a2, a3, a4, a5⟩ := cells3 I.out.b0; obtain ⟨c0, c1, c2, c3, c4, c5, c6, c7, c8⟩ := cells9 I.out.b3; have f8 := frozen9 I.out.b3 8)
        | (go_at_call 17; refine (HC.out _).mono ?_; rintro e w6 ⟨rfl, k6⟩; replace I : Hid (RtAt 72 36 w.heap.size w ⟨rs, rp, 0⟩ (Ob.mk 4 ⟨c, k⟩ th 0 ⟨#[]⟩ false g z) w6) := ((I.out.setR ⟨rs, rp, 0⟩).setO 8 (.int .i64 z) (Ob.mk 4 ⟨c, k⟩ th 0 ⟨#[]⟩ false g z) (by rw [heap_setCell_same _ _ _ _ _ _ ((I.out.setR ⟨rs, rp, 0⟩)).b3]; rfl)).step k6; clear a0 a1 a2 a3 a4 a5 c0 c1 c2 c3 c4 c5 c6 c7 c8; clear f8; clear k6; obtain ⟨a0, a1, a2, a3, a4, a5⟩ := cells3 I.out.b0; obtain ⟨c0, c1, c2, c3, c4, c5, c6, c7, c8⟩ := cells9 I.out.b3))
      obtain ⟨W, hW⟩ : ∃ W, W = w6.setCell ⟨w.heap.size, 2, none⟩ (.int .i64 0) := ⟨_, rfl⟩
      rw [← hW]
      replace I : Hid (RtAt 72 36 w.heap.size w ⟨rs, rp, 0⟩ (Ob.mk 4 ⟨c, k⟩ th 0 ⟨#[]⟩ false g z) W) := by rw [hW]; exact I.out.setErr 0
      clear hW a0 a1 a2 a3 a4 a5 c0 c1 c2 c3 c4 c5 c6 c7 c8
      obtain ⟨a0, a1, a2, a3, a4, a5⟩ := cells3 I.out.b0
      obtain ⟨b0, b1, b2, b3, b4, b5⟩ := cells3 I.out.b1
      obtain ⟨c0, c1, c2, c3, c4, c5, c6, c7, c8⟩ := cells9 I.out.b3
      obtain ⟨d0, d1, d2, d3, d4, d5, d6, d7, d8⟩ := cells9 I.out.b2
      have f0 := frozen9 I.out.b2 0
      have f1 := frozen9 I.out.b2 1
      have f2 := frozen9 I.out.b2 2
      have f3 := frozen9 I.out.b2 3
      have f4 := frozen9 I.out.b2 4
      have f5 := frozen9 I.out.b2 5
      have f6 := frozen9 I.out.b2 6
      have f7 := frozen9 I.out.b2 7
      have f8 := frozen9 I.out.b2 8
      go_region
      go_wp2

      obtain ⟨z1, z2, z3⟩ := I.out.laid ⟨rs, rp, 0⟩ (Ob.mk 4 ⟨c, k⟩ th 0 ⟨#[]⟩ false g z) rfl
      exact bodyPost_ret (results_cells2 Tryz.results37 _ _ _ _ _ (0, 0) _ rfl z1 Tryz.underlying72 rfl infoRef _ _ _ (0, 0) _ rfl z2 Tryz.underlying36 rfl infoROp) rfl ⟨rfl, z3⟩
    · have e1 : (St.mk rs rp 0).fail e0 = ⟨rs, rp, e0⟩ := by unfold St.fail; rw [if_pos rfl]
      rw [e1, if_neg he]
      have g1 : (e0 == 0) = false := beq_eq_false_iff_ne.2 he
      clear he e1
      unfold Ob.v St.v Ob.zero
      dsimp only
      go_enter Tryz.func37, Tryz.ntmps37
      go_upto_region 17 with (first
        | (go_at_call_of 35 (Value.int IntKind.i64 1); refine (HN1.out _).mono ?_; rintro e w1 ⟨rfl, k1⟩; have I : Hid (RtAt 72 36 w.heap.size w q (Ob.zero) w1) := RtAt.start k1; clear k1; obtain ⟨a0, a1, a2, a3, a4, a5⟩ := cells3 I.out.b0; obtain ⟨c0, c1, c2, c3, c4, c5, c6, c7, c8⟩ := cells9 I.out.b3; have f0 := frozen9 I.out.b3 0)
        | (go_at_call 78; refine (HST.out _).mono ?_; clear HST; rintro e w2 ⟨rfl, k2⟩; replace I : Hid (RtAt 72 36 w.heap.size w r1 (Ob.mk 4 ⟨0, 0⟩ 0 0 ⟨#[]⟩ false ⟨#[]⟩ 0) w2) := ((I.out.setR r1).setO 0 (.int .i64 4) (Ob.mk 4 ⟨0, 0⟩ 0 0 ⟨#[]⟩ false ⟨#[]⟩ 0) (by rw [heap_setCell_same _ _ _ _ _ _ ((I.out.setR r1)).b3]; rfl)).step k2; clear a0 a1 a2 a3 a4 a5 c0 c1 c2 c3 c4 c5 c6 c7 c8; clear f0; clear k2; obtain ⟨a0, a1, a2, a3, a4, a5⟩ := cells3 I.out.b0; obtain ⟨c0, c1, c2, c3, c4, c5, c6, c7, c8⟩ := cells9 I.out.b3; have f1 := frozen9 I.out.b3 1; have f2 := frozen9 I.out.b3 2)
        | (go_at_call_of 35 (Value.int IntKind.i64 8); refine (HN8.out _).mono ?_; clear HN8; rintro e w3 ⟨rfl, k3⟩; replace I : Hid (RtAt 72 36 w.heap.size w r2 (Ob.mk 4 ⟨c, k⟩ 0 0 ⟨#[]⟩ false ⟨#[]⟩ 0) w3) := ((I.out.setR r2).setTm c k).step k3; clear a0 a1 a2 a3 a4 a5 c0 c1 c2 c3 c4 c5 c6 c7 c8; clear f1; clear f2; clear k3; obtain ⟨a0, a1, a2, a3, a4, a5⟩ := cells3 I.out.b0; obtain ⟨c0, c1, c2, c3, c4, c5, c6, c7, c8⟩ := cells9 I.out.b3; have f3 := frozen9 I.out.b3 3)
        | (go_at_call 36; refine (HBy.out _).mono ?_; clear HBy; rintro e w4 ⟨rfl, k4⟩; replace I : Hid (RtAt 72 36 w.heap.size w r3 (Ob.mk 4 ⟨c, k⟩ th 0 ⟨#[]⟩ false ⟨#[]⟩ 0) w4) := ((I.out.setR r3).setO 3 (.int .u64 th) (Ob.mk 4 ⟨c, k⟩ th 0 ⟨#[]⟩ false ⟨#[]⟩ 0) (by rw [heap_setCell_same _ _ _ _ _ _ ((I.out.setR r3)).b3]; rfl)).step k4; clear a0 a1 a2 a3 a4 a5 c0 c1 c2 c3 c4 c5 c6 c7 c8; clear f3; clear k4; obtain ⟨a0, a1, a2, a3, a4, a5⟩ := cells3 I.out.b0; obtain ⟨c0, c1, c2, c3, c4, c5, c6, c7, c8⟩ := cells9 I.out.b3; have f7 := frozen9 I.out.b3 7)
        | (go_at_call 81; refine (HCo.out _).mono ?_; clear HCo; rintro e w5 ⟨rfl, k5⟩; replace I : Hid (RtAt 72 36 w.heap.size w r4 (Ob.mk 4 ⟨c, k⟩ th 0 ⟨#[]⟩ false g 0) w5) := ((I.out.setR r4).setO 7 (.string g) (Ob.mk 4 ⟨c, k⟩ th 0 ⟨#[]⟩ false g 0) (by rw [heap_setCell_same _ _ _ _ _ _ ((I.out.setR r4)).b3]; rfl)).step k5; clear a0 a1 a2 a3 a4 a5 c0 c1 c2 c3 c4 c5 c6 c7 c8; clear f7; clear k5; obtain ⟨a0, a1, a2, a3, a4, a5⟩ := cells3 I.out.b0; obtain ⟨c0, c1, c2, c3, c4, c5, c6, c7, c8⟩ := cells9 I.out.b3; have f8 := frozen9 I.out.b3 8)
        | (go_at_call 17; refine (HC.out _).mono ?_; rintro e w6 ⟨rfl, k6⟩; replace I : Hid (RtAt 72 36 w.heap.size w ⟨rs, rp, 0⟩ (Ob.mk 4 ⟨c, k⟩ th 0 ⟨#[]⟩ false g z) w6) := ((I.out.setR ⟨rs, rp, 0⟩).setO 8 (.int .i64 z) (Ob.mk 4 ⟨c, k⟩ th 0 ⟨#[]⟩ false g z) (by rw [heap_setCell_same _ _ _ _ _ _ ((I.out.setR ⟨rs, rp, 0⟩)).b3]; rfl)).step k6; clear a0 a1 a2 a3 a4 a5 c0 c1 c2 c3 c4 c5 c6 c7 c8; clear f8; clear k6; obtain ⟨a0, a1, a2, a3, a4, a5⟩ := cells3 I.out.b0; obtain ⟨c0, c1, c2, c3, c4, c5, c6, c7, c8⟩ := cells9 I.out.b3))
      obtain ⟨W, hW⟩ : ∃ W, W = w6.setCell ⟨w.heap.size, 2, none⟩ (.int .i64 e0) := ⟨_, rfl⟩
      rw [← hW]
      have HZ : Hid (RtAt 72 36 w.heap.size w ⟨rs, rp, e0⟩ (Ob.mk 4 ⟨c, k⟩ th 0 ⟨#[]⟩ false g z) W) := by rw [hW]; exact I.out.setErr e0
      clear hW a0 a1 a2 a3 a4 a5 c0 c1 c2 c3 c4 c5 c6 c7 c8 I
      obtain ⟨a0, a1, a2, a3, a4, a5⟩ := cells3 HZ.out.b0
      go_wp2_with (first
        | (refine wpList_store_row rfl 72 _ _ rfl (w.heap.size + 1) _ rfl rfl 72 _ HZ.out.b1 infoRef rfl (by simp [Value.oneCell']) ?_)
        | (refine wpList_store_row rfl 36 _ _ rfl (w.heap.size + 2) _ rfl rfl 36 _ ((setRow_other _ _ _ _ (by omega)).trans HZ.out.b2) infoROp rfl (by simp [Value.oneCell']) ?_))
      obtain ⟨z1, z2, z3⟩ := HZ.out.done (rcs ⟨rs, rp, e0⟩) Ob.zero.cs
      exact bodyPost_ret (results_cells2 Tryz.results37 _ _ _ _ _ (0, 0) _ rfl z1 Tryz.underlying72 rfl infoRef _ _ _ (0, 0) _ rfl z2 Tryz.underlying36 rfl infoROp) rfl ⟨rfl, z3⟩
  · have e1 : r5.fail e0 = r5 := by unfold St.fail; rw [if_neg hr]
    rw [e1, if_neg hr]
    have g1 : (r5.err == 0) = false := beq_eq_false_iff_ne.2 hr
    clear hr e1
    unfold Ob.v St.v Ob.zero
    dsimp only
    go_enter Tryz.func37, Tryz.ntmps37
    go_upto_region 17 with (first
      | (go_at_call_of 35 (Value.int IntKind.i64 1); refine (HN1.out _).mono ?_; rintro e w1 ⟨rfl, k1⟩; have I : Hid (RtAt 72 36 w.heap.size w q (Ob.zero) w1) := RtAt.start k1; clear k1; obtain ⟨a0, a1, a2, a3, a4, a5⟩ := cells3 I.out.b0; obtain ⟨c0, c1, c2, c3, c4, c5, c6, c7, c8⟩ := cells9 I.out.b3; have f0 := frozen9 I.out.b3 0)
      | (go_at_call 78; refine (HST.out _).mono ?_; clear HST; rintro e w2 ⟨rfl, k2⟩; replace I : Hid (RtAt 72 36 w.heap.size w r1 (Ob.mk 4 ⟨0, 0⟩ 0 0 ⟨#[]⟩ false ⟨#[]⟩ 0) w2) := ((I.out.setR r1).setO 0 (.int .i64 4) (Ob.mk 4 ⟨0, 0⟩ 0 0 ⟨#[]⟩ false ⟨#[]⟩ 0) (by rw [heap_setCell_same _ _ _ _ _ _ ((I.out.setR r1)).b3]; rfl)).step k2; clear a0 a1 a2 a3 a4 a5 c0 c1 c2 c3 c4 c5 c6 c7 c8; clear f0; clear k2; obtain ⟨a0, a1, a2, a3, a4, a5⟩ := cells3 I.out.b0; obtain ⟨c0, c1, c2, c3, c4, c5, c6, c7, c8⟩ := cells9 I.out.b3; have f1 := frozen9 I.out.b3 1; have f2 := frozen9 I.out.b3 2)
      | (go_at_call_of 35 (Value.int IntKind.i64 8); refine (HN8.out _).mono ?_; clear HN8; rintro e w3 ⟨rfl, k3⟩; replace I : Hid (RtAt 72 36 w.heap.size w r2 (Ob.mk 4 ⟨c, k⟩ 0 0 ⟨#[]⟩ false ⟨#[]⟩ 0) w3) := ((I.out.setR r2).setTm c k).step k3; clear a0 a1 a2 a3 a4 a5 c0 c1 c2 c3 c4 c5 c6 c7 c8; clear f1; clear f2; clear k3; obtain ⟨a0, a1, a2, a3, a4, a5⟩ := cells3 I.out.b0; obtain ⟨c0, c1, c2, c3, c4, c5, c6, c7, c8⟩ := cells9 I.out.b3; have f3 := frozen9 I.out.b3 3)
      | (go_at_call 36; refine (HBy.out _).mono ?_; clear HBy; rintro e w4 ⟨rfl, k4⟩; replace I : Hid (RtAt 72 36 w.heap.size w r3 (Ob.mk 4 ⟨c, k⟩ th 0 ⟨#[]⟩ false ⟨#[]⟩ 0) w4) := ((I.out.setR r3).setO 3 (.int .u64 th) (Ob.mk 4 ⟨c, k⟩ th 0 ⟨#[]⟩ false ⟨#[]⟩ 0) (by rw [heap_setCell_same _ _ _ _ _ _ ((I.out.setR r3)).b3]; rfl)).step k4; clear a0 a1 a2 a3 a4 a5 c0 c1 c2 c3 c4 c5 c6 c7 c8; clear f3; clear k4; obtain ⟨a0, a1, a2, a3, a4, a5⟩ := cells3 I.out.b0; obtain ⟨c0, c1, c2, c3, c4, c5, c6, c7, c8⟩ := cells9 I.out.b3; have f7 := frozen9 I.out.b3 7)
      | (go_at_call 81; refine (HCo.out _).mono ?_; clear HCo; rintro e w5 ⟨rfl, k5⟩; replace I : Hid (RtAt 72 36 w.heap.size w r4 (Ob.mk 4 ⟨c, k⟩ th 0 ⟨#[]⟩ false g 0) w5) := ((I.out.setR r4).setO 7 (.string g) (Ob.mk 4 ⟨c, k⟩ th 0 ⟨#[]⟩ false g 0) (by rw [heap_setCell_same _ _ _ _ _ _ ((I.out.setR r4)).b3]; rfl)).step k5; clear a0 a1 a2 a3 a4 a5 c0 c1 c2 c3 c4 c5 c6 c7 c8; clear f7; clear k5; obtain ⟨a0, a1, a2, a3, a4, a5⟩ := cells3 I.out.b0; obtain ⟨c0, c1, c2, c3, c4, c5, c6, c7, c8⟩ := cells9 I.out.b3; have f8 := frozen9 I.out.b3 8))
    obtain ⟨W, hW⟩ : ∃ W, W = (((w5.setCell ⟨w.heap.size, 0, none⟩ (.string r5.s)).setCell ⟨w.heap.size, 1, none⟩ (.int .i64 r5.pos)).setCell ⟨w.heap.size, 2, none⟩ (.int .i64 r5.err)).setCell ⟨w.heap.size + 1 + 1 + 1, 8, none⟩ (.int .i64 z) := ⟨_, rfl⟩
    rw [← hW]
    have HZ : Hid (RtAt 72 36 w.heap.size w r5 (Ob.mk 4 ⟨c, k⟩ th 0 ⟨#[]⟩ false g z) W) := by rw [hW]; exact ((I.out.setR r5).setO 8 (.int .i64 z) (Ob.mk 4 ⟨c, k⟩ th 0 ⟨#[]⟩ false g z) (by rw [heap_setCell_same _ _ _ _ _ _ ((I.out.setR r5)).b3]; rfl))
    clear hW a0 a1 a2 a3 a4 a5 c0 c1 c2 c3 c4 c5 c6 c7 c8 f8 I
    obtain ⟨a0, a1, a2, a3, a4, a5⟩ := cells3 HZ.out.b0
    go_wp2_with (first
      | (refine wpList_store_row rfl 72 _ _ rfl (w.heap.size + 1) _ rfl rfl 72 _ HZ.out.b1 infoRef rfl (by simp [Value.oneCell']) ?_)
      | (refine wpList_store_row rfl 36 _ _ rfl (w.heap.size + 2) _ rfl rfl 36 _ ((setRow_other _ _ _ _ (by omega)).trans HZ.out.b2) infoROp rfl (by simp [Value.oneCell']) ?_))
    obtain ⟨z1, z2, z3⟩ := HZ.out.done (rcs r5) Ob.zero.cs
    exact bodyPost_ret (results_cells2 Tryz.results37 _ _ _ _ _ (0, 0) _ rfl z1 Tryz.underlying72 rfl infoRef _ _ _ (0, 0) _ rfl z2 Tryz.underlying36 rfl infoROp) rfl ⟨rfl, z3⟩
end Go.Proofs.YtcdmdpafkiljdaaGreatDoor
/- Contract: an operation off a reader, the document's. -/
namespace Go.Proofs.YtcdmdpafkiljdaaGreatDoor
open Go.RowKit Go.Wire Go.Stamp Go.Opn
theorem St.tm_nonneg (q : St) : 0 ≤ q.stamp.2.c := by
  have h := q.read_fits
  have e : ∀ r : St, 0 ≤ (if r.err = 0 then q.read else (⟨0, 0⟩ : Tm)).c := fun r => by
    split
    · exact h.2.2.2
    · exact Int.le_refl _
  exact e _
theorem rtakeOp_any (q : St) (w : World) (hq : q.pos ≤ q.s.size) (hs : q.s.size ≤ maxLen) :
    Calls Tryz.prog 37 #[q.v] w fun e w' => e = .returned (.tuple #[q.op.1.v, q.op.2.v]) ∧ Below w.heap.size w w' := by
  have z1 : q.r1.1.s.size ≤ maxLen := by unfold St.r1; rw [St.number_s]; exact hs
  have z2 : q.r2.1.s.size ≤ maxLen := by unfold St.r2; rw [St.stamp_s]; exact z1
  have z3 : q.r3.1.s.size ≤ maxLen := by rw [St.r3_s]; exact hs
  have p1 := q.r1_le hq
  have p2 := q.r2_le hq
  have p3 := q.r3_le hq
  have ht : 0 ≤ q.r2.2.c := St.tm_nonneg q.r1.1
  have HST : Hid (∀ w, Calls Tryz.prog 78 #[q.r1.1.v] w fun e w' => e = .returned (.tuple #[q.r2.1.v, q.r2.2.v]) ∧ Below w.heap.size w w') := fun w => rtake_any q.r1.1 w p1 z1
  have HN8 : Hid (∀ w, Calls Tryz.prog 35 #[q.r2.1.v, .int .i64 8] w fun e w' => e = .returned (.tuple #[q.r3.1.v, .int .u64 (q.r3.2 : Nat)]) ∧ Below w.heap.size w w') := fun w => rnumber_any q.r2.1 8 w p2 z2
  have HN1 : ∀ w, Calls Tryz.prog 35 #[q.v, .int .i64 1] w fun e w' => e = .returned (.tuple #[q.r1.1.v, .int .u64 (q.r1.2 : Nat)]) ∧ Below w.heap.size w w' := fun w => rnumber_any q 1 w hq hs
  have hk : q.r1.2 < 256 := q.number_lt 1 (by decide)
  by_cases k1 : q.r1.2 = 1
  · rw [St.op_of q (St.raw1 q k1)]
    rw [k1] at HN1
    have pb := q.r3.1.bool_le p3
    have pn := q.r3.1.bool.1.number_le 8 (by rw [St.bool_s]; exact pb)
    exact rtake_1 q q.r1.1 q.r2.1 q.r3.1 _ _ _ _ _ _ q.r2.2 q.r3.2 w HN1 HST HN8
      (fun w => rbool_any q.r3.1 w p3 z3)
      (fun w => rnumber_any q.r3.1.bool.1 8 w (by rw [St.bool_s]; exact pb) (by rw [St.bool_s]; exact z3))
      (fun w => rtext_any (q.r3.1.bool.1.number 8).1 32 w (by rw [St.number_s]; exact pn) (by rw [St.number_s, St.bool_s]; exact z3) (by decide))
      _ (fun w => rcheckOp_any _ ht w)
  by_cases k2 : q.r1.2 = 2
  · rw [St.op_of q (St.raw2 q k2)]
    rw [k2] at HN1
    have pn := q.r3.1.number_le 8 p3
    exact rtake_2 q q.r1.1 q.r2.1 q.r3.1 _ _ _ _ q.r2.2 q.r3.2 w HN1 HST HN8
      (fun w => rnumber_any q.r3.1 8 w p3 z3)
      (fun w => rtext_any (q.r3.1.number 8).1 32 w (by rw [St.number_s]; exact pn) (by rw [St.number_s]; exact z3) (by decide))
      _ (fun w => rcheckOp_any _ ht w)
  by_cases k4 : q.r1.2 = 4
  · rw [St.op_of q (St.raw4 q k4)]
    rw [k4] at HN1
    have pn := q.r3.1.bytes_le 32 p3
    exact rtake_4 q q.r1.1 q.r2.1 q.r3.1 _ _ _ _ q.r2.2 q.r3.2 w HN1 HST HN8
      (fun w => rbytes_any q.r3.1 32 w p3 z3)
      (fun w => rcount_any (q.r3.1.bytes 32).1 8192 w (by rw [St.bytes_s]; exact pn) (by rw [St.bytes_s]; exact z3) (by decide))
      _ (fun w => rcheckOp_any _ ht w)
  · rw [St.op_of q (St.raw0 q k1 k2 k4)]
    exact rtake_0 q q.r1.1 q.r2.1 q.r3.1 q.r1.2 q.r2.2 q.r3.2 w hk k1 k2 k4 HN1 HST HN8 _ (fun w => rcheckOp_any _ ht w)
end Go.Proofs.YtcdmdpafkiljdaaGreatDoor
