/- Contract: a change of files is done to both disks. -/
import Derived.Test.YtnjkahoaogeecaaDiskBoth
namespace Go.Dk
open Go.RowKit
theorem crash_room (a : A) (k t : Int) : (a.crash k t).room = a.room := by
  unfold A.crash
  split <;> rfl
theorem change_room {a b : A} (h : b.room = a.room) : (a.change b).1.room = a.room := by
  unfold A.change
  split
  · rw [crash_room]
  · exact h
theorem doPut_room (a : A) (n : Bs) (p : Pt) : (a.doPut n p).1.room = a.room := by
  unfold A.doPut
  split
  · rfl
  · generalize holdsOf a _ = b
    cases b
    · rfl
    · exact change_room rfl
theorem doMove_room (a : A) (n m : Bs) : (a.doMove n m).1.room = a.room := by
  unfold A.doMove
  split
  · rfl
  · split
    · rfl
    · split
      · rfl
      · split
        · rfl
        · exact change_room rfl
theorem doRemove_room (a : A) (n : Bs) : (a.doRemove n).1.room = a.room := by
  unfold A.doRemove
  split
  · rfl
  · split
    · rfl
    · exact change_room rfl
theorem doTrunc_room (a : A) (n : Bs) (k : Int) : (a.doTrunc n k).1.room = a.room := by
  unfold A.doTrunc
  split
  · rfl
  · split
    · rfl
    · split
      · rfl
      · exact change_room rfl
theorem doSync_room (a : A) : a.doSync.1.room = a.room := by
  unfold A.doSync
  split <;> rfl
theorem cells8 {w : World} {g : Nat} {a b c d e f x y : Value} {T : TypeId} (h : w.heap[g]? = some (.cells #[a, b, c, d, e, f, x, y] T (0, 0))) :
    w.cell? ⟨g, 0, none⟩ = some a ∧ w.cell? ⟨g, 1, none⟩ = some b ∧ w.cell? ⟨g, 2, none⟩ = some c ∧ w.cell? ⟨g, 3, none⟩ = some d ∧ w.cell? ⟨g, 4, none⟩ = some e ∧ w.cell? ⟨g, 5, none⟩ = some f ∧ w.cell? ⟨g, 6, none⟩ = some x ∧ w.cell? ⟨g, 7, none⟩ = some y :=
  ⟨cell_of_row _ _ _ _ _ _ h, cell_of_row _ _ _ _ _ _ h, cell_of_row _ _ _ _ _ _ h, cell_of_row _ _ _ _ _ _ h, cell_of_row _ _ _ _ _ _ h, cell_of_row _ _ _ _ _ _ h, cell_of_row _ _ _ _ _ _ h, cell_of_row _ _ _ _ _ _ h⟩
theorem results_three {P : Program} {fn : Func} {p u v : Tmp} {ty : TypeId} (h : fn.results = #[.cell p ty, .tmp u, .tmp v]) (tmps : Array Value) (w : World) (g : Nat) (t : TypeId) (cs : Array Value) (fr : Nat × Nat) (d : TypeDesc)
    (hp : tmps.getD p undef = .pointer (some ⟨g, 0, none⟩)) (hg : w.heap[g]? = some (.cells cs t fr))
    (hu : P.underlying ty = some d) (hd : (match d with | .struct _ | .array _ _ => true | _ => false) = true) (hi : (P.info? ty).map (·.size) = some cs.size) :
    (results fn tmps).run P w = .ok (.tuple #[.agg cs, tmps.getD u undef, tmps.getD v undef]) w := by
  unfold results
  rw [h]
  rw [Array.getD_eq_getD_getElem?] at hp
  simp [hp, asAddr, Result.andThen, run_loadVar_row w g t ty cs fr d hg hu hd hi]
/-- What a change of files leaves of both, and what both tell. -/
def Filed (P : Program) (base K d : Nat) (w : World) (_D : RD) (r : A × Int) (e : Ending) (w' : World) : Prop :=
  ∃ T D', e = .returned (.tuple #[sideV d D', .int .i64 r.2, .int .i64 r.2]) ∧ Both P base (K + 1) d w' T D' ∧ D'.a = r.1 ∧ Dsk base w w'
end Go.Dk
namespace Go.Proofs.Ytnjkahoaogeecaa
open Go.RowKit Go.Dk
set_option maxRecDepth 100000 in
set_option maxHeartbeats 4000000 in
theorem files_2 (base K d : Nat) (S : WD) (D : RD) (a : Ac) (w : World) (h : Both Try.prog base K d w S D) (hf : a.Fits) (hK : K + 1 ≤ 100000) (hk : a.kind = 2) : Calls Try.prog 33 #[sideV d D, a.v] w (Filed Try.prog base K d w D (D.a.doMove a.name.data.toList a.dst.data.toList)) := by
  obtain ⟨la, lc, hlv⟩ := Sees.form h.ref.falls
  obtain ⟨fa, fc, hfv⟩ := Sees.form h.ref.files
  have HV : D.v = .agg #[.slice fa D.rs.length fc, .int .i64 D.a.room, .slice la (flen D.a.fall) lc, .int .i64 D.a.changes, .bool D.a.down] := by unfold RD.v RD.cs; rw [hfv, hlv]
  have hname : a.name.size ≤ maxLen := by unfold maxLen; exact hf.name
  have hdst : a.dst.size ≤ maxLen := by unfold maxLen; exact hf.dst
  have HW : Hid ((((w.alloc (.cells #[.pointer (some ⟨d, 0, none⟩), .slice fa D.rs.length fc, .int .i64 D.a.room, .slice la (flen D.a.fall) lc, .int .i64 D.a.changes, .bool D.a.down] 29)).alloc (.cells #[.int .i64 2, .string a.name, .string a.dst, .string a.s, .int .i64 a.n, .int .i64 a.f.on, .int .i64 a.f.keep, .int .i64 a.f.torn] 36)).alloc (.cells #[Value.pointer none, Value.slice none 0 0, Value.int IntKind.i64 0, Value.slice none 0 0, Value.int IntKind.i64 0, Value.bool false] 29)).heap[w.heap.size]? = some (.cells #[.pointer (some ⟨d, 0, none⟩), .slice fa D.rs.length fc, .int .i64 D.a.room, .slice la (flen D.a.fall) lc, .int .i64 D.a.changes, .bool D.a.down] 29 (0, 0)) ∧ (((w.alloc (.cells #[.pointer (some ⟨d, 0, none⟩), .slice fa D.rs.length fc, .int .i64 D.a.room, .slice la (flen D.a.fall) lc, .int .i64 D.a.changes, .bool D.a.down] 29)).alloc (.cells #[.int .i64 2, .string a.name, .string a.dst, .string a.s, .int .i64 a.n, .int .i64 a.f.on, .int .i64 a.f.keep, .int .i64 a.f.torn] 36)).alloc (.cells #[Value.pointer none, Value.slice none 0 0, Value.int IntKind.i64 0, Value.slice none 0 0, Value.int IntKind.i64 0, Value.bool false] 29)).heap[w.heap.size + 1]? = some (.cells #[.int .i64 2, .string a.name, .string a.dst, .string a.s, .int .i64 a.n, .int .i64 a.f.on, .int .i64 a.f.keep, .int .i64 a.f.torn] 36 (0, 0)) ∧ (((w.alloc (.cells #[.pointer (some ⟨d, 0, none⟩), .slice fa D.rs.length fc, .int .i64 D.a.room, .slice la (flen D.a.fall) lc, .int .i64 D.a.changes, .bool D.a.down] 29)).alloc (.cells #[.int .i64 2, .string a.name, .string a.dst, .string a.s, .int .i64 a.n, .int .i64 a.f.on, .int .i64 a.f.keep, .int .i64 a.f.torn] 36)).alloc (.cells #[Value.pointer none, Value.slice none 0 0, Value.int IntKind.i64 0, Value.slice none 0 0, Value.int IntKind.i64 0, Value.bool false] 29)).heap[w.heap.size + 2]? = some (.cells #[Value.pointer none, Value.slice none 0 0, Value.int IntKind.i64 0, Value.slice none 0 0, Value.int IntKind.i64 0, Value.bool false] 29 (0, 0)) ∧ Below w.heap.size w (((w.alloc (.cells #[.pointer (some ⟨d, 0, none⟩), .slice fa D.rs.length fc, .int .i64 D.a.room, .slice la (flen D.a.fall) lc, .int .i64 D.a.changes, .bool D.a.down] 29)).alloc (.cells #[.int .i64 2, .string a.name, .string a.dst, .string a.s, .int .i64 a.n, .int .i64 a.f.on, .int .i64 a.f.keep, .int .i64 a.f.torn] 36)).alloc (.cells #[Value.pointer none, Value.slice none 0 0, Value.int IntKind.i64 0, Value.slice none 0 0, Value.int IntKind.i64 0, Value.bool false] 29))) := three_below (Below.refl _ _)
  have hW := h.below HW.out.2.2.2
  have HPROG : Hid (Calls Try.prog 15 #[.pointer (some ⟨d, 0, none⟩), .string a.name, .string a.dst] (((w.alloc (.cells #[.pointer (some ⟨d, 0, none⟩), .slice fa D.rs.length fc, .int .i64 D.a.room, .slice la (flen D.a.fall) lc, .int .i64 D.a.changes, .bool D.a.down] 29)).alloc (.cells #[.int .i64 2, .string a.name, .string a.dst, .string a.s, .int .i64 a.n, .int .i64 a.f.on, .int .i64 a.f.keep, .int .i64 a.f.torn] 36)).alloc (.cells #[Value.pointer none, Value.slice none 0 0, Value.int IntKind.i64 0, Value.slice none 0 0, Value.int IntKind.i64 0, Value.bool false] 29)) (Did Try.prog base (K + 1) d (((w.alloc (.cells #[.pointer (some ⟨d, 0, none⟩), .slice fa D.rs.length fc, .int .i64 D.a.room, .slice la (flen D.a.fall) lc, .int .i64 D.a.changes, .bool D.a.down] 29)).alloc (.cells #[.int .i64 2, .string a.name, .string a.dst, .string a.s, .int .i64 a.n, .int .i64 a.f.on, .int .i64 a.f.keep, .int .i64 a.f.torn] 36)).alloc (.cells #[Value.pointer none, Value.slice none 0 0, Value.int IntKind.i64 0, Value.slice none 0 0, Value.int IntKind.i64 0, Value.bool false] 29)) (D.a.doMove a.name.data.toList a.dst.data.toList))) := by
    have := move_op base K d S a.name a.dst _ hW.disk hW.start hK hname hdst
    rw [h.same] at this
    exact this
  have HREF : Hid (∀ w1, Dsk base (((w.alloc (.cells #[.pointer (some ⟨d, 0, none⟩), .slice fa D.rs.length fc, .int .i64 D.a.room, .slice la (flen D.a.fall) lc, .int .i64 D.a.changes, .bool D.a.down] 29)).alloc (.cells #[.int .i64 2, .string a.name, .string a.dst, .string a.s, .int .i64 a.n, .int .i64 a.f.on, .int .i64 a.f.keep, .int .i64 a.f.torn] 36)).alloc (.cells #[Value.pointer none, Value.slice none 0 0, Value.int IntKind.i64 0, Value.slice none 0 0, Value.int IntKind.i64 0, Value.bool false] 29)) w1 → Calls Try.prog 55 #[.agg #[.slice fa D.rs.length fc, .int .i64 D.a.room, .slice la (flen D.a.fall) lc, .int .i64 D.a.changes, .bool D.a.down], .string a.name, .string a.dst] w1 fun e w' => ∃ D' : RD, e = .returned (.tuple #[D'.v, .int .i64 (D.a.doMove a.name.data.toList a.dst.data.toList).2]) ∧ D'.a = (D.a.doMove a.name.data.toList a.dst.data.toList).1 ∧ RefAt (K + 1) w' D' ∧ Below w1.heap.size w1 w') := fun w1 hk1 => by
    rw [← HV]
    exact rmove_any K D a.name a.dst w1 (hW.ref.dsk hk1) hK hname hdst
  have HMAKE : Hid (∀ (T : WD) (D' : RD) w1 w2, T.a = (D.a.doMove a.name.data.toList a.dst.data.toList).1 → DiskAt Try.prog base (K + 1) d w1 T → D'.a = (D.a.doMove a.name.data.toList a.dst.data.toList).1 → RefAt (K + 1) w2 D' → Below w1.heap.size w1 w2 → Dsk base (((w.alloc (.cells #[.pointer (some ⟨d, 0, none⟩), .slice fa D.rs.length fc, .int .i64 D.a.room, .slice la (flen D.a.fall) lc, .int .i64 D.a.changes, .bool D.a.down] 29)).alloc (.cells #[.int .i64 2, .string a.name, .string a.dst, .string a.s, .int .i64 a.n, .int .i64 a.f.on, .int .i64 a.f.keep, .int .i64 a.f.torn] 36)).alloc (.cells #[Value.pointer none, Value.slice none 0 0, Value.int IntKind.i64 0, Value.slice none 0 0, Value.int IntKind.i64 0, Value.bool false] 29)) w1 → Both Try.prog base (K + 1) d w2 T D') := fun T D' w1 w2 h1 h2 h3 h4 h5 h6 => ⟨h2.below h5, h4, h1.trans h3.symm, Nat.le_trans hW.start (Nat.le_trans h6.size h5.size), by rw [h3, doMove_room]; exact h.room⟩
  have HEND : Hid (∀ (T : WD) (D' : RD) w', Both Try.prog base (K + 1) d w' T D' → D'.a = (D.a.doMove a.name.data.toList a.dst.data.toList).1 → Dsk base w w' → Filed Try.prog base K d w D (D.a.doMove a.name.data.toList a.dst.data.toList) (.returned (.tuple #[sideV d D', .int .i64 (D.a.doMove a.name.data.toList a.dst.data.toList).2, .int .i64 (D.a.doMove a.name.data.toList a.dst.data.toList).2])) w') := fun T D' w' h1 h2 h3 => ⟨T, D', rfl, h1, h2, h3⟩
  generalize D.a.doMove a.name.data.toList a.dst.data.toList = R at *
  unfold RD.v RD.cs at HREF
  generalize hX : Filed Try.prog base K d w D R = X at *
  clear hX HV h hW
  unfold sideV sideCs Ac.v Ac.cs
  rw [hfv, hlv, hk]
  clear hfv hlv hk
  unfold Did at HPROG
  go_enter Try.func33, Try.ntmps33
  go_wp2_with (first
    | (go_at_call 15; refine (HPROG.out).mono ?_; rintro e w1 ⟨rfl, T, hT, hD1, hk1⟩; have HQ := hide (And.intro (box_kept hk1 HW.out.1 (by simp [dkind])) (And.intro (box_kept hk1 HW.out.2.1 (by simp [dkind])) (And.intro (box_kept hk1 HW.out.2.2.1 (by simp [dkind])) (And.intro hT (And.intro hD1 hk1))))); clear hT hD1 hk1; obtain ⟨c0, c1, c2, c3, c4, c5⟩ := cells6s HQ.out.1; obtain ⟨f0, f1, f2, f3, f4, f5⟩ := frozen6s HQ.out.1; obtain ⟨g0, g1, g2, g3, g4, g5, g6, g7⟩ := cells8 HQ.out.2.1; obtain ⟨d0, d1, d2, d3, d4, d5⟩ := cells6s HQ.out.2.2.1; obtain ⟨e0, e1, e2, e3, e4, e5⟩ := frozen6s HQ.out.2.2.1)
    | (go_at_call 55; refine (HREF.out _ HQ.out.2.2.2.2.2).mono ?_; rintro e w2 ⟨D', rfl, ha, hr, k2⟩; obtain ⟨fa', fc', hfv'⟩ := Sees.form hr.files; obtain ⟨la', lc', hlv'⟩ := Sees.form hr.falls; have HP := hide (And.intro (row_kept HQ.out.1 k2) (And.intro (row_kept HQ.out.2.2.1 k2) (And.intro ha (And.intro hr k2)))); clear ha hr k2; obtain ⟨c0, c1, c2, c3, c4, c5⟩ := cells6s HP.out.1; obtain ⟨f0, f1, f2, f3, f4, f5⟩ := frozen6s HP.out.1; obtain ⟨d0, d1, d2, d3, d4, d5⟩ := cells6s HP.out.2.1; obtain ⟨e0, e1, e2, e3, e4, e5⟩ := frozen6s HP.out.2.1))
  have hBoth : Both Try.prog base (K + 1) d w2 T D' := HMAKE.out T D' w1 w2 HQ.out.2.2.2.1 HQ.out.2.2.2.2.1 HP.out.2.2.1 HP.out.2.2.2.1 HP.out.2.2.2.2 HQ.out.2.2.2.2.2
  have hDsk : Dsk base w w2 := (Dsk.of_below HW.out.2.2.2).trans (HQ.out.2.2.2.2.2.trans (Dsk.of_below HP.out.2.2.2.2))
  have t1 := tch_put5 w2 w.heap.size (Value.slice fa' D'.rs.length fc') (.int .i64 D'.a.room) (.slice la' (flen D'.a.fall) lc') (.int .i64 D'.a.changes) (.bool D'.a.down)
  have r4 := tch_kept HP.out.2.1 t1 (by omega)
  have t2 := tch_set6 (put5 w2 w.heap.size (Value.slice fa' D'.rs.length fc') (.int .i64 D'.a.room) (.slice la' (flen D'.a.fall) lc') (.int .i64 D'.a.changes) (.bool D'.a.down)) (w.heap.size + 2) (.pointer (some ⟨d, 0, none⟩)) (Value.slice fa' D'.rs.length fc') (.int .i64 D'.a.room) (.slice la' (flen D'.a.fall) lc') (.int .i64 D'.a.changes) (.bool D'.a.down)
  refine bodyPost_ret (results_three Try.results33 _ _ _ 29 _ (0, 0) _ rfl (set6 r4 _ _ _ _ _ _) Try.underlying29 rfl infoSide) rfl ?_
  have := HEND.out T D' _ ((hBoth.turned HP.out.1 t1).turned r4 t2) HP.out.2.2.1 ((hDsk.own (Nat.le_refl _) t1).own (Nat.le_add_right _ 2) t2)
  unfold sideV sideCs at this
  rw [hfv', hlv'] at this
  exact this
set_option maxRecDepth 100000 in
set_option maxHeartbeats 4000000 in
theorem files_3 (base K d : Nat) (S : WD) (D : RD) (a : Ac) (w : World) (h : Both Try.prog base K d w S D) (hf : a.Fits) (hK : K + 1 ≤ 100000) (hk : a.kind = 3) : Calls Try.prog 33 #[sideV d D, a.v] w (Filed Try.prog base K d w D (D.a.doRemove a.name.data.toList)) := by
  obtain ⟨la, lc, hlv⟩ := Sees.form h.ref.falls
  obtain ⟨fa, fc, hfv⟩ := Sees.form h.ref.files
  have HV : D.v = .agg #[.slice fa D.rs.length fc, .int .i64 D.a.room, .slice la (flen D.a.fall) lc, .int .i64 D.a.changes, .bool D.a.down] := by unfold RD.v RD.cs; rw [hfv, hlv]
  have hname : a.name.size ≤ maxLen := by unfold maxLen; exact hf.name
  have hdst : a.dst.size ≤ maxLen := by unfold maxLen; exact hf.dst
  have HW : Hid ((((w.alloc (.cells #[.pointer (some ⟨d, 0, none⟩), .slice fa D.rs.length fc, .int .i64 D.a.room, .slice la (flen D.a.fall) lc, .int .i64 D.a.changes, .bool D.a.down] 29)).alloc (.cells #[.int .i64 3, .string a.name, .string a.dst, .string a.s, .int .i64 a.n, .int .i64 a.f.on, .int .i64 a.f.keep, .int .i64 a.f.torn] 36)).alloc (.cells #[Value.pointer none, Value.slice none 0 0, Value.int IntKind.i64 0, Value.slice none 0 0, Value.int IntKind.i64 0, Value.bool false] 29)).heap[w.heap.size]? = some (.cells #[.pointer (some ⟨d, 0, none⟩), .slice fa D.rs.length fc, .int .i64 D.a.room, .slice la (flen D.a.fall) lc, .int .i64 D.a.changes, .bool D.a.down] 29 (0, 0)) ∧ (((w.alloc (.cells #[.pointer (some ⟨d, 0, none⟩), .slice fa D.rs.length fc, .int .i64 D.a.room, .slice la (flen D.a.fall) lc, .int .i64 D.a.changes, .bool D.a.down] 29)).alloc (.cells #[.int .i64 3, .string a.name, .string a.dst, .string a.s, .int .i64 a.n, .int .i64 a.f.on, .int .i64 a.f.keep, .int .i64 a.f.torn] 36)).alloc (.cells #[Value.pointer none, Value.slice none 0 0, Value.int IntKind.i64 0, Value.slice none 0 0, Value.int IntKind.i64 0, Value.bool false] 29)).heap[w.heap.size + 1]? = some (.cells #[.int .i64 3, .string a.name, .string a.dst, .string a.s, .int .i64 a.n, .int .i64 a.f.on, .int .i64 a.f.keep, .int .i64 a.f.torn] 36 (0, 0)) ∧ (((w.alloc (.cells #[.pointer (some ⟨d, 0, none⟩), .slice fa D.rs.length fc, .int .i64 D.a.room, .slice la (flen D.a.fall) lc, .int .i64 D.a.changes, .bool D.a.down] 29)).alloc (.cells #[.int .i64 3, .string a.name, .string a.dst, .string a.s, .int .i64 a.n, .int .i64 a.f.on, .int .i64 a.f.keep, .int .i64 a.f.torn] 36)).alloc (.cells #[Value.pointer none, Value.slice none 0 0, Value.int IntKind.i64 0, Value.slice none 0 0, Value.int IntKind.i64 0, Value.bool false] 29)).heap[w.heap.size + 2]? = some (.cells #[Value.pointer none, Value.slice none 0 0, Value.int IntKind.i64 0, Value.slice none 0 0, Value.int IntKind.i64 0, Value.bool false] 29 (0, 0)) ∧ Below w.heap.size w (((w.alloc (.cells #[.pointer (some ⟨d, 0, none⟩), .slice fa D.rs.length fc, .int .i64 D.a.room, .slice la (flen D.a.fall) lc, .int .i64 D.a.changes, .bool D.a.down] 29)).alloc (.cells #[.int .i64 3, .string a.name, .string a.dst, .string a.s, .int .i64 a.n, .int .i64 a.f.on, .int .i64 a.f.keep, .int .i64 a.f.torn] 36)).alloc (.cells #[Value.pointer none, Value.slice none 0 0, Value.int IntKind.i64 0, Value.slice none 0 0, Value.int IntKind.i64 0, Value.bool false] 29))) := three_below (Below.refl _ _)
  have hW := h.below HW.out.2.2.2
  have HPROG : Hid (Calls Try.prog 28 #[.pointer (some ⟨d, 0, none⟩), .string a.name] (((w.alloc (.cells #[.pointer (some ⟨d, 0, none⟩), .slice fa D.rs.length fc, .int .i64 D.a.room, .slice la (flen D.a.fall) lc, .int .i64 D.a.changes, .bool D.a.down] 29)).alloc (.cells #[.int .i64 3, .string a.name, .string a.dst, .string a.s, .int .i64 a.n, .int .i64 a.f.on, .int .i64 a.f.keep, .int .i64 a.f.torn] 36)).alloc (.cells #[Value.pointer none, Value.slice none 0 0, Value.int IntKind.i64 0, Value.slice none 0 0, Value.int IntKind.i64 0, Value.bool false] 29)) (Did Try.prog base (K + 1) d (((w.alloc (.cells #[.pointer (some ⟨d, 0, none⟩), .slice fa D.rs.length fc, .int .i64 D.a.room, .slice la (flen D.a.fall) lc, .int .i64 D.a.changes, .bool D.a.down] 29)).alloc (.cells #[.int .i64 3, .string a.name, .string a.dst, .string a.s, .int .i64 a.n, .int .i64 a.f.on, .int .i64 a.f.keep, .int .i64 a.f.torn] 36)).alloc (.cells #[Value.pointer none, Value.slice none 0 0, Value.int IntKind.i64 0, Value.slice none 0 0, Value.int IntKind.i64 0, Value.bool false] 29)) (D.a.doRemove a.name.data.toList))) := by
    have := remove_op base K d S a.name _ hW.disk hW.start hK hname
    rw [h.same] at this
    exact this
  have HREF : Hid (∀ w1, Dsk base (((w.alloc (.cells #[.pointer (some ⟨d, 0, none⟩), .slice fa D.rs.length fc, .int .i64 D.a.room, .slice la (flen D.a.fall) lc, .int .i64 D.a.changes, .bool D.a.down] 29)).alloc (.cells #[.int .i64 3, .string a.name, .string a.dst, .string a.s, .int .i64 a.n, .int .i64 a.f.on, .int .i64 a.f.keep, .int .i64 a.f.torn] 36)).alloc (.cells #[Value.pointer none, Value.slice none 0 0, Value.int IntKind.i64 0, Value.slice none 0 0, Value.int IntKind.i64 0, Value.bool false] 29)) w1 → Calls Try.prog 56 #[.agg #[.slice fa D.rs.length fc, .int .i64 D.a.room, .slice la (flen D.a.fall) lc, .int .i64 D.a.changes, .bool D.a.down], .string a.name, .int .i64 (-1), .bool true] w1 fun e w' => ∃ D' : RD, e = .returned (.tuple #[D'.v, .int .i64 (D.a.doRemove a.name.data.toList).2]) ∧ D'.a = (D.a.doRemove a.name.data.toList).1 ∧ RefAt (K + 1) w' D' ∧ Below w1.heap.size w1 w') := fun w1 hk1 => by
    rw [← HV]
    exact rcut_any K D a.name (-1) true w1 (hW.ref.dsk hk1) hK hname
  have HMAKE : Hid (∀ (T : WD) (D' : RD) w1 w2, T.a = (D.a.doRemove a.name.data.toList).1 → DiskAt Try.prog base (K + 1) d w1 T → D'.a = (D.a.doRemove a.name.data.toList).1 → RefAt (K + 1) w2 D' → Below w1.heap.size w1 w2 → Dsk base (((w.alloc (.cells #[.pointer (some ⟨d, 0, none⟩), .slice fa D.rs.length fc, .int .i64 D.a.room, .slice la (flen D.a.fall) lc, .int .i64 D.a.changes, .bool D.a.down] 29)).alloc (.cells #[.int .i64 3, .string a.name, .string a.dst, .string a.s, .int .i64 a.n, .int .i64 a.f.on, .int .i64 a.f.keep, .int .i64 a.f.torn] 36)).alloc (.cells #[Value.pointer none, Value.slice none 0 0, Value.int IntKind.i64 0, Value.slice none 0 0, Value.int IntKind.i64 0, Value.bool false] 29)) w1 → Both Try.prog base (K + 1) d w2 T D') := fun T D' w1 w2 h1 h2 h3 h4 h5 h6 => ⟨h2.below h5, h4, h1.trans h3.symm, Nat.le_trans hW.start (Nat.le_trans h6.size h5.size), by rw [h3, doRemove_room]; exact h.room⟩
  have HEND : Hid (∀ (T : WD) (D' : RD) w', Both Try.prog base (K + 1) d w' T D' → D'.a = (D.a.doRemove a.name.data.toList).1 → Dsk base w w' → Filed Try.prog base K d w D (D.a.doRemove a.name.data.toList) (.returned (.tuple #[sideV d D', .int .i64 (D.a.doRemove a.name.data.toList).2, .int .i64 (D.a.doRemove a.name.data.toList).2])) w') := fun T D' w' h1 h2 h3 => ⟨T, D', rfl, h1, h2, h3⟩
  generalize D.a.doRemove a.name.data.toList = R at *
  unfold RD.v RD.cs at HREF
  generalize hX : Filed Try.prog base K d w D R = X at *
  clear hX HV h hW
  unfold sideV sideCs Ac.v Ac.cs
  rw [hfv, hlv, hk]
  clear hfv hlv hk
  unfold Did at HPROG
  go_enter Try.func33, Try.ntmps33
  go_wp2_with (first
    | (go_at_call 28; refine (HPROG.out).mono ?_; rintro e w1 ⟨rfl, T, hT, hD1, hk1⟩; have HQ := hide (And.intro (box_kept hk1 HW.out.1 (by simp [dkind])) (And.intro (box_kept hk1 HW.out.2.1 (by simp [dkind])) (And.intro (box_kept hk1 HW.out.2.2.1 (by simp [dkind])) (And.intro hT (And.intro hD1 hk1))))); clear hT hD1 hk1; obtain ⟨c0, c1, c2, c3, c4, c5⟩ := cells6s HQ.out.1; obtain ⟨f0, f1, f2, f3, f4, f5⟩ := frozen6s HQ.out.1; obtain ⟨g0, g1, g2, g3, g4, g5, g6, g7⟩ := cells8 HQ.out.2.1; obtain ⟨d0, d1, d2, d3, d4, d5⟩ := cells6s HQ.out.2.2.1; obtain ⟨e0, e1, e2, e3, e4, e5⟩ := frozen6s HQ.out.2.2.1)
    | (go_at_call 56; refine (HREF.out _ HQ.out.2.2.2.2.2).mono ?_; rintro e w2 ⟨D', rfl, ha, hr, k2⟩; obtain ⟨fa', fc', hfv'⟩ := Sees.form hr.files; obtain ⟨la', lc', hlv'⟩ := Sees.form hr.falls; have HP := hide (And.intro (row_kept HQ.out.1 k2) (And.intro (row_kept HQ.out.2.2.1 k2) (And.intro ha (And.intro hr k2)))); clear ha hr k2; obtain ⟨c0, c1, c2, c3, c4, c5⟩ := cells6s HP.out.1; obtain ⟨f0, f1, f2, f3, f4, f5⟩ := frozen6s HP.out.1; obtain ⟨d0, d1, d2, d3, d4, d5⟩ := cells6s HP.out.2.1; obtain ⟨e0, e1, e2, e3, e4, e5⟩ := frozen6s HP.out.2.1))
  have hBoth : Both Try.prog base (K + 1) d w2 T D' := HMAKE.out T D' w1 w2 HQ.out.2.2.2.1 HQ.out.2.2.2.2.1 HP.out.2.2.1 HP.out.2.2.2.1 HP.out.2.2.2.2 HQ.out.2.2.2.2.2
  have hDsk : Dsk base w w2 := (Dsk.of_below HW.out.2.2.2).trans (HQ.out.2.2.2.2.2.trans (Dsk.of_below HP.out.2.2.2.2))
  have t1 := tch_put5 w2 w.heap.size (Value.slice fa' D'.rs.length fc') (.int .i64 D'.a.room) (.slice la' (flen D'.a.fall) lc') (.int .i64 D'.a.changes) (.bool D'.a.down)
  have r4 := tch_kept HP.out.2.1 t1 (by omega)
  have t2 := tch_set6 (put5 w2 w.heap.size (Value.slice fa' D'.rs.length fc') (.int .i64 D'.a.room) (.slice la' (flen D'.a.fall) lc') (.int .i64 D'.a.changes) (.bool D'.a.down)) (w.heap.size + 2) (.pointer (some ⟨d, 0, none⟩)) (Value.slice fa' D'.rs.length fc') (.int .i64 D'.a.room) (.slice la' (flen D'.a.fall) lc') (.int .i64 D'.a.changes) (.bool D'.a.down)
  refine bodyPost_ret (results_three Try.results33 _ _ _ 29 _ (0, 0) _ rfl (set6 r4 _ _ _ _ _ _) Try.underlying29 rfl infoSide) rfl ?_
  have := HEND.out T D' _ ((hBoth.turned HP.out.1 t1).turned r4 t2) HP.out.2.2.1 ((hDsk.own (Nat.le_refl _) t1).own (Nat.le_add_right _ 2) t2)
  unfold sideV sideCs at this
  rw [hfv', hlv'] at this
  exact this
set_option maxRecDepth 100000 in
set_option maxHeartbeats 4000000 in
theorem files_4 (base K d : Nat) (S : WD) (D : RD) (a : Ac) (w : World) (h : Both Try.prog base K d w S D) (hf : a.Fits) (hK : K + 1 ≤ 100000) (hk : a.kind = 4) : Calls Try.prog 33 #[sideV d D, a.v] w (Filed Try.prog base K d w D (D.a.doTrunc a.name.data.toList a.n)) := by
  obtain ⟨la, lc, hlv⟩ := Sees.form h.ref.falls
  obtain ⟨fa, fc, hfv⟩ := Sees.form h.ref.files
  have HV : D.v = .agg #[.slice fa D.rs.length fc, .int .i64 D.a.room, .slice la (flen D.a.fall) lc, .int .i64 D.a.changes, .bool D.a.down] := by unfold RD.v RD.cs; rw [hfv, hlv]
  have hname : a.name.size ≤ maxLen := by unfold maxLen; exact hf.name
  have hdst : a.dst.size ≤ maxLen := by unfold maxLen; exact hf.dst
  have HW : Hid ((((w.alloc (.cells #[.pointer (some ⟨d, 0, none⟩), .slice fa D.rs.length fc, .int .i64 D.a.room, .slice la (flen D.a.fall) lc, .int .i64 D.a.changes, .bool D.a.down] 29)).alloc (.cells #[.int .i64 4, .string a.name, .string a.dst, .string a.s, .int .i64 a.n, .int .i64 a.f.on, .int .i64 a.f.keep, .int .i64 a.f.torn] 36)).alloc (.cells #[Value.pointer none, Value.slice none 0 0, Value.int IntKind.i64 0, Value.slice none 0 0, Value.int IntKind.i64 0, Value.bool false] 29)).heap[w.heap.size]? = some (.cells #[.pointer (some ⟨d, 0, none⟩), .slice fa D.rs.length fc, .int .i64 D.a.room, .slice la (flen D.a.fall) lc, .int .i64 D.a.changes, .bool D.a.down] 29 (0, 0)) ∧ (((w.alloc (.cells #[.pointer (some ⟨d, 0, none⟩), .slice fa D.rs.length fc, .int .i64 D.a.room, .slice la (flen D.a.fall) lc, .int .i64 D.a.changes, .bool D.a.down] 29)).alloc (.cells #[.int .i64 4, .string a.name, .string a.dst, .string a.s, .int .i64 a.n, .int .i64 a.f.on, .int .i64 a.f.keep, .int .i64 a.f.torn] 36)).alloc (.cells #[Value.pointer none, Value.slice none 0 0, Value.int IntKind.i64 0, Value.slice none 0 0, Value.int IntKind.i64 0, Value.bool false] 29)).heap[w.heap.size + 1]? = some (.cells #[.int .i64 4, .string a.name, .string a.dst, .string a.s, .int .i64 a.n, .int .i64 a.f.on, .int .i64 a.f.keep, .int .i64 a.f.torn] 36 (0, 0)) ∧ (((w.alloc (.cells #[.pointer (some ⟨d, 0, none⟩), .slice fa D.rs.length fc, .int .i64 D.a.room, .slice la (flen D.a.fall) lc, .int .i64 D.a.changes, .bool D.a.down] 29)).alloc (.cells #[.int .i64 4, .string a.name, .string a.dst, .string a.s, .int .i64 a.n, .int .i64 a.f.on, .int .i64 a.f.keep, .int .i64 a.f.torn] 36)).alloc (.cells #[Value.pointer none, Value.slice none 0 0, Value.int IntKind.i64 0, Value.slice none 0 0, Value.int IntKind.i64 0, Value.bool false] 29)).heap[w.heap.size + 2]? = some (.cells #[Value.pointer none, Value.slice none 0 0, Value.int IntKind.i64 0, Value.slice none 0 0, Value.int IntKind.i64 0, Value.bool false] 29 (0, 0)) ∧ Below w.heap.size w (((w.alloc (.cells #[.pointer (some ⟨d, 0, none⟩), .slice fa D.rs.length fc, .int .i64 D.a.room, .slice la (flen D.a.fall) lc, .int .i64 D.a.changes, .bool D.a.down] 29)).alloc (.cells #[.int .i64 4, .string a.name, .string a.dst, .string a.s, .int .i64 a.n, .int .i64 a.f.on, .int .i64 a.f.keep, .int .i64 a.f.torn] 36)).alloc (.cells #[Value.pointer none, Value.slice none 0 0, Value.int IntKind.i64 0, Value.slice none 0 0, Value.int IntKind.i64 0, Value.bool false] 29))) := three_below (Below.refl _ _)
  have hW := h.below HW.out.2.2.2
  have HPROG : Hid (Calls Try.prog 16 #[.pointer (some ⟨d, 0, none⟩), .string a.name, .int .i64 a.n] (((w.alloc (.cells #[.pointer (some ⟨d, 0, none⟩), .slice fa D.rs.length fc, .int .i64 D.a.room, .slice la (flen D.a.fall) lc, .int .i64 D.a.changes, .bool D.a.down] 29)).alloc (.cells #[.int .i64 4, .string a.name, .string a.dst, .string a.s, .int .i64 a.n, .int .i64 a.f.on, .int .i64 a.f.keep, .int .i64 a.f.torn] 36)).alloc (.cells #[Value.pointer none, Value.slice none 0 0, Value.int IntKind.i64 0, Value.slice none 0 0, Value.int IntKind.i64 0, Value.bool false] 29)) (Did Try.prog base (K + 1) d (((w.alloc (.cells #[.pointer (some ⟨d, 0, none⟩), .slice fa D.rs.length fc, .int .i64 D.a.room, .slice la (flen D.a.fall) lc, .int .i64 D.a.changes, .bool D.a.down] 29)).alloc (.cells #[.int .i64 4, .string a.name, .string a.dst, .string a.s, .int .i64 a.n, .int .i64 a.f.on, .int .i64 a.f.keep, .int .i64 a.f.torn] 36)).alloc (.cells #[Value.pointer none, Value.slice none 0 0, Value.int IntKind.i64 0, Value.slice none 0 0, Value.int IntKind.i64 0, Value.bool false] 29)) (D.a.doTrunc a.name.data.toList a.n))) := by
    have := trunc_op base K d S a.name a.n _ hW.disk hW.start hK hname
    rw [h.same] at this
    exact this
  have HREF : Hid (∀ w1, Dsk base (((w.alloc (.cells #[.pointer (some ⟨d, 0, none⟩), .slice fa D.rs.length fc, .int .i64 D.a.room, .slice la (flen D.a.fall) lc, .int .i64 D.a.changes, .bool D.a.down] 29)).alloc (.cells #[.int .i64 4, .string a.name, .string a.dst, .string a.s, .int .i64 a.n, .int .i64 a.f.on, .int .i64 a.f.keep, .int .i64 a.f.torn] 36)).alloc (.cells #[Value.pointer none, Value.slice none 0 0, Value.int IntKind.i64 0, Value.slice none 0 0, Value.int IntKind.i64 0, Value.bool false] 29)) w1 → Calls Try.prog 56 #[.agg #[.slice fa D.rs.length fc, .int .i64 D.a.room, .slice la (flen D.a.fall) lc, .int .i64 D.a.changes, .bool D.a.down], .string a.name, .int .i64 a.n, .bool false] w1 fun e w' => ∃ D' : RD, e = .returned (.tuple #[D'.v, .int .i64 (D.a.doTrunc a.name.data.toList a.n).2]) ∧ D'.a = (D.a.doTrunc a.name.data.toList a.n).1 ∧ RefAt (K + 1) w' D' ∧ Below w1.heap.size w1 w') := fun w1 hk1 => by
    rw [← HV]
    exact rcut_any K D a.name a.n false w1 (hW.ref.dsk hk1) hK hname
  have HMAKE : Hid (∀ (T : WD) (D' : RD) w1 w2, T.a = (D.a.doTrunc a.name.data.toList a.n).1 → DiskAt Try.prog base (K + 1) d w1 T → D'.a = (D.a.doTrunc a.name.data.toList a.n).1 → RefAt (K + 1) w2 D' → Below w1.heap.size w1 w2 → Dsk base (((w.alloc (.cells #[.pointer (some ⟨d, 0, none⟩), .slice fa D.rs.length fc, .int .i64 D.a.room, .slice la (flen D.a.fall) lc, .int .i64 D.a.changes, .bool D.a.down] 29)).alloc (.cells #[.int .i64 4, .string a.name, .string a.dst, .string a.s, .int .i64 a.n, .int .i64 a.f.on, .int .i64 a.f.keep, .int .i64 a.f.torn] 36)).alloc (.cells #[Value.pointer none, Value.slice none 0 0, Value.int IntKind.i64 0, Value.slice none 0 0, Value.int IntKind.i64 0, Value.bool false] 29)) w1 → Both Try.prog base (K + 1) d w2 T D') := fun T D' w1 w2 h1 h2 h3 h4 h5 h6 => ⟨h2.below h5, h4, h1.trans h3.symm, Nat.le_trans hW.start (Nat.le_trans h6.size h5.size), by rw [h3, doTrunc_room]; exact h.room⟩
  have HEND : Hid (∀ (T : WD) (D' : RD) w', Both Try.prog base (K + 1) d w' T D' → D'.a = (D.a.doTrunc a.name.data.toList a.n).1 → Dsk base w w' → Filed Try.prog base K d w D (D.a.doTrunc a.name.data.toList a.n) (.returned (.tuple #[sideV d D', .int .i64 (D.a.doTrunc a.name.data.toList a.n).2, .int .i64 (D.a.doTrunc a.name.data.toList a.n).2])) w') := fun T D' w' h1 h2 h3 => ⟨T, D', rfl, h1, h2, h3⟩
  generalize D.a.doTrunc a.name.data.toList a.n = R at *
  unfold RD.v RD.cs at HREF
  generalize hX : Filed Try.prog base K d w D R = X at *
  clear hX HV h hW
  unfold sideV sideCs Ac.v Ac.cs
  rw [hfv, hlv, hk]
  clear hfv hlv hk
  unfold Did at HPROG
  go_enter Try.func33, Try.ntmps33
  go_wp2_with (first
    | (go_at_call 16; refine (HPROG.out).mono ?_; rintro e w1 ⟨rfl, T, hT, hD1, hk1⟩; have HQ := hide (And.intro (box_kept hk1 HW.out.1 (by simp [dkind])) (And.intro (box_kept hk1 HW.out.2.1 (by simp [dkind])) (And.intro (box_kept hk1 HW.out.2.2.1 (by simp [dkind])) (And.intro hT (And.intro hD1 hk1))))); clear hT hD1 hk1; obtain ⟨c0, c1, c2, c3, c4, c5⟩ := cells6s HQ.out.1; obtain ⟨f0, f1, f2, f3, f4, f5⟩ := frozen6s HQ.out.1; obtain ⟨g0, g1, g2, g3, g4, g5, g6, g7⟩ := cells8 HQ.out.2.1; obtain ⟨d0, d1, d2, d3, d4, d5⟩ := cells6s HQ.out.2.2.1; obtain ⟨e0, e1, e2, e3, e4, e5⟩ := frozen6s HQ.out.2.2.1)
    | (go_at_call 56; refine (HREF.out _ HQ.out.2.2.2.2.2).mono ?_; rintro e w2 ⟨D', rfl, ha, hr, k2⟩; obtain ⟨fa', fc', hfv'⟩ := Sees.form hr.files; obtain ⟨la', lc', hlv'⟩ := Sees.form hr.falls; have HP := hide (And.intro (row_kept HQ.out.1 k2) (And.intro (row_kept HQ.out.2.2.1 k2) (And.intro ha (And.intro hr k2)))); clear ha hr k2; obtain ⟨c0, c1, c2, c3, c4, c5⟩ := cells6s HP.out.1; obtain ⟨f0, f1, f2, f3, f4, f5⟩ := frozen6s HP.out.1; obtain ⟨d0, d1, d2, d3, d4, d5⟩ := cells6s HP.out.2.1; obtain ⟨e0, e1, e2, e3, e4, e5⟩ := frozen6s HP.out.2.1))
  have hBoth : Both Try.prog base (K + 1) d w2 T D' := HMAKE.out T D' w1 w2 HQ.out.2.2.2.1 HQ.out.2.2.2.2.1 HP.out.2.2.1 HP.out.2.2.2.1 HP.out.2.2.2.2 HQ.out.2.2.2.2.2
  have hDsk : Dsk base w w2 := (Dsk.of_below HW.out.2.2.2).trans (HQ.out.2.2.2.2.2.trans (Dsk.of_below HP.out.2.2.2.2))
  have t1 := tch_put5 w2 w.heap.size (Value.slice fa' D'.rs.length fc') (.int .i64 D'.a.room) (.slice la' (flen D'.a.fall) lc') (.int .i64 D'.a.changes) (.bool D'.a.down)
  have r4 := tch_kept HP.out.2.1 t1 (by omega)
  have t2 := tch_set6 (put5 w2 w.heap.size (Value.slice fa' D'.rs.length fc') (.int .i64 D'.a.room) (.slice la' (flen D'.a.fall) lc') (.int .i64 D'.a.changes) (.bool D'.a.down)) (w.heap.size + 2) (.pointer (some ⟨d, 0, none⟩)) (Value.slice fa' D'.rs.length fc') (.int .i64 D'.a.room) (.slice la' (flen D'.a.fall) lc') (.int .i64 D'.a.changes) (.bool D'.a.down)
  refine bodyPost_ret (results_three Try.results33 _ _ _ 29 _ (0, 0) _ rfl (set6 r4 _ _ _ _ _ _) Try.underlying29 rfl infoSide) rfl ?_
  have := HEND.out T D' _ ((hBoth.turned HP.out.1 t1).turned r4 t2) HP.out.2.2.1 ((hDsk.own (Nat.le_refl _) t1).own (Nat.le_add_right _ 2) t2)
  unfold sideV sideCs at this
  rw [hfv', hlv'] at this
  exact this
set_option maxRecDepth 100000 in
set_option maxHeartbeats 4000000 in
theorem files_5 (base K d : Nat) (S : WD) (D : RD) (a : Ac) (w : World) (h : Both Try.prog base K d w S D) (hf : a.Fits) (hK : K + 1 ≤ 100000) (hk : a.kind = 5) : Calls Try.prog 33 #[sideV d D, a.v] w (Filed Try.prog base K d w D (D.a.doSync)) := by
  obtain ⟨la, lc, hlv⟩ := Sees.form h.ref.falls
  obtain ⟨fa, fc, hfv⟩ := Sees.form h.ref.files
  have HV : D.v = .agg #[.slice fa D.rs.length fc, .int .i64 D.a.room, .slice la (flen D.a.fall) lc, .int .i64 D.a.changes, .bool D.a.down] := by unfold RD.v RD.cs; rw [hfv, hlv]
  have hname : a.name.size ≤ maxLen := by unfold maxLen; exact hf.name
  have hdst : a.dst.size ≤ maxLen := by unfold maxLen; exact hf.dst
  have HW : Hid ((((w.alloc (.cells #[.pointer (some ⟨d, 0, none⟩), .slice fa D.rs.length fc, .int .i64 D.a.room, .slice la (flen D.a.fall) lc, .int .i64 D.a.changes, .bool D.a.down] 29)).alloc (.cells #[.int .i64 5, .string a.name, .string a.dst, .string a.s, .int .i64 a.n, .int .i64 a.f.on, .int .i64 a.f.keep, .int .i64 a.f.torn] 36)).alloc (.cells #[Value.pointer none, Value.slice none 0 0, Value.int IntKind.i64 0, Value.slice none 0 0, Value.int IntKind.i64 0, Value.bool false] 29)).heap[w.heap.size]? = some (.cells #[.pointer (some ⟨d, 0, none⟩), .slice fa D.rs.length fc, .int .i64 D.a.room, .slice la (flen D.a.fall) lc, .int .i64 D.a.changes, .bool D.a.down] 29 (0, 0)) ∧ (((w.alloc (.cells #[.pointer (some ⟨d, 0, none⟩), .slice fa D.rs.length fc, .int .i64 D.a.room, .slice la (flen D.a.fall) lc, .int .i64 D.a.changes, .bool D.a.down] 29)).alloc (.cells #[.int .i64 5, .string a.name, .string a.dst, .string a.s, .int .i64 a.n, .int .i64 a.f.on, .int .i64 a.f.keep, .int .i64 a.f.torn] 36)).alloc (.cells #[Value.pointer none, Value.slice none 0 0, Value.int IntKind.i64 0, Value.slice none 0 0, Value.int IntKind.i64 0, Value.bool false] 29)).heap[w.heap.size + 1]? = some (.cells #[.int .i64 5, .string a.name, .string a.dst, .string a.s, .int .i64 a.n, .int .i64 a.f.on, .int .i64 a.f.keep, .int .i64 a.f.torn] 36 (0, 0)) ∧ (((w.alloc (.cells #[.pointer (some ⟨d, 0, none⟩), .slice fa D.rs.length fc, .int .i64 D.a.room, .slice la (flen D.a.fall) lc, .int .i64 D.a.changes, .bool D.a.down] 29)).alloc (.cells #[.int .i64 5, .string a.name, .string a.dst, .string a.s, .int .i64 a.n, .int .i64 a.f.on, .int .i64 a.f.keep, .int .i64 a.f.torn] 36)).alloc (.cells #[Value.pointer none, Value.slice none 0 0, Value.int IntKind.i64 0, Value.slice none 0 0, Value.int IntKind.i64 0, Value.bool false] 29)).heap[w.heap.size + 2]? = some (.cells #[Value.pointer none, Value.slice none 0 0, Value.int IntKind.i64 0, Value.slice none 0 0, Value.int IntKind.i64 0, Value.bool false] 29 (0, 0)) ∧ Below w.heap.size w (((w.alloc (.cells #[.pointer (some ⟨d, 0, none⟩), .slice fa D.rs.length fc, .int .i64 D.a.room, .slice la (flen D.a.fall) lc, .int .i64 D.a.changes, .bool D.a.down] 29)).alloc (.cells #[.int .i64 5, .string a.name, .string a.dst, .string a.s, .int .i64 a.n, .int .i64 a.f.on, .int .i64 a.f.keep, .int .i64 a.f.torn] 36)).alloc (.cells #[Value.pointer none, Value.slice none 0 0, Value.int IntKind.i64 0, Value.slice none 0 0, Value.int IntKind.i64 0, Value.bool false] 29))) := three_below (Below.refl _ _)
  have hW := h.below HW.out.2.2.2
  have HPROG : Hid (Calls Try.prog 14 #[.pointer (some ⟨d, 0, none⟩)] (((w.alloc (.cells #[.pointer (some ⟨d, 0, none⟩), .slice fa D.rs.length fc, .int .i64 D.a.room, .slice la (flen D.a.fall) lc, .int .i64 D.a.changes, .bool D.a.down] 29)).alloc (.cells #[.int .i64 5, .string a.name, .string a.dst, .string a.s, .int .i64 a.n, .int .i64 a.f.on, .int .i64 a.f.keep, .int .i64 a.f.torn] 36)).alloc (.cells #[Value.pointer none, Value.slice none 0 0, Value.int IntKind.i64 0, Value.slice none 0 0, Value.int IntKind.i64 0, Value.bool false] 29)) (Did Try.prog base (K + 1) d (((w.alloc (.cells #[.pointer (some ⟨d, 0, none⟩), .slice fa D.rs.length fc, .int .i64 D.a.room, .slice la (flen D.a.fall) lc, .int .i64 D.a.changes, .bool D.a.down] 29)).alloc (.cells #[.int .i64 5, .string a.name, .string a.dst, .string a.s, .int .i64 a.n, .int .i64 a.f.on, .int .i64 a.f.keep, .int .i64 a.f.torn] 36)).alloc (.cells #[Value.pointer none, Value.slice none 0 0, Value.int IntKind.i64 0, Value.slice none 0 0, Value.int IntKind.i64 0, Value.bool false] 29)) (D.a.doSync))) := by
    have := (sync_op base K d S _ hW.disk).mono fun e w' ⟨he, T, h1, h2, h3⟩ => (⟨he, T, h1, h2.mono (Nat.le_succ K) hK, h3⟩ : Did Try.prog base (K + 1) d _ S.a.doSync e w')
    rw [h.same] at this
    exact this
  have HREF : Hid (∀ w1, Dsk base (((w.alloc (.cells #[.pointer (some ⟨d, 0, none⟩), .slice fa D.rs.length fc, .int .i64 D.a.room, .slice la (flen D.a.fall) lc, .int .i64 D.a.changes, .bool D.a.down] 29)).alloc (.cells #[.int .i64 5, .string a.name, .string a.dst, .string a.s, .int .i64 a.n, .int .i64 a.f.on, .int .i64 a.f.keep, .int .i64 a.f.torn] 36)).alloc (.cells #[Value.pointer none, Value.slice none 0 0, Value.int IntKind.i64 0, Value.slice none 0 0, Value.int IntKind.i64 0, Value.bool false] 29)) w1 → Calls Try.prog 57 #[.agg #[.slice fa D.rs.length fc, .int .i64 D.a.room, .slice la (flen D.a.fall) lc, .int .i64 D.a.changes, .bool D.a.down]] w1 fun e w' => ∃ D' : RD, e = .returned (.tuple #[D'.v, .int .i64 (D.a.doSync).2]) ∧ D'.a = (D.a.doSync).1 ∧ RefAt (K + 1) w' D' ∧ Below w1.heap.size w1 w') := fun w1 hk1 => by
    rw [← HV]
    exact (rsync_any K D w1 (hW.ref.dsk hk1)).mono fun e w' ⟨D', he, ha, hr, hb⟩ => ⟨D', he, ha, hr.mono (Nat.le_succ K) hK, hb⟩
  have HMAKE : Hid (∀ (T : WD) (D' : RD) w1 w2, T.a = (D.a.doSync).1 → DiskAt Try.prog base (K + 1) d w1 T → D'.a = (D.a.doSync).1 → RefAt (K + 1) w2 D' → Below w1.heap.size w1 w2 → Dsk base (((w.alloc (.cells #[.pointer (some ⟨d, 0, none⟩), .slice fa D.rs.length fc, .int .i64 D.a.room, .slice la (flen D.a.fall) lc, .int .i64 D.a.changes, .bool D.a.down] 29)).alloc (.cells #[.int .i64 5, .string a.name, .string a.dst, .string a.s, .int .i64 a.n, .int .i64 a.f.on, .int .i64 a.f.keep, .int .i64 a.f.torn] 36)).alloc (.cells #[Value.pointer none, Value.slice none 0 0, Value.int IntKind.i64 0, Value.slice none 0 0, Value.int IntKind.i64 0, Value.bool false] 29)) w1 → Both Try.prog base (K + 1) d w2 T D') := fun T D' w1 w2 h1 h2 h3 h4 h5 h6 => ⟨h2.below h5, h4, h1.trans h3.symm, Nat.le_trans hW.start (Nat.le_trans h6.size h5.size), by rw [h3, doSync_room]; exact h.room⟩
  have HEND : Hid (∀ (T : WD) (D' : RD) w', Both Try.prog base (K + 1) d w' T D' → D'.a = (D.a.doSync).1 → Dsk base w w' → Filed Try.prog base K d w D (D.a.doSync) (.returned (.tuple #[sideV d D', .int .i64 (D.a.doSync).2, .int .i64 (D.a.doSync).2])) w') := fun T D' w' h1 h2 h3 => ⟨T, D', rfl, h1, h2, h3⟩
  generalize D.a.doSync = R at *
  unfold RD.v RD.cs at HREF
  generalize hX : Filed Try.prog base K d w D R = X at *
  clear hX HV h hW
  unfold sideV sideCs Ac.v Ac.cs
  rw [hfv, hlv, hk]
  clear hfv hlv hk
  unfold Did at HPROG
  go_enter Try.func33, Try.ntmps33
  go_wp2_with (first
    | (go_at_call 14; refine (HPROG.out).mono ?_; rintro e w1 ⟨rfl, T, hT, hD1, hk1⟩; have HQ := hide (And.intro (box_kept hk1 HW.out.1 (by simp [dkind])) (And.intro (box_kept hk1 HW.out.2.1 (by simp [dkind])) (And.intro (box_kept hk1 HW.out.2.2.1 (by simp [dkind])) (And.intro hT (And.intro hD1 hk1))))); clear hT hD1 hk1; obtain ⟨c0, c1, c2, c3, c4, c5⟩ := cells6s HQ.out.1; obtain ⟨f0, f1, f2, f3, f4, f5⟩ := frozen6s HQ.out.1; obtain ⟨g0, g1, g2, g3, g4, g5, g6, g7⟩ := cells8 HQ.out.2.1; obtain ⟨d0, d1, d2, d3, d4, d5⟩ := cells6s HQ.out.2.2.1; obtain ⟨e0, e1, e2, e3, e4, e5⟩ := frozen6s HQ.out.2.2.1)
    | (go_at_call 57; refine (HREF.out _ HQ.out.2.2.2.2.2).mono ?_; rintro e w2 ⟨D', rfl, ha, hr, k2⟩; obtain ⟨fa', fc', hfv'⟩ := Sees.form hr.files; obtain ⟨la', lc', hlv'⟩ := Sees.form hr.falls; have HP := hide (And.intro (row_kept HQ.out.1 k2) (And.intro (row_kept HQ.out.2.2.1 k2) (And.intro ha (And.intro hr k2)))); clear ha hr k2; obtain ⟨c0, c1, c2, c3, c4, c5⟩ := cells6s HP.out.1; obtain ⟨f0, f1, f2, f3, f4, f5⟩ := frozen6s HP.out.1; obtain ⟨d0, d1, d2, d3, d4, d5⟩ := cells6s HP.out.2.1; obtain ⟨e0, e1, e2, e3, e4, e5⟩ := frozen6s HP.out.2.1))
  have hBoth : Both Try.prog base (K + 1) d w2 T D' := HMAKE.out T D' w1 w2 HQ.out.2.2.2.1 HQ.out.2.2.2.2.1 HP.out.2.2.1 HP.out.2.2.2.1 HP.out.2.2.2.2 HQ.out.2.2.2.2.2
  have hDsk : Dsk base w w2 := (Dsk.of_below HW.out.2.2.2).trans (HQ.out.2.2.2.2.2.trans (Dsk.of_below HP.out.2.2.2.2))
  have t1 := tch_put5 w2 w.heap.size (Value.slice fa' D'.rs.length fc') (.int .i64 D'.a.room) (.slice la' (flen D'.a.fall) lc') (.int .i64 D'.a.changes) (.bool D'.a.down)
  have r4 := tch_kept HP.out.2.1 t1 (by omega)
  have t2 := tch_set6 (put5 w2 w.heap.size (Value.slice fa' D'.rs.length fc') (.int .i64 D'.a.room) (.slice la' (flen D'.a.fall) lc') (.int .i64 D'.a.changes) (.bool D'.a.down)) (w.heap.size + 2) (.pointer (some ⟨d, 0, none⟩)) (Value.slice fa' D'.rs.length fc') (.int .i64 D'.a.room) (.slice la' (flen D'.a.fall) lc') (.int .i64 D'.a.changes) (.bool D'.a.down)
  refine bodyPost_ret (results_three Try.results33 _ _ _ 29 _ (0, 0) _ rfl (set6 r4 _ _ _ _ _ _) Try.underlying29 rfl infoSide) rfl ?_
  have := HEND.out T D' _ ((hBoth.turned HP.out.1 t1).turned r4 t2) HP.out.2.2.1 ((hDsk.own (Nat.le_refl _) t1).own (Nat.le_add_right _ 2) t2)
  unfold sideV sideCs at this
  rw [hfv', hlv'] at this
  exact this
end Go.Proofs.Ytnjkahoaogeecaa
