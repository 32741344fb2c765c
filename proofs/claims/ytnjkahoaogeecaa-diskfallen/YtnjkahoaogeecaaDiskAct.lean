/- Contract: something is done to both disks. -/
import Derived.Test.YtnjkahoaogeecaaDiskFiles2
namespace Go.Dk
open Go.RowKit
def A.fileAct (z : A) (a : Ac) : A × Int :=
  if a.kind = 1 then z.doPut a.name.data.toList ⟨(few60 a.s).data.toList, true⟩
  else if a.kind = 2 then z.doMove a.name.data.toList a.dst.data.toList
  else if a.kind = 3 then z.doRemove a.name.data.toList
  else if a.kind = 4 then z.doTrunc a.name.data.toList a.n
  else if a.kind = 5 then z.doSync
  else z.doPut a.name.data.toList ⟨(few60 a.s).data.toList, false⟩
def A.planned (z : A) (f : Fall) : Fall := if 0 ≤ f.on ∧ f.on < 1000 then ⟨z.changes + f.on, f.keep, f.torn⟩ else f
def A.actOf (z : A) (a : Ac) : A :=
  if a.kind = 6 then z.crash a.f.keep a.f.torn
  else if a.kind = 7 then { z with down := false }
  else if a.kind = 8 then { z with room := a.n }
  else if a.kind = 9 then { z with fall := some (z.planned a.f) }
  else (z.fileAct a).1
theorem act_kind6 {z : A} {a : Ac} (h : a.kind = 6) : z.actOf a = z.crash a.f.keep a.f.torn := by unfold A.actOf; rw [if_pos h]
theorem act_kind7 {z : A} {a : Ac} (h : a.kind = 7) : z.actOf a = { z with down := false } := by unfold A.actOf; rw [if_neg (by omega), if_pos h]
theorem act_kind8 {z : A} {a : Ac} (h : a.kind = 8) : z.actOf a = { z with room := a.n } := by unfold A.actOf; rw [if_neg (by omega), if_neg (by omega), if_pos h]
theorem act_kind9 {z : A} {a : Ac} (h : a.kind = 9) : z.actOf a = { z with fall := some (z.planned a.f) } := by unfold A.actOf; rw [if_neg (by omega), if_neg (by omega), if_neg (by omega), if_pos h]
/-- What something that is done leaves of both. -/
def Acted (P : Program) (base K d : Nat) (w : World) (z : A) (e : Ending) (w' : World) : Prop :=
  ∃ T D', e = .returned (.tuple #[sideV d D', .bool true]) ∧ Both P base (K + 1) d w' T D' ∧ D'.a = z ∧ Dsk base w w'
end Go.Dk
namespace Go.Proofs.Ytnjkahoaogeecaa
open Go.RowKit Go.Dk
theorem files_any (base K d : Nat) (S : WD) (D : RD) (a : Ac) (w : World) (h : Both Try.prog base K d w S D) (hf : a.Fits) (hK : K + 1 ≤ 100000) : Calls Try.prog 33 #[sideV d D, a.v] w (Filed Try.prog base K d w D (D.a.fileAct a)) := by
  unfold A.fileAct
  by_cases h1 : a.kind = 1
  · rw [if_pos h1]; exact files_1 base K d S D a w h hf hK h1
  by_cases h2 : a.kind = 2
  · rw [if_neg h1, if_pos h2]; exact files_2 base K d S D a w h hf hK h2
  by_cases h3 : a.kind = 3
  · rw [if_neg h1, if_neg h2, if_pos h3]; exact files_3 base K d S D a w h hf hK h3
  by_cases h4 : a.kind = 4
  · rw [if_neg h1, if_neg h2, if_neg h3, if_pos h4]; exact files_4 base K d S D a w h hf hK h4
  by_cases h5 : a.kind = 5
  · rw [if_neg h1, if_neg h2, if_neg h3, if_neg h4, if_pos h5]; exact files_5 base K d S D a w h hf hK h5
  rw [if_neg h1, if_neg h2, if_neg h3, if_neg h4, if_neg h5]
  exact files_0 base K d S D a w h hf hK (beq_eq_false_iff_ne.2 h1) (beq_eq_false_iff_ne.2 h2) (beq_eq_false_iff_ne.2 h3) (beq_eq_false_iff_ne.2 h4) (beq_eq_false_iff_ne.2 h5)
set_option maxRecDepth 100000 in
set_option maxHeartbeats 4000000 in
theorem act_6 (base K d : Nat) (S : WD) (D : RD) (a : Ac) (w : World) (h : Both Try.prog base K d w S D) (hK : K + 1 ≤ 100000) (hk : a.kind = 6) : Calls Try.prog 9 #[sideV d D, a.v] w (Acted Try.prog base K d w (D.a.actOf a)) := by
  obtain ⟨la, lc, hlv⟩ := Sees.form h.ref.falls
  obtain ⟨fa, fc, hfv⟩ := Sees.form h.ref.files
  have HV : D.v = .agg #[.slice fa D.rs.length fc, .int .i64 D.a.room, .slice la (flen D.a.fall) lc, .int .i64 D.a.changes, .bool D.a.down] := by unfold RD.v RD.cs; rw [hfv, hlv]
  have HW : Hid ((((w.alloc (.cells #[.pointer (some ⟨d, 0, none⟩), .slice fa D.rs.length fc, .int .i64 D.a.room, .slice la (flen D.a.fall) lc, .int .i64 D.a.changes, .bool D.a.down] 29)).alloc (.cells #[.int .i64 6, .string a.name, .string a.dst, .string a.s, .int .i64 a.n, .int .i64 a.f.on, .int .i64 a.f.keep, .int .i64 a.f.torn] 36)).alloc (.cells #[Value.pointer none, Value.slice none 0 0, Value.int IntKind.i64 0, Value.slice none 0 0, Value.int IntKind.i64 0, Value.bool false] 29)).heap[w.heap.size]? = some (.cells #[.pointer (some ⟨d, 0, none⟩), .slice fa D.rs.length fc, .int .i64 D.a.room, .slice la (flen D.a.fall) lc, .int .i64 D.a.changes, .bool D.a.down] 29 (0, 0)) ∧ (((w.alloc (.cells #[.pointer (some ⟨d, 0, none⟩), .slice fa D.rs.length fc, .int .i64 D.a.room, .slice la (flen D.a.fall) lc, .int .i64 D.a.changes, .bool D.a.down] 29)).alloc (.cells #[.int .i64 6, .string a.name, .string a.dst, .string a.s, .int .i64 a.n, .int .i64 a.f.on, .int .i64 a.f.keep, .int .i64 a.f.torn] 36)).alloc (.cells #[Value.pointer none, Value.slice none 0 0, Value.int IntKind.i64 0, Value.slice none 0 0, Value.int IntKind.i64 0, Value.bool false] 29)).heap[w.heap.size + 1]? = some (.cells #[.int .i64 6, .string a.name, .string a.dst, .string a.s, .int .i64 a.n, .int .i64 a.f.on, .int .i64 a.f.keep, .int .i64 a.f.torn] 36 (0, 0)) ∧ (((w.alloc (.cells #[.pointer (some ⟨d, 0, none⟩), .slice fa D.rs.length fc, .int .i64 D.a.room, .slice la (flen D.a.fall) lc, .int .i64 D.a.changes, .bool D.a.down] 29)).alloc (.cells #[.int .i64 6, .string a.name, .string a.dst, .string a.s, .int .i64 a.n, .int .i64 a.f.on, .int .i64 a.f.keep, .int .i64 a.f.torn] 36)).alloc (.cells #[Value.pointer none, Value.slice none 0 0, Value.int IntKind.i64 0, Value.slice none 0 0, Value.int IntKind.i64 0, Value.bool false] 29)).heap[w.heap.size + 2]? = some (.cells #[Value.pointer none, Value.slice none 0 0, Value.int IntKind.i64 0, Value.slice none 0 0, Value.int IntKind.i64 0, Value.bool false] 29 (0, 0)) ∧ Below w.heap.size w (((w.alloc (.cells #[.pointer (some ⟨d, 0, none⟩), .slice fa D.rs.length fc, .int .i64 D.a.room, .slice la (flen D.a.fall) lc, .int .i64 D.a.changes, .bool D.a.down] 29)).alloc (.cells #[.int .i64 6, .string a.name, .string a.dst, .string a.s, .int .i64 a.n, .int .i64 a.f.on, .int .i64 a.f.keep, .int .i64 a.f.torn] 36)).alloc (.cells #[Value.pointer none, Value.slice none 0 0, Value.int IntKind.i64 0, Value.slice none 0 0, Value.int IntKind.i64 0, Value.bool false] 29))) := three_below (Below.refl _ _)
  have hW := h.below HW.out.2.2.2
  have HEND : Hid (∀ (T : WD) (D' : RD) w', Both Try.prog base (K + 1) d w' T D' → D'.a = D.a.actOf a → Dsk base w w' → Acted Try.prog base K d w (D.a.actOf a) (.returned (.tuple #[sideV d D', .bool true])) w') := fun T D' w' h1 h2 h3 => ⟨T, D', rfl, h1, h2, h3⟩
  have HA := hide (act_kind6 (z := D.a) hk)
  have HPROG : Hid (Calls Try.prog 17 #[.pointer (some ⟨d, 0, none⟩), .int .i64 a.f.keep, .int .i64 a.f.torn] (((w.alloc (.cells #[.pointer (some ⟨d, 0, none⟩), .slice fa D.rs.length fc, .int .i64 D.a.room, .slice la (flen D.a.fall) lc, .int .i64 D.a.changes, .bool D.a.down] 29)).alloc (.cells #[.int .i64 6, .string a.name, .string a.dst, .string a.s, .int .i64 a.n, .int .i64 a.f.on, .int .i64 a.f.keep, .int .i64 a.f.torn] 36)).alloc (.cells #[Value.pointer none, Value.slice none 0 0, Value.int IntKind.i64 0, Value.slice none 0 0, Value.int IntKind.i64 0, Value.bool false] 29)) fun e w' => e = .returned (.tuple #[]) ∧ ∃ T : WD, T.a = D.a.crash a.f.keep a.f.torn ∧ DiskAt Try.prog base K d w' T ∧ Dsk base (((w.alloc (.cells #[.pointer (some ⟨d, 0, none⟩), .slice fa D.rs.length fc, .int .i64 D.a.room, .slice la (flen D.a.fall) lc, .int .i64 D.a.changes, .bool D.a.down] 29)).alloc (.cells #[.int .i64 6, .string a.name, .string a.dst, .string a.s, .int .i64 a.n, .int .i64 a.f.on, .int .i64 a.f.keep, .int .i64 a.f.torn] 36)).alloc (.cells #[Value.pointer none, Value.slice none 0 0, Value.int IntKind.i64 0, Value.slice none 0 0, Value.int IntKind.i64 0, Value.bool false] 29)) w') := by
    have := crash_op base K d S a.f.keep a.f.torn _ hW.disk hW.start
    rw [h.same] at this
    exact this
  have HREF : Hid (∀ w1, Dsk base (((w.alloc (.cells #[.pointer (some ⟨d, 0, none⟩), .slice fa D.rs.length fc, .int .i64 D.a.room, .slice la (flen D.a.fall) lc, .int .i64 D.a.changes, .bool D.a.down] 29)).alloc (.cells #[.int .i64 6, .string a.name, .string a.dst, .string a.s, .int .i64 a.n, .int .i64 a.f.on, .int .i64 a.f.keep, .int .i64 a.f.torn] 36)).alloc (.cells #[Value.pointer none, Value.slice none 0 0, Value.int IntKind.i64 0, Value.slice none 0 0, Value.int IntKind.i64 0, Value.bool false] 29)) w1 → Calls Try.prog 32 #[.agg #[.slice fa D.rs.length fc, .int .i64 D.a.room, .slice la (flen D.a.fall) lc, .int .i64 D.a.changes, .bool D.a.down], .int .i64 a.f.keep, .int .i64 a.f.torn] w1 fun e w' => ∃ D' : RD, e = .returned D'.v ∧ D'.a = D.a.crash a.f.keep a.f.torn ∧ RefAt K w' D' ∧ Below w1.heap.size w1 w') := fun w1 hk1 => by
    rw [← HV]
    exact rcrash_any K D a.f.keep a.f.torn w1 (hW.ref.dsk hk1)
  have HMAKE : Hid (∀ (T : WD) (D' : RD) w1 w2, T.a = D.a.crash a.f.keep a.f.torn → DiskAt Try.prog base K d w1 T → D'.a = D.a.crash a.f.keep a.f.torn → RefAt K w2 D' → Below w1.heap.size w1 w2 → Dsk base (((w.alloc (.cells #[.pointer (some ⟨d, 0, none⟩), .slice fa D.rs.length fc, .int .i64 D.a.room, .slice la (flen D.a.fall) lc, .int .i64 D.a.changes, .bool D.a.down] 29)).alloc (.cells #[.int .i64 6, .string a.name, .string a.dst, .string a.s, .int .i64 a.n, .int .i64 a.f.on, .int .i64 a.f.keep, .int .i64 a.f.torn] 36)).alloc (.cells #[Value.pointer none, Value.slice none 0 0, Value.int IntKind.i64 0, Value.slice none 0 0, Value.int IntKind.i64 0, Value.bool false] 29)) w1 → Both Try.prog base (K + 1) d w2 T D') := fun T D' w1 w2 h1 h2 h3 h4 h5 h6 => ⟨(h2.below h5).mono (Nat.le_succ K) hK, h4.mono (Nat.le_succ K) hK, h1.trans h3.symm, Nat.le_trans hW.start (Nat.le_trans h6.size h5.size), by rw [h3, crash_room]; exact h.room⟩
  generalize hX : Acted Try.prog base K d w (D.a.actOf a) = X at *
  clear hX HV h hW
  unfold RD.v RD.cs at HREF
  unfold sideV sideCs Ac.v Ac.cs
  rw [hfv, hlv, hk]
  clear hfv hlv hk
  go_enter Try.func9, Try.ntmps9
  go_wp2_with (first
    | (go_at_call 17; refine (HPROG.out).mono ?_; rintro e w1 ⟨rfl, T, hT, hD1, hk1⟩; have HQ := hide (And.intro (box_kept hk1 HW.out.1 (by simp [dkind])) (And.intro (box_kept hk1 HW.out.2.1 (by simp [dkind])) (And.intro (box_kept hk1 HW.out.2.2.1 (by simp [dkind])) (And.intro hT (And.intro hD1 hk1))))); clear hT hD1 hk1; obtain ⟨c0, c1, c2, c3, c4, c5⟩ := cells6s HQ.out.1; obtain ⟨f0, f1, f2, f3, f4, f5⟩ := frozen6s HQ.out.1; obtain ⟨g0, g1, g2, g3, g4, g5, g6, g7⟩ := cells8 HQ.out.2.1; obtain ⟨d0, d1, d2, d3, d4, d5⟩ := cells6s HQ.out.2.2.1; obtain ⟨e0, e1, e2, e3, e4, e5⟩ := frozen6s HQ.out.2.2.1)
    | (go_at_call 32; refine (HREF.out _ HQ.out.2.2.2.2.2).mono ?_; rintro e w2 ⟨D', rfl, ha, hr, k2⟩; obtain ⟨fa', fc', hfv'⟩ := Sees.form hr.files; obtain ⟨la', lc', hlv'⟩ := Sees.form hr.falls; have HP := hide (And.intro (row_kept HQ.out.1 k2) (And.intro (row_kept HQ.out.2.2.1 k2) (And.intro ha (And.intro hr k2)))); clear ha hr k2; obtain ⟨c0, c1, c2, c3, c4, c5⟩ := cells6s HP.out.1; obtain ⟨f0, f1, f2, f3, f4, f5⟩ := frozen6s HP.out.1; obtain ⟨d0, d1, d2, d3, d4, d5⟩ := cells6s HP.out.2.1; obtain ⟨e0, e1, e2, e3, e4, e5⟩ := frozen6s HP.out.2.1))
  have hBoth : Both Try.prog base (K + 1) d w2 T D' := HMAKE.out T D' w1 w2 HQ.out.2.2.2.1 HQ.out.2.2.2.2.1 HP.out.2.2.1 HP.out.2.2.2.1 HP.out.2.2.2.2 HQ.out.2.2.2.2.2
  have hDsk : Dsk base w w2 := (Dsk.of_below HW.out.2.2.2).trans (HQ.out.2.2.2.2.2.trans (Dsk.of_below HP.out.2.2.2.2))
  have t1 := tch_put5 w2 w.heap.size (Value.slice fa' D'.rs.length fc') (.int .i64 D'.a.room) (.slice la' (flen D'.a.fall) lc') (.int .i64 D'.a.changes) (.bool D'.a.down)
  have r4 := tch_kept HP.out.2.1 t1 (by omega)
  have t2 := tch_set6 (put5 w2 w.heap.size (Value.slice fa' D'.rs.length fc') (.int .i64 D'.a.room) (.slice la' (flen D'.a.fall) lc') (.int .i64 D'.a.changes) (.bool D'.a.down)) (w.heap.size + 2) (.pointer (some ⟨d, 0, none⟩)) (Value.slice fa' D'.rs.length fc') (.int .i64 D'.a.room) (.slice la' (flen D'.a.fall) lc') (.int .i64 D'.a.changes) (.bool D'.a.down)
  refine bodyPost_ret (results_cell2_row Try.results9 _ _ _ 29 _ (0, 0) _ rfl (set6 r4 _ _ _ _ _ _) Try.underlying29 rfl infoSide) rfl ?_
  have := HEND.out T D' _ ((hBoth.turned HP.out.1 t1).turned r4 t2) (HP.out.2.2.1.trans HA.out.symm) ((hDsk.own (Nat.le_refl _) t1).own (Nat.le_add_right _ 2) t2)
  unfold sideV sideCs at this
  rw [hfv', hlv'] at this
  exact this
set_option maxRecDepth 100000 in
set_option maxHeartbeats 4000000 in
theorem act_8 (base K d : Nat) (S : WD) (D : RD) (a : Ac) (w : World) (h : Both Try.prog base K d w S D) (hf : a.Fits) (hK : K + 1 ≤ 100000) (hk : a.kind = 8) : Calls Try.prog 9 #[sideV d D, a.v] w (Acted Try.prog base K d w (D.a.actOf a)) := by
  obtain ⟨la, lc, hlv⟩ := Sees.form h.ref.falls
  obtain ⟨fa, fc, hfv⟩ := Sees.form h.ref.files
  have HV : D.v = .agg #[.slice fa D.rs.length fc, .int .i64 D.a.room, .slice la (flen D.a.fall) lc, .int .i64 D.a.changes, .bool D.a.down] := by unfold RD.v RD.cs; rw [hfv, hlv]
  have HW : Hid ((((w.alloc (.cells #[.pointer (some ⟨d, 0, none⟩), .slice fa D.rs.length fc, .int .i64 D.a.room, .slice la (flen D.a.fall) lc, .int .i64 D.a.changes, .bool D.a.down] 29)).alloc (.cells #[.int .i64 8, .string a.name, .string a.dst, .string a.s, .int .i64 a.n, .int .i64 a.f.on, .int .i64 a.f.keep, .int .i64 a.f.torn] 36)).alloc (.cells #[Value.pointer none, Value.slice none 0 0, Value.int IntKind.i64 0, Value.slice none 0 0, Value.int IntKind.i64 0, Value.bool false] 29)).heap[w.heap.size]? = some (.cells #[.pointer (some ⟨d, 0, none⟩), .slice fa D.rs.length fc, .int .i64 D.a.room, .slice la (flen D.a.fall) lc, .int .i64 D.a.changes, .bool D.a.down] 29 (0, 0)) ∧ (((w.alloc (.cells #[.pointer (some ⟨d, 0, none⟩), .slice fa D.rs.length fc, .int .i64 D.a.room, .slice la (flen D.a.fall) lc, .int .i64 D.a.changes, .bool D.a.down] 29)).alloc (.cells #[.int .i64 8, .string a.name, .string a.dst, .string a.s, .int .i64 a.n, .int .i64 a.f.on, .int .i64 a.f.keep, .int .i64 a.f.torn] 36)).alloc (.cells #[Value.pointer none, Value.slice none 0 0, Value.int IntKind.i64 0, Value.slice none 0 0, Value.int IntKind.i64 0, Value.bool false] 29)).heap[w.heap.size + 1]? = some (.cells #[.int .i64 8, .string a.name, .string a.dst, .string a.s, .int .i64 a.n, .int .i64 a.f.on, .int .i64 a.f.keep, .int .i64 a.f.torn] 36 (0, 0)) ∧ (((w.alloc (.cells #[.pointer (some ⟨d, 0, none⟩), .slice fa D.rs.length fc, .int .i64 D.a.room, .slice la (flen D.a.fall) lc, .int .i64 D.a.changes, .bool D.a.down] 29)).alloc (.cells #[.int .i64 8, .string a.name, .string a.dst, .string a.s, .int .i64 a.n, .int .i64 a.f.on, .int .i64 a.f.keep, .int .i64 a.f.torn] 36)).alloc (.cells #[Value.pointer none, Value.slice none 0 0, Value.int IntKind.i64 0, Value.slice none 0 0, Value.int IntKind.i64 0, Value.bool false] 29)).heap[w.heap.size + 2]? = some (.cells #[Value.pointer none, Value.slice none 0 0, Value.int IntKind.i64 0, Value.slice none 0 0, Value.int IntKind.i64 0, Value.bool false] 29 (0, 0)) ∧ Below w.heap.size w (((w.alloc (.cells #[.pointer (some ⟨d, 0, none⟩), .slice fa D.rs.length fc, .int .i64 D.a.room, .slice la (flen D.a.fall) lc, .int .i64 D.a.changes, .bool D.a.down] 29)).alloc (.cells #[.int .i64 8, .string a.name, .string a.dst, .string a.s, .int .i64 a.n, .int .i64 a.f.on, .int .i64 a.f.keep, .int .i64 a.f.torn] 36)).alloc (.cells #[Value.pointer none, Value.slice none 0 0, Value.int IntKind.i64 0, Value.slice none 0 0, Value.int IntKind.i64 0, Value.bool false] 29))) := three_below (Below.refl _ _)
  have hW := h.below HW.out.2.2.2
  have HEND : Hid (∀ (T : WD) (D' : RD) w', Both Try.prog base (K + 1) d w' T D' → D'.a = D.a.actOf a → Dsk base w w' → Acted Try.prog base K d w (D.a.actOf a) (.returned (.tuple #[sideV d D', .bool true])) w') := fun T D' w' h1 h2 h3 => ⟨T, D', rfl, h1, h2, h3⟩
  have HA := hide (act_kind8 (z := D.a) hk)
  have HPROG : Hid (Calls Try.prog 23 #[.pointer (some ⟨d, 0, none⟩), .int .i64 a.n] (((w.alloc (.cells #[.pointer (some ⟨d, 0, none⟩), .slice fa D.rs.length fc, .int .i64 D.a.room, .slice la (flen D.a.fall) lc, .int .i64 D.a.changes, .bool D.a.down] 29)).alloc (.cells #[.int .i64 8, .string a.name, .string a.dst, .string a.s, .int .i64 a.n, .int .i64 a.f.on, .int .i64 a.f.keep, .int .i64 a.f.torn] 36)).alloc (.cells #[Value.pointer none, Value.slice none 0 0, Value.int IntKind.i64 0, Value.slice none 0 0, Value.int IntKind.i64 0, Value.bool false] 29)) fun e w' => e = .returned (.tuple #[]) ∧ ∃ T : WD, T.a = { D.a with room := a.n } ∧ DiskAt Try.prog base K d w' T ∧ Dsk base (((w.alloc (.cells #[.pointer (some ⟨d, 0, none⟩), .slice fa D.rs.length fc, .int .i64 D.a.room, .slice la (flen D.a.fall) lc, .int .i64 D.a.changes, .bool D.a.down] 29)).alloc (.cells #[.int .i64 8, .string a.name, .string a.dst, .string a.s, .int .i64 a.n, .int .i64 a.f.on, .int .i64 a.f.keep, .int .i64 a.f.torn] 36)).alloc (.cells #[Value.pointer none, Value.slice none 0 0, Value.int IntKind.i64 0, Value.slice none 0 0, Value.int IntKind.i64 0, Value.bool false] 29)) w') := by
    have := room_op base K d S a.n _ hW.disk
    rw [h.same] at this
    exact this
  have HMAKE : Hid (∀ (T : WD) w1, T.a = { D.a with room := a.n } → DiskAt Try.prog base K d w1 T → Dsk base (((w.alloc (.cells #[.pointer (some ⟨d, 0, none⟩), .slice fa D.rs.length fc, .int .i64 D.a.room, .slice la (flen D.a.fall) lc, .int .i64 D.a.changes, .bool D.a.down] 29)).alloc (.cells #[.int .i64 8, .string a.name, .string a.dst, .string a.s, .int .i64 a.n, .int .i64 a.f.on, .int .i64 a.f.keep, .int .i64 a.f.torn] 36)).alloc (.cells #[Value.pointer none, Value.slice none 0 0, Value.int IntKind.i64 0, Value.slice none 0 0, Value.int IntKind.i64 0, Value.bool false] 29)) w1 → Both Try.prog base (K + 1) d w1 T ⟨{ D.a with room := a.n }, D.fv, D.lv, D.rs⟩) := fun T w1 h1 h2 h6 => by
    have hr := (hW.ref.dsk h6).mono (Nat.le_succ K) hK
    exact ⟨h2.mono (Nat.le_succ K) hK, ⟨hr.files, hr.puts, hr.same, hr.falls, hr.rises, hr.small, hr.count, hr.chg, hr.lim⟩, h1, Nat.le_trans hW.start h6.size, hf.n.2⟩
  generalize hX : Acted Try.prog base K d w (D.a.actOf a) = X at *
  clear hX HV h hW
  unfold sideV sideCs Ac.v Ac.cs
  rw [hfv, hlv, hk]
  clear hk
  go_enter Try.func9, Try.ntmps9
  go_wp2_with (go_at_call 23; refine (HPROG.out).mono ?_; rintro e w1 ⟨rfl, T, hT, hD1, hk1⟩; have HQ := hide (And.intro (box_kept hk1 HW.out.1 (by simp [dkind])) (And.intro (box_kept hk1 HW.out.2.1 (by simp [dkind])) (And.intro (box_kept hk1 HW.out.2.2.1 (by simp [dkind])) (And.intro hT (And.intro hD1 hk1))))); clear hT hD1 hk1; obtain ⟨c0, c1, c2, c3, c4, c5⟩ := cells6s HQ.out.1; obtain ⟨f0, f1, f2, f3, f4, f5⟩ := frozen6s HQ.out.1; obtain ⟨g0, g1, g2, g3, g4, g5, g6, g7⟩ := cells8 HQ.out.2.1; obtain ⟨d0, d1, d2, d3, d4, d5⟩ := cells6s HQ.out.2.2.1; obtain ⟨e0, e1, e2, e3, e4, e5⟩ := frozen6s HQ.out.2.2.1)
  have hDsk : Dsk base w w1 := (Dsk.of_below HW.out.2.2.2).trans HQ.out.2.2.2.2.2
  have hBoth := HMAKE.out T w1 HQ.out.2.2.2.1 HQ.out.2.2.2.2.1 HQ.out.2.2.2.2.2
  have t1 := tch_set w1 w.heap.size 2 (.int .i64 a.n)
  have r4 := tch_kept HQ.out.2.2.1 t1 (by omega)
  have t2 := tch_set6 (w1.setCell ⟨w.heap.size, 2, none⟩ (.int .i64 a.n)) (w.heap.size + 2) (.pointer (some ⟨d, 0, none⟩)) (.slice fa D.rs.length fc) (.int .i64 a.n) (.slice la (flen D.a.fall) lc) (.int .i64 D.a.changes) (.bool D.a.down)
  refine bodyPost_ret (results_cell2_row Try.results9 _ _ _ 29 _ (0, 0) _ rfl (set6 r4 _ _ _ _ _ _) Try.underlying29 rfl infoSide) rfl ?_
  have := HEND.out T _ _ ((hBoth.turned HQ.out.1 t1).turned r4 t2) HA.out.symm ((hDsk.own (Nat.le_refl _) t1).own (Nat.le_add_right _ 2) t2)
  unfold sideV sideCs at this
  rw [hfv, hlv] at this
  exact this
set_option maxRecDepth 100000 in
set_option maxHeartbeats 4000000 in
theorem act_files (base K d : Nat) (S : WD) (D : RD) (a : Ac) (w : World) (h : Both Try.prog base K d w S D) (hf : a.Fits) (hK : K + 1 ≤ 100000) (hk6 : (a.kind == 6) = false) (hk7 : (a.kind == 7) = false) (hk8 : (a.kind == 8) = false) (hk9 : (a.kind == 9) = false) : Calls Try.prog 9 #[sideV d D, a.v] w (Acted Try.prog base K d w (D.a.actOf a)) := by
  obtain ⟨la, lc, hlv⟩ := Sees.form h.ref.falls
  obtain ⟨fa, fc, hfv⟩ := Sees.form h.ref.files
  have HA : Hid (D.a.actOf a = (D.a.fileAct a).1) := by
    unfold A.actOf
    rw [Hid, if_neg (by simpa using hk6), if_neg (by simpa using hk7), if_neg (by simpa using hk8), if_neg (by simpa using hk9)]
  have HW : Hid ((((w.alloc (.cells #[.pointer (some ⟨d, 0, none⟩), .slice fa D.rs.length fc, .int .i64 D.a.room, .slice la (flen D.a.fall) lc, .int .i64 D.a.changes, .bool D.a.down] 29)).alloc (.cells #[.int .i64 a.kind, .string a.name, .string a.dst, .string a.s, .int .i64 a.n, .int .i64 a.f.on, .int .i64 a.f.keep, .int .i64 a.f.torn] 36)).alloc (.cells #[Value.pointer none, Value.slice none 0 0, Value.int IntKind.i64 0, Value.slice none 0 0, Value.int IntKind.i64 0, Value.bool false] 29)).heap[w.heap.size]? = some (.cells #[.pointer (some ⟨d, 0, none⟩), .slice fa D.rs.length fc, .int .i64 D.a.room, .slice la (flen D.a.fall) lc, .int .i64 D.a.changes, .bool D.a.down] 29 (0, 0)) ∧ (((w.alloc (.cells #[.pointer (some ⟨d, 0, none⟩), .slice fa D.rs.length fc, .int .i64 D.a.room, .slice la (flen D.a.fall) lc, .int .i64 D.a.changes, .bool D.a.down] 29)).alloc (.cells #[.int .i64 a.kind, .string a.name, .string a.dst, .string a.s, .int .i64 a.n, .int .i64 a.f.on, .int .i64 a.f.keep, .int .i64 a.f.torn] 36)).alloc (.cells #[Value.pointer none, Value.slice none 0 0, Value.int IntKind.i64 0, Value.slice none 0 0, Value.int IntKind.i64 0, Value.bool false] 29)).heap[w.heap.size + 1]? = some (.cells #[.int .i64 a.kind, .string a.name, .string a.dst, .string a.s, .int .i64 a.n, .int .i64 a.f.on, .int .i64 a.f.keep, .int .i64 a.f.torn] 36 (0, 0)) ∧ (((w.alloc (.cells #[.pointer (some ⟨d, 0, none⟩), .slice fa D.rs.length fc, .int .i64 D.a.room, .slice la (flen D.a.fall) lc, .int .i64 D.a.changes, .bool D.a.down] 29)).alloc (.cells #[.int .i64 a.kind, .string a.name, .string a.dst, .string a.s, .int .i64 a.n, .int .i64 a.f.on, .int .i64 a.f.keep, .int .i64 a.f.torn] 36)).alloc (.cells #[Value.pointer none, Value.slice none 0 0, Value.int IntKind.i64 0, Value.slice none 0 0, Value.int IntKind.i64 0, Value.bool false] 29)).heap[w.heap.size + 2]? = some (.cells #[Value.pointer none, Value.slice none 0 0, Value.int IntKind.i64 0, Value.slice none 0 0, Value.int IntKind.i64 0, Value.bool false] 29 (0, 0)) ∧ Below w.heap.size w (((w.alloc (.cells #[.pointer (some ⟨d, 0, none⟩), .slice fa D.rs.length fc, .int .i64 D.a.room, .slice la (flen D.a.fall) lc, .int .i64 D.a.changes, .bool D.a.down] 29)).alloc (.cells #[.int .i64 a.kind, .string a.name, .string a.dst, .string a.s, .int .i64 a.n, .int .i64 a.f.on, .int .i64 a.f.keep, .int .i64 a.f.torn] 36)).alloc (.cells #[Value.pointer none, Value.slice none 0 0, Value.int IntKind.i64 0, Value.slice none 0 0, Value.int IntKind.i64 0, Value.bool false] 29))) := three_below (Below.refl _ _)
  have hW := h.below HW.out.2.2.2
  have HFILES : Hid (Calls Try.prog 33 #[.agg #[.pointer (some ⟨d, 0, none⟩), .slice fa D.rs.length fc, .int .i64 D.a.room, .slice la (flen D.a.fall) lc, .int .i64 D.a.changes, .bool D.a.down], .agg #[.int .i64 a.kind, .string a.name, .string a.dst, .string a.s, .int .i64 a.n, .int .i64 a.f.on, .int .i64 a.f.keep, .int .i64 a.f.torn]] (((w.alloc (.cells #[.pointer (some ⟨d, 0, none⟩), .slice fa D.rs.length fc, .int .i64 D.a.room, .slice la (flen D.a.fall) lc, .int .i64 D.a.changes, .bool D.a.down] 29)).alloc (.cells #[.int .i64 a.kind, .string a.name, .string a.dst, .string a.s, .int .i64 a.n, .int .i64 a.f.on, .int .i64 a.f.keep, .int .i64 a.f.torn] 36)).alloc (.cells #[Value.pointer none, Value.slice none 0 0, Value.int IntKind.i64 0, Value.slice none 0 0, Value.int IntKind.i64 0, Value.bool false] 29)) (Filed Try.prog base K d (((w.alloc (.cells #[.pointer (some ⟨d, 0, none⟩), .slice fa D.rs.length fc, .int .i64 D.a.room, .slice la (flen D.a.fall) lc, .int .i64 D.a.changes, .bool D.a.down] 29)).alloc (.cells #[.int .i64 a.kind, .string a.name, .string a.dst, .string a.s, .int .i64 a.n, .int .i64 a.f.on, .int .i64 a.f.keep, .int .i64 a.f.torn] 36)).alloc (.cells #[Value.pointer none, Value.slice none 0 0, Value.int IntKind.i64 0, Value.slice none 0 0, Value.int IntKind.i64 0, Value.bool false] 29)) D (D.a.fileAct a))) := by
    have := files_any base K d S D a _ hW hf hK
    unfold sideV sideCs Ac.v Ac.cs at this
    rw [hfv, hlv] at this
    exact this
  have HEND : Hid (∀ (T : WD) (D' : RD) w', Both Try.prog base (K + 1) d w' T D' → D'.a = (D.a.fileAct a).1 → Dsk base w w' → Acted Try.prog base K d w (D.a.actOf a) (.returned (.tuple #[sideV d D', .bool true])) w') := fun T D' w' h1 h2 h3 => ⟨T, D', rfl, h1, h2.trans HA.out.symm, h3⟩
  generalize hX : Acted Try.prog base K d w (D.a.actOf a) = X at *
  generalize D.a.fileAct a = R at *
  clear hX h hW HA
  unfold Filed sideV sideCs at HFILES
  unfold sideV sideCs Ac.v Ac.cs
  rw [hfv, hlv]
  clear hfv hlv
  go_enter Try.func9, Try.ntmps9
  go_wp2_with (go_at_call 33; refine (HFILES.out).mono ?_; rintro e w1 ⟨T, D', rfl, hB, hD, hk1⟩; obtain ⟨fa', fc', hfv'⟩ := Sees.form hB.ref.files; obtain ⟨la', lc', hlv'⟩ := Sees.form hB.ref.falls; have HQ := hide (And.intro (box_kept hk1 HW.out.1 (by simp [dkind])) (And.intro (box_kept hk1 HW.out.2.2.1 (by simp [dkind])) (And.intro hB (And.intro hD hk1)))); clear hB hD hk1; obtain ⟨c0, c1, c2, c3, c4, c5⟩ := cells6s HQ.out.1; obtain ⟨f0, f1, f2, f3, f4, f5⟩ := frozen6s HQ.out.1; obtain ⟨d0, d1, d2, d3, d4, d5⟩ := cells6s HQ.out.2.1; obtain ⟨e0, e1, e2, e3, e4, e5⟩ := frozen6s HQ.out.2.1)
  have hDsk : Dsk base w w1 := (Dsk.of_below HW.out.2.2.2).trans HQ.out.2.2.2.2
  have t1 := tch_set6 w1 w.heap.size (.pointer (some ⟨d, 0, none⟩)) (Value.slice fa' D'.rs.length fc') (.int .i64 D'.a.room) (.slice la' (flen D'.a.fall) lc') (.int .i64 D'.a.changes) (.bool D'.a.down)
  have r4 := tch_kept HQ.out.2.1 t1 (by omega)
  have t2 := tch_set6 (put5 (w1.setCell ⟨w.heap.size, 0, none⟩ (.pointer (some ⟨d, 0, none⟩))) w.heap.size (Value.slice fa' D'.rs.length fc') (.int .i64 D'.a.room) (.slice la' (flen D'.a.fall) lc') (.int .i64 D'.a.changes) (.bool D'.a.down)) (w.heap.size + 2) (.pointer (some ⟨d, 0, none⟩)) (Value.slice fa' D'.rs.length fc') (.int .i64 D'.a.room) (.slice la' (flen D'.a.fall) lc') (.int .i64 D'.a.changes) (.bool D'.a.down)
  refine bodyPost_ret (results_cell2_row Try.results9 _ _ _ 29 _ (0, 0) _ rfl (set6 r4 _ _ _ _ _ _) Try.underlying29 rfl infoSide) rfl ?_
  have := HEND.out T D' _ ((HQ.out.2.2.1.turned HQ.out.1 t1).turned r4 t2) HQ.out.2.2.2.1 ((hDsk.own (Nat.le_refl _) t1).own (Nat.le_add_right _ 2) t2)
  unfold sideV sideCs at this
  rw [hfv', hlv'] at this
  exact this
end Go.Proofs.Ytnjkahoaogeecaa
