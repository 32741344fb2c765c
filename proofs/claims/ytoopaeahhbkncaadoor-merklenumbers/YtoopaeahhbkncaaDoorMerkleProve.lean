/- Contracts: whether a share's digests come to the file's. -/
import Derived.Test.YtoopaeahhbkncaaDoorMerkleClimb
import Derived.Test.YtoopaeahhbkncaaDoorMerkleClaim
namespace Go.Mk
open Go.RowKit
theorem cells6 {w : World} {g : Nat} {a b c d e f : Value} {T : TypeId} (h : w.heap[g]? = some (.cells #[a, b, c, d, e, f] T (0, 0))) :
    w.cell? ⟨g, 0, none⟩ = some a ∧ w.cell? ⟨g, 1, none⟩ = some b ∧ w.cell? ⟨g, 2, none⟩ = some c ∧ w.cell? ⟨g, 3, none⟩ = some d ∧ w.cell? ⟨g, 4, none⟩ = some e ∧ w.cell? ⟨g, 5, none⟩ = some f := by
  refine ⟨?_, ?_, ?_, ?_, ?_, ?_⟩ <;> (rw [cell_of_row _ _ _ _ _ _ h]; rfl)
/-- A block of one's own, and all that was there. -/
structure Bx (w : World) (g : Nat) (cs : Array Value) (T : TypeId) (W : World) : Prop where
  row : W.heap[g]? = some (.cells cs T (0, 0))
  below : Below w.heap.size w W
theorem Bx.step {w W W' : World} {g : Nat} {cs : Array Value} {T : TypeId} (h : Bx w g cs T W) (k : Below W.heap.size W W') : Bx w g cs T W' := by
  have hlt : g < W.heap.size := by
    rcases Nat.lt_or_ge g W.heap.size with y | y
    · exact y
    · have := h.row; rw [Array.getElem?_eq_none y] at this; cases this
  exact ⟨(k.block g hlt).trans h.row, h.below.trans (k.mono h.below.size)⟩
theorem Bx.new (w : World) (cs : Array Value) (T : TypeId) : Bx w w.heap.size cs T (w.alloc (.cells cs T)) := ⟨heap_alloc_new _ _, (Below.refl _ w).alloc (Nat.le_refl _) _⟩
theorem str_ne {a b : ByteArray} (h : a ≠ b) : (a.toList == b.toList) = false := by
  rw [beq_eq_false_iff_ne, ByteArray.toList_eq, ByteArray.toList_eq]
  exact fun e => h (by cases a; cases b; simp at e; rw [e])
theorem first_bad : ∀ (l : List ByteArray) (_ : ¬ ∀ h ∈ l, h.size = 32), ∃ q, q < l.length ∧ (∀ s, l[q]? = some s → ¬ s.size = 32) ∧ ∀ j s, j < q → l[j]? = some s → s.size = 32
  | [], h => absurd (fun _ hx => (by cases hx)) h
  | y :: l, h => by
    by_cases hy : y.size = 32
    · obtain ⟨q, h1, h2, h3⟩ := first_bad l (fun h' => h (fun x hx => by rcases List.mem_cons.1 hx with rfl | hx; exact hy; exact h' x hx))
      refine ⟨q + 1, by simp; omega, fun s hs => h2 s (by simpa using hs), fun j s hj hs => ?_⟩
      match j, hj, hs with
      | 0, _, hs => simp at hs; subst hs; exact hy
      | j + 1, hj, hs => exact h3 j s (by omega) (by simpa using hs)
    · exact ⟨0, by simp, fun s hs => by simp at hs; subst hs; exact hy, fun j s hj => by omega⟩
end Go.Mk
namespace Go.Proofs.YtoopaeahhbkncaaDoor
open Go.RowKit Go.Mk Go.Chunk
attribute [local go_sem] Oper.semAt_some
theorem run_eql_iface_nil_right {P : Program} (w : World) {ti : TypeId} {ms : Array (String × TypeId)} (tp : TypeId) (v : Value) (hi : P.underlying ti = some (.interface ms)) :
    (binOp .eql ti (.iface tp v) .nilIface).run P w = .ok (.bool false) w := by
  have h : ∀ d : Nat, (Op.equalIn (d + 1) ti (.iface tp v) .nilIface).run P w = .ok false w := fun d => by simp [Op.equalIn, run_underlying hi]
  simp only [binOp]
  simp [Op.equal, Op.maxDepth, h 9999]
theorem infoShare : (Tryd.prog.info? 45).map (·.size) = some 6 := by kernel_rfl
theorem proved_yes (x : Sh) (pv : Value) (w : World) (hC : x.Claims) (hP : x.Proves) (hr : StrRow.Reads w pv x.pa) (hst : Steps w) :
    Calls Tryd.prog 80 #[x.v pv] w fun e w' => e = .returned .nilIface ∧ Below w.heap.size w w' := by
  obtain ⟨dg, sz, mn, at_, ck, pa⟩ := x
  obtain ⟨h1, h2, h3, h4, h5, h6, h7⟩ := hC
  dsimp only [Sh.Proves] at h1 h2 h3 h4 h5 h6 h7 hP hr
  obtain ⟨m, rfl⟩ : ∃ m : Nat, mn = m := ⟨mn.toNat, by omega⟩
  obtain ⟨i, rfl⟩ : ∃ i : Nat, at_ = i := ⟨at_.toNat, by omega⟩
  obtain ⟨z, rfl⟩ : ∃ z : Nat, sz = z := ⟨sz.toNat, by omega⟩
  simp only [Int.toNat_natCast] at hP
  obtain ⟨a, c, rfl⟩ := hr.form
  have HW := hide (fun w => way_any m i w (by omega) (by omega) (by omega))
  have hw8 := way_eight i m (by omega) (by omega)
  obtain ⟨w1, hw1⟩ : ∃ w1, w1 = w.alloc (.cells #[.string dg, .int .i64 z, .int .i64 m, .int .i64 i, .string ck, .slice a pa.length c] 45) := ⟨_, rfl⟩
  have hbw : Below w.heap.size w w1 := by rw [hw1]; exact (Below.refl _ w).alloc (Nat.le_refl _) _
  have hsz1 : w1.heap.size = w.heap.size + 1 := by rw [hw1]; simp
  have hrow : w1.heap[w.heap.size]? = some (.cells #[.string dg, .int .i64 z, .int .i64 m, .int .i64 i, .string ck, .slice a pa.length c] 45 (0, 0)) := by rw [hw1]; exact heap_alloc_new _ _
  obtain ⟨c0, c1, c2, c3, c4, c5⟩ := cells6 hrow
  have HW1 := hide (And.intro hw1 (And.intro hbw hsz1))
  have HR := hide (hr.below hbw (Nat.le_refl _))
  have HST := hide (hst.kept hbw)
  clear hw1 hbw hsz1 hrow hr hst
  obtain ⟨p1, p2, p3⟩ := hP
  have HP := hide (And.intro p2 p3)
  have n1 : pa.length ≤ 8 := by omega
  have n2 : (pa.length : Int) ≤ 8 := by omega
  have HD := hide (fun (w' : World) (h : Below w1.heap.size w1 w') => digest_any ck w' (by omega) (HST.out.kept h))
  have HC := hide (fun (w' : World) (h : Below w1.heap.size w1 w') => climb_any m (digest ck) i _ pa w' (by omega) (by omega) (by omega) (digest_size ck) p1 p2 (HR.out.below h (Nat.le_refl _)) (HST.out.kept h))
  have hcs := climb_size (digest ck) i m pa (digest_size ck)
  have HF := hide (fun (w' : World) (h : Below w1.heap.size w1 w') => fileOf_any z m (climb (digest ck) i m pa) w' (by omega) (by omega) (by omega) (HST.out.kept h))
  rw [p3] at HF
  have hpw : (pa.length : Int) = way i m := by omega
  clear p1 p2 p3
  generalize climb (digest ck) i m pa = C at *
  generalize digest ck = D at *
  generalize way i m = wy at *
  have r0 := cell_regrown c0
  have r1 := cell_regrown c1
  have r2 := cell_regrown c2
  have r3 := cell_regrown c3
  have r4 := cell_regrown c4
  have r5 := cell_regrown c5
  go_enter Tryd.func80, Tryd.ntmps80
  go_upto_region 1 with fail
  rw [← HW1.out.1]
  go_wp2_with (go_at_call 101; refine (HW.out _).mono ?_; rintro e w2 ⟨rfl, hw⟩; subst hw)
  go_loopw [26] (fun vi wr => ∃ j : Nat, j ≤ pa.length ∧ vi = .int .i64 j ∧ Hid (wr = w2)) (fun vi _ => 8 - (intOf vi).toNat)
  case atStart => exact ⟨0, by omega, rfl, rfl⟩
  case round =>
    obtain ⟨j, hj, rfl, HE⟩ := hrel
    have he := HE.out
    subst he
    clear HE
    by_cases hlt : j < pa.length
    · obtain ⟨b, off, cap, hv, hcap, hbl⟩ := HR.out.at (by intro h; rw [h] at hlt; simp at hlt)
      simp only [Value.slice.injEq, true_and] at hv
      obtain ⟨rfl, rfl⟩ := hv
      obtain ⟨s, hs⟩ : ∃ s, pa[j]? = some s := ⟨_, List.getElem?_eq_getElem hlt⟩
      have hss : s.size = 32 := HP.out.1 s (List.mem_of_getElem? hs)
      have hcell := HR.out.cell hs
      have hlt2 : (j : Int) < pa.length := by omega
      clear hs r0 r1 r2 r3 r4 r5
      go_wp2_with fail
      go_roundw
      case rel => exact ⟨j + 1, by omega, by go_num, trivial⟩
      case measure => simp [intOf]; omega
    · have hlt2 : ¬ ((j : Int) < pa.length) := by omega
      go_wp2_with fail
      refine QuietCalls.region (by kernel_rfl) (by kernel_rfl) ?_
      iterate 6 first | go_big_quiet_step (fail) | quiet_step (fail)
      refine QuietCalls.call1 rfl rfl Tryd.call18 (fun w h => HD.out w h) rfl ?_; simp only [Act.put, List.setIfInBounds_toArray, List.set_cons_succ, List.set_cons_zero]
      iterate 6 first | go_big_quiet_step (fail) | quiet_step (fail)
      refine QuietCalls.call4 rfl rfl Tryd.call102 (fun w h => HC.out w h) rfl rfl rfl rfl ?_; simp only [Act.put, List.setIfInBounds_toArray, List.set_cons_succ, List.set_cons_zero]
      refine QuietCalls.call3 rfl rfl Tryd.call45 (fun w h => HF.out w h) rfl rfl rfl ?_; simp only [Act.put, List.setIfInBounds_toArray, List.set_cons_succ, List.set_cons_zero]
      iterate 3 first | go_big_quiet_step (fail) | quiet_step (fail)
      refine wpQuiet_nil ?_
      intro w3 hb3
      have HB3 := hide (HW1.out.2.1.trans (hb3.mono HW1.out.2.1.size))
      clear hb3 r0 r1 r2 r3 r4 r5
      go_wp2_with fail
      go_ret
      exact ⟨rfl, HB3.out⟩
theorem proved_len (x : Sh) (pv : Value) (w : World) (hC : x.Claims) (hP : x.pa.length ≠ way x.at_.toNat x.mn.toNat) (hr : StrRow.Reads w pv x.pa) (hst : Steps w) :
    Calls Tryd.prog 80 #[x.v pv] w fun e w' => ∃ g, e = .returned (.iface 129 (.pointer (some ⟨g, 0, none⟩))) ∧ Below w.heap.size w w' := by
  obtain ⟨dg, sz, mn, at_, ck, pa⟩ := x
  obtain ⟨h1, h2, h3, h4, h5, h6, h7⟩ := hC
  dsimp only at h1 h2 h3 h4 h5 h6 h7 hP hr
  obtain ⟨m, rfl⟩ : ∃ m : Nat, mn = m := ⟨mn.toNat, by omega⟩
  obtain ⟨i, rfl⟩ : ∃ i : Nat, at_ = i := ⟨at_.toNat, by omega⟩
  obtain ⟨z, rfl⟩ : ∃ z : Nat, sz = z := ⟨sz.toNat, by omega⟩
  simp only [Int.toNat_natCast] at hP
  obtain ⟨a, c, rfl⟩ := hr.form
  have HW := hide (fun w => way_any m i w (by omega) (by omega) (by omega))
  have hw8 := way_eight i m (by omega) (by omega)
  obtain ⟨w1, hw1⟩ : ∃ w1, w1 = w.alloc (.cells #[.string dg, .int .i64 z, .int .i64 m, .int .i64 i, .string ck, .slice a pa.length c] 45) := ⟨_, rfl⟩
  have hbw : Below w.heap.size w w1 := by rw [hw1]; exact (Below.refl _ w).alloc (Nat.le_refl _) _
  have hsz1 : w1.heap.size = w.heap.size + 1 := by rw [hw1]; simp
  have hrow : w1.heap[w.heap.size]? = some (.cells #[.string dg, .int .i64 z, .int .i64 m, .int .i64 i, .string ck, .slice a pa.length c] 45 (0, 0)) := by rw [hw1]; exact heap_alloc_new _ _
  obtain ⟨c0, c1, c2, c3, c4, c5⟩ := cells6 hrow
  have HW1 := hide (And.intro hw1 (And.intro hbw hsz1))
  have HR := hide (hr.below hbw (Nat.le_refl _))
  have HST := hide (hst.kept hbw)
  clear hw1 hbw hsz1 hrow hr hst
  have hpw : ¬ ((pa.length : Int) = way i m) := by omega
  generalize way i m = wy at *
  go_enter Tryd.func80, Tryd.ntmps80
  go_upto_region 1 with fail
  rw [← HW1.out.1]
  go_wp2_with (go_at_call 101; refine (HW.out _).mono ?_; rintro e w2 ⟨rfl, hw⟩; subst hw)
  go_ret
  first | exact ⟨_, rfl, HW1.out.2.1.alloc HW1.out.2.1.size _⟩ | exact ⟨⟨_, rfl⟩, HW1.out.2.1.alloc HW1.out.2.1.size _⟩
theorem proved_stump (x : Sh) (pv : Value) (w : World) (hC : x.Claims) (hL : x.pa.length = way x.at_.toNat x.mn.toNat) (hP : ¬ ∀ h ∈ x.pa, h.size = 32) (hr : StrRow.Reads w pv x.pa) (hst : Steps w) :
    Calls Tryd.prog 80 #[x.v pv] w fun e w' => ∃ g, e = .returned (.iface 132 (.pointer (some ⟨g, 0, none⟩))) ∧ Below w.heap.size w w' := by
  obtain ⟨dg, sz, mn, at_, ck, pa⟩ := x
  obtain ⟨h1, h2, h3, h4, h5, h6, h7⟩ := hC
  dsimp only at h1 h2 h3 h4 h5 h6 h7 hP hL hr
  obtain ⟨m, rfl⟩ : ∃ m : Nat, mn = m := ⟨mn.toNat, by omega⟩
  obtain ⟨i, rfl⟩ : ∃ i : Nat, at_ = i := ⟨at_.toNat, by omega⟩
  obtain ⟨z, rfl⟩ : ∃ z : Nat, sz = z := ⟨sz.toNat, by omega⟩
  obtain ⟨a, c, rfl⟩ := hr.form
  have HW := hide (fun w => way_any m i w (by omega) (by omega) (by omega))
  have hw8 := way_eight i m (by omega) (by omega)
  obtain ⟨w1, hw1⟩ : ∃ w1, w1 = w.alloc (.cells #[.string dg, .int .i64 z, .int .i64 m, .int .i64 i, .string ck, .slice a pa.length c] 45) := ⟨_, rfl⟩
  have hbw : Below w.heap.size w w1 := by rw [hw1]; exact (Below.refl _ w).alloc (Nat.le_refl _) _
  have hsz1 : w1.heap.size = w.heap.size + 1 := by rw [hw1]; simp
  have hrow : w1.heap[w.heap.size]? = some (.cells #[.string dg, .int .i64 z, .int .i64 m, .int .i64 i, .string ck, .slice a pa.length c] 45 (0, 0)) := by rw [hw1]; exact heap_alloc_new _ _
  obtain ⟨c0, c1, c2, c3, c4, c5⟩ := cells6 hrow
  have HW1 := hide (And.intro hw1 (And.intro hbw hsz1))
  have HR := hide (hr.below hbw (Nat.le_refl _))
  have HST := hide (hst.kept hbw)
  clear hw1 hbw hsz1 hrow hr hst
  simp only [Int.toNat_natCast] at hL
  have n1 : pa.length ≤ 8 := by omega
  have n2 : (pa.length : Int) ≤ 8 := by omega
  have hpw : (pa.length : Int) = way i m := by omega
  clear hL
  generalize way i m = wy at *
  obtain ⟨q, hq, hq1, hq2⟩ := first_bad pa hP
  have HQ := hide hq2
  clear hP hq2
  go_enter Tryd.func80, Tryd.ntmps80
  go_upto_region 1 with fail
  rw [← HW1.out.1]
  go_wp2_with (go_at_call 101; refine (HW.out _).mono ?_; rintro e w2 ⟨rfl, hw⟩; subst hw)
  go_loopw [26] (fun vi wr => ∃ j : Nat, j ≤ q ∧ vi = .int .i64 j ∧ Hid (wr = w2)) (fun vi _ => 8 - (intOf vi).toNat)
  case atStart => exact ⟨0, by omega, rfl, rfl⟩
  case round =>
    obtain ⟨j, hj, rfl, HE⟩ := hrel
    have he := HE.out
    subst he
    clear HE
    have hlt : j < pa.length := by omega
    obtain ⟨b, off, cap, hv, hcap, hbl⟩ := HR.out.at (by intro h; rw [h] at hlt; simp at hlt)
    simp only [Value.slice.injEq, true_and] at hv
    obtain ⟨rfl, rfl⟩ := hv
    obtain ⟨s, hs⟩ : ∃ s, pa[j]? = some s := ⟨_, List.getElem?_eq_getElem hlt⟩
    have hcell := HR.out.cell hs
    have hlt2 : (j : Int) < pa.length := by omega
    by_cases hjq : j < q
    · have hss : s.size = 32 := HQ.out j s hjq hs
      clear hs hq1
      go_wp2_with fail
      go_roundw
      case rel => exact ⟨j + 1, by omega, by go_num, trivial⟩
      case measure => simp [intOf]; omega
    · have hjq' : j = q := by omega
      subst hjq'
      have hss : ¬ ((s.size : Int) = 32) := fun h => hq1 s hs (by omega)
      clear hs hq1
      go_wp2_with fail
      go_ret
      first | exact ⟨_, rfl, HW1.out.2.1.alloc HW1.out.2.1.size _⟩ | exact ⟨⟨_, rfl⟩, HW1.out.2.1.alloc HW1.out.2.1.size _⟩
theorem proved_unlike (x : Sh) (pv : Value) (w : World) (hC : x.Claims) (p1 : x.pa.length = way x.at_.toNat x.mn.toNat) (p2 : ∀ h ∈ x.pa, h.size = 32) (p3 : named x.sz.toNat x.mn.toNat (climb (digest x.ck) x.at_.toNat x.mn.toNat x.pa) ≠ x.dg) (hr : StrRow.Reads w pv x.pa) (hst : Steps w) :
    Calls Tryd.prog 80 #[x.v pv] w fun e w' => ∃ g, e = .returned (.iface 136 (.pointer (some ⟨g, 0, none⟩))) ∧ Below w.heap.size w w' := by
  obtain ⟨dg, sz, mn, at_, ck, pa⟩ := x
  obtain ⟨h1, h2, h3, h4, h5, h6, h7⟩ := hC
  dsimp only at h1 h2 h3 h4 h5 h6 h7 p1 p2 p3 hr
  obtain ⟨m, rfl⟩ : ∃ m : Nat, mn = m := ⟨mn.toNat, by omega⟩
  obtain ⟨i, rfl⟩ : ∃ i : Nat, at_ = i := ⟨at_.toNat, by omega⟩
  obtain ⟨z, rfl⟩ : ∃ z : Nat, sz = z := ⟨sz.toNat, by omega⟩
  obtain ⟨a, c, rfl⟩ := hr.form
  have HW := hide (fun w => way_any m i w (by omega) (by omega) (by omega))
  have hw8 := way_eight i m (by omega) (by omega)
  obtain ⟨w1, hw1⟩ : ∃ w1, w1 = w.alloc (.cells #[.string dg, .int .i64 z, .int .i64 m, .int .i64 i, .string ck, .slice a pa.length c] 45) := ⟨_, rfl⟩
  have hbw : Below w.heap.size w w1 := by rw [hw1]; exact (Below.refl _ w).alloc (Nat.le_refl _) _
  have hsz1 : w1.heap.size = w.heap.size + 1 := by rw [hw1]; simp
  have hrow : w1.heap[w.heap.size]? = some (.cells #[.string dg, .int .i64 z, .int .i64 m, .int .i64 i, .string ck, .slice a pa.length c] 45 (0, 0)) := by rw [hw1]; exact heap_alloc_new _ _
  obtain ⟨c0, c1, c2, c3, c4, c5⟩ := cells6 hrow
  have HW1 := hide (And.intro hw1 (And.intro hbw hsz1))
  have HR := hide (hr.below hbw (Nat.le_refl _))
  have HST := hide (hst.kept hbw)
  clear hw1 hbw hsz1 hrow hr hst
  simp only [Int.toNat_natCast] at p1 p3
  have HP := hide p2
  have n1 : pa.length ≤ 8 := by omega
  have n2 : (pa.length : Int) ≤ 8 := by omega
  have HD := hide (fun (w' : World) (h : Below w1.heap.size w1 w') => digest_any ck w' (by omega) (HST.out.kept h))
  have HC := hide (fun (w' : World) (h : Below w1.heap.size w1 w') => climb_any m (digest ck) i _ pa w' (by omega) (by omega) (by omega) (digest_size ck) p1 p2 (HR.out.below h (Nat.le_refl _)) (HST.out.kept h))
  have hcs := climb_size (digest ck) i m pa (digest_size ck)
  have HF := hide (fun (w' : World) (h : Below w1.heap.size w1 w') => fileOf_any z m (climb (digest ck) i m pa) w' (by omega) (by omega) (by omega) (HST.out.kept h))
  have hpw : (pa.length : Int) = way i m := by omega
  clear p1 p2
  generalize named z m (climb (digest ck) i m pa) = NM at *
  generalize climb (digest ck) i m pa = C at *
  generalize digest ck = D at *
  generalize way i m = wy at *
  have p4 := str_ne p3
  have r0 := cell_regrown c0
  have r1 := cell_regrown c1
  have r2 := cell_regrown c2
  have r3 := cell_regrown c3
  have r4 := cell_regrown c4
  have r5 := cell_regrown c5
  go_enter Tryd.func80, Tryd.ntmps80
  go_upto_region 1 with fail
  rw [← HW1.out.1]
  go_wp2_with (go_at_call 101; refine (HW.out _).mono ?_; rintro e w2 ⟨rfl, hw⟩; subst hw)
  go_loopw [26] (fun vi wr => ∃ j : Nat, j ≤ pa.length ∧ vi = .int .i64 j ∧ Hid (wr = w2)) (fun vi _ => 8 - (intOf vi).toNat)
  case atStart => exact ⟨0, by omega, rfl, rfl⟩
  case round =>
    obtain ⟨j, hj, rfl, HE⟩ := hrel
    have he := HE.out
    subst he
    clear HE
    by_cases hlt : j < pa.length
    · obtain ⟨b, off, cap, hv, hcap, hbl⟩ := HR.out.at (by intro h; rw [h] at hlt; simp at hlt)
      simp only [Value.slice.injEq, true_and] at hv
      obtain ⟨rfl, rfl⟩ := hv
      obtain ⟨s, hs⟩ : ∃ s, pa[j]? = some s := ⟨_, List.getElem?_eq_getElem hlt⟩
      have hss : s.size = 32 := HP.out s (List.mem_of_getElem? hs)
      have hcell := HR.out.cell hs
      have hlt2 : (j : Int) < pa.length := by omega
      clear hs r0 r1 r2 r3 r4 r5
      go_wp2_with fail
      go_roundw
      case rel => exact ⟨j + 1, by omega, by go_num, trivial⟩
      case measure => simp [intOf]; omega
    · have hlt2 : ¬ ((j : Int) < pa.length) := by omega
      go_wp2_with fail
      refine QuietCalls.region (by kernel_rfl) (by kernel_rfl) ?_
      iterate 6 first | go_big_quiet_step (fail) | quiet_step (fail)
      refine QuietCalls.call1 rfl rfl Tryd.call18 (fun w h => HD.out w h) rfl ?_; simp only [Act.put, List.setIfInBounds_toArray, List.set_cons_succ, List.set_cons_zero]
      iterate 6 first | go_big_quiet_step (fail) | quiet_step (fail)
      refine QuietCalls.call4 rfl rfl Tryd.call102 (fun w h => HC.out w h) rfl rfl rfl rfl ?_; simp only [Act.put, List.setIfInBounds_toArray, List.set_cons_succ, List.set_cons_zero]
      refine QuietCalls.call3 rfl rfl Tryd.call45 (fun w h => HF.out w h) rfl rfl rfl ?_; simp only [Act.put, List.setIfInBounds_toArray, List.set_cons_succ, List.set_cons_zero]
      iterate 3 first | go_big_quiet_step (fail) | quiet_step (fail)
      refine wpQuiet_nil ?_
      intro w3 hb3
      have HB3 := hide (HW1.out.2.1.trans (hb3.mono HW1.out.2.1.size))
      clear hb3 r0 r1 r2 r3 r4 r5
      go_wp2_with fail
      go_ret
      first | exact ⟨_, rfl, HB3.out.alloc HB3.out.size _⟩ | exact ⟨⟨_, rfl⟩, HB3.out.alloc HB3.out.size _⟩
/-- Why a share shows nothing. -/
theorem why_yes (x : Sh) (pv : Value) (w : World) (hC : x.Claims) (hP : x.Proves) (hr : StrRow.Reads w pv x.pa) (hst : Steps w) :
    Calls Tryd.prog 54 #[x.v pv] w fun e w' => e = .returned .nilIface ∧ Below w.heap.size w w' := by
  have H1 := hide (fun w => claimed_yes x pv w hC)
  have H2 := hide (fun (w' : World) (h : Below w.heap.size w w') => proved_yes x pv w' hC hP (hr.below h (Nat.le_refl _)) (hst.kept h))
  obtain ⟨dg, sz, mn, at_, ck, pa⟩ := x
  dsimp only [Sh.v] at H1 H2 ⊢
  clear hC hP hr hst
  go_enter Tryd.func54, Tryd.ntmps54
  go_upto_region 1 with fail
  have I := hide (Bx.new w #[.string dg, .int .i64 sz, .int .i64 mn, .int .i64 at_, .string ck, pv] 45)
  generalize w.alloc (.cells #[.string dg, .int .i64 sz, .int .i64 mn, .int .i64 at_, .string ck, pv] 45) = W at *
  go_wp2_with (first
    | (refine wpList_load_row rfl 45 _ rfl _ rfl _ _ _ _ I.out.row Tryd.underlying45 rfl infoShare ?_)
    | (go_at_call 79; refine (H1.out _).mono ?_; rintro e w2 ⟨rfl, hb⟩; replace I := hide (I.out.step hb); clear hb)
    | (go_at_call 80; refine (H2.out _ I.out.below).mono ?_; rintro e w3 ⟨rfl, hb⟩; replace I := hide (I.out.step hb); clear hb))
  go_ret
  exact ⟨rfl, I.out.below⟩
/-- What stands in why a share shows nothing. -/
def Unshown (w : World) (t : TypeId) (e : Ending) (w' : World) : Prop := ∃ u at_ v, e = .returned (.iface 104 (.pointer (some ⟨u, 0, none⟩))) ∧ w'.heap[u]? = some (.cells #[.int .i64 at_, .iface t v] 106 (0, 0)) ∧ Below w.heap.size w w'
theorem why_claim (x : Sh) (pv : Value) (w : World) (hC : ¬ x.Claims) :
    Calls Tryd.prog 54 #[x.v pv] w fun e w' => Unshown w 125 e w' := by
  have H1 := hide (fun w => claimed_no x pv w hC)
  obtain ⟨dg, sz, mn, at_, ck, pa⟩ := x
  dsimp only [Sh.v] at H1 ⊢
  clear hC
  go_enter Tryd.func54, Tryd.ntmps54
  go_upto_region 1 with fail
  have I := hide (Bx.new w #[.string dg, .int .i64 sz, .int .i64 mn, .int .i64 at_, .string ck, pv] 45)
  generalize w.alloc (.cells #[.string dg, .int .i64 sz, .int .i64 mn, .int .i64 at_, .string ck, pv] 45) = W at *
  have hn := fun (w : World) (v : Value) => run_eql_iface_nil_right (P := Tryd.prog) w 125 v Tryd.underlying79
  go_wp2_with (first
    | (refine wpList_load_row rfl 45 _ rfl _ rfl _ _ _ _ I.out.row Tryd.underlying45 rfl infoShare ?_)
    | (go_at_call 79; refine (H1.out _).mono ?_; rintro e w2 ⟨g, rfl, hb⟩; replace I := hide (I.out.step hb); clear hb; obtain ⟨c0, c1, c2, c3, c4, c5⟩ := cells6 I.out.row))
  go_ret
  exact ⟨_, _, _, rfl, heap_alloc_new _ _, I.out.below.alloc I.out.below.size _⟩
theorem why_proof (x : Sh) (pv : Value) (w : World) (t : TypeId) (hC : x.Claims) (H2 : Hid (∀ w' : World, Below w.heap.size w w' → Calls Tryd.prog 80 #[x.v pv] w' fun e w'' => ∃ g, e = .returned (.iface t (.pointer (some ⟨g, 0, none⟩))) ∧ Below w'.heap.size w' w'')) :
    Calls Tryd.prog 54 #[x.v pv] w fun e w' => Unshown w t e w' := by
  have H1 := hide (fun w => claimed_yes x pv w hC)
  obtain ⟨dg, sz, mn, at_, ck, pa⟩ := x
  dsimp only [Sh.v] at H1 H2 ⊢
  clear hC
  go_enter Tryd.func54, Tryd.ntmps54
  go_upto_region 1 with fail
  have I := hide (Bx.new w #[.string dg, .int .i64 sz, .int .i64 mn, .int .i64 at_, .string ck, pv] 45)
  generalize w.alloc (.cells #[.string dg, .int .i64 sz, .int .i64 mn, .int .i64 at_, .string ck, pv] 45) = W at *
  have hn := fun (w : World) (v : Value) => run_eql_iface_nil_right (P := Tryd.prog) w t v Tryd.underlying79
  go_wp2_with (first
    | (refine wpList_load_row rfl 45 _ rfl _ rfl _ _ _ _ I.out.row Tryd.underlying45 rfl infoShare ?_)
    | (go_at_call 79; refine (H1.out _).mono ?_; rintro e w2 ⟨rfl, hb⟩; replace I := hide (I.out.step hb); clear hb)
    | (go_at_call 80; refine (H2.out _ I.out.below).mono ?_; rintro e w3 ⟨g, rfl, hb⟩; replace I := hide (I.out.step hb); clear hb; obtain ⟨c0, c1, c2, c3, c4, c5⟩ := cells6 I.out.row))
  go_ret
  exact ⟨_, _, _, rfl, heap_alloc_new _ _, I.out.below.alloc I.out.below.size _⟩
end Go.Proofs.YtoopaeahhbkncaaDoor
