/- Several texts in one: NodeRef, NodeRefCheck, NodeRefBody. -/
import Derived.Test.YtcdmdpafkiljdaaDoorNodeOne
import Derived.Test.YtcdmdpafkiljdaaDoorQuietAll
import Derived.Test.YtcdmdpafkiljdaaDoorOpRefs
import Derived.Test.YtcdmdpafkiljdaaDoorWireMid
/- Contract: a node as the document has it. -/
namespace Go.Nod
open Go.RowKit Go.Wire Go.Opn
/-- A slice, cut behind nine. -/
def cut9 : Value → Value
  | .slice a n c => .slice a (min n 9) c
  | v => v
theorem cut9_reads {w : World} {pv : Value} {ps : List ByteArray} (h : StrRow.Reads w pv ps) : StrRow.Reads w (cut9 pv) (ps.take 9) := by
  rcases h with ⟨⟨a, cap, rfl⟩, rfl⟩ | ⟨b, off, cap, rfl, h2, h3, h4⟩
  · exact .inl ⟨⟨a, cap, rfl⟩, rfl⟩
  · refine .inr ⟨b, off, cap, ?_, h2, ?_, fun j s hj => ?_⟩
    · show Value.slice _ (min ps.length 9) cap = _
      rw [List.length_take, Nat.min_comm]
    · rw [List.length_take]; omega
    · have hlt : j < 9 := by
        have := (List.getElem?_eq_some_iff.1 hj).1
        rw [List.length_take] at this
        omega
      rw [List.getElem?_take_of_lt hlt] at hj
      exact h4 j s hj
theorem range_op {w : World} {g : Nat} {n : Nd} {pv : Value} {T : TypeId} (h : w.heap[g]? = some (.cells (n.cs pv) T (0, 0))) : w.rangeAt g 2 [.int .i64 n.op.kind, .int .u64 n.op.tm.c, .int .i64 n.op.tm.k, .int .u64 n.op.thing, .int .u64 n.op.par, .string n.op.name, .bool n.op.dir, .string n.op.dg, .int .i64 n.op.size] := by
  obtain ⟨_, _, c2, c3, c4, c5, c6, c7, c8, c9, c10, _⟩ := cells12 h
  intro j v hj
  match j, hj with
  | 0, hj => cases hj; exact c2
  | 1, hj => cases hj; exact c3
  | 2, hj => cases hj; exact c4
  | 3, hj => cases hj; exact c5
  | 4, hj => cases hj; exact c6
  | 5, hj => cases hj; exact c7
  | 6, hj => cases hj; exact c8
  | 7, hj => cases hj; exact c9
  | 8, hj => cases hj; exact c10
/-- A node of one kind in block g, one of another in the next. -/
structure Rn (w0 : World) (g : Nat) (cs zs : Array Value) (S R : TypeId) (w : World) : Prop where
  row : w.heap[g]? = some (.cells cs S (0, 0))
  z : w.heap[g + 1]? = some (.cells zs R (0, 0))
  below : Below w0.heap.size w0 w
theorem Rn.new (w : World) (cs : Array Value) (S : TypeId) (zs : Array Value) (R : TypeId) : Rn w w.heap.size cs zs S R ((w.alloc (.cells cs S)).alloc (.cells zs R)) :=
  ⟨kept_alloc (heap_alloc_new _ _) _, by have := heap_alloc_new (w.alloc (.cells cs S)) (.cells zs R); simpa using this, ((Below.refl _ _).alloc (Nat.le_refl _) _).alloc (by simp) _⟩
theorem Rn.step {w0 w w' : World} {g : Nat} {cs zs : Array Value} {S R : TypeId} (i : Rn w0 g cs zs S R w) (k : Below w.heap.size w w') : Rn w0 g cs zs S R w' :=
  ⟨kept_block i.row k, kept_block i.z k, i.below.trans (k.mono i.below.size)⟩
end Go.Nod
namespace Go.Proofs.YtcdmdpafkiljdaaDoor
open Go.RowKit Go.Wire Go.Stamp Go.Opn Go.Nod
attribute [local go_sem] Oper.semAt_some
theorem infoRNode : (Tryd.prog.info? 40).map (·.size) = some 12 := by kernel_rfl
set_option maxRecDepth 100000 in
set_option maxHeartbeats 1000000 in
theorem ref11_any (n : Nd) (pv : Value) (w : World) (hR : StrRow.Reads w pv n.ps) (hn : n.ps.length ≤ maxLen) :
    Calls Tryd.prog 8 #[n.v pv] w fun e w' => e = .returned ((Nd.mk n.au (n.ps.take 9) n.op n.tg).v (cut9 pv)) ∧ Below w.heap.size w w' := by
  have HR : Hid (∀ w, Calls Tryd.prog 21 #[n.op.v] w fun e w' => e = .returned n.op.v ∧ Below w.heap.size w w') := fun w => refOp_any n.op w
  unfold maxLen at hn
  by_cases h9 : 9 < n.ps.length
  · obtain ⟨b, off, cp, rfl, hcap, hbl⟩ := hR.at (by intro h; rw [h] at h9; simp at h9)
    have hcp : (9 : Int) ≤ cp := by omega
    have h9' : (9 : Int) < n.ps.length := by omega
    have e9 : cut9 (.slice (some ⟨b, off, none⟩) n.ps.length cp) = .slice (some ⟨b, off, none⟩) 9 cp := by show Value.slice _ (min n.ps.length 9) cp = _; rw [Nat.min_eq_right (by omega)]
    rw [e9]
    clear e9 hR hbl
    obtain ⟨au, ps, ⟨kd, ⟨c, k⟩, th, p, nm, d, g, z⟩, tg⟩ := n
    unfold Ob.v at HR
    unfold Nd.v Nd.cs at *
    dsimp only at *
    go_enter Tryd.func8, Tryd.ntmps8
    go_upto_region 4 with fail
    have HI := hide (Rn.new w ((Nd.mk au ps ⟨kd, ⟨c, k⟩, th, p, nm, d, g, z⟩ tg).cs (.slice (some ⟨b, off, none⟩) ps.length cp)) 29 #[.int .i64 0, .slice none 0 0, .int .i64 0, .int .u64 0, .int .i64 0, .int .u64 0, .int .u64 0, .string ⟨#[]⟩, .bool false, .string ⟨#[]⟩, .int .i64 0, .string ⟨#[]⟩] 40)
    dsimp only [Nd.cs] at HI
    generalize (w.alloc (.cells _ 29)).alloc (.cells #[.int .i64 0, .slice none 0 0, .int .i64 0, .int .u64 0, .int .i64 0, .int .u64 0, .int .u64 0, .string ⟨#[]⟩, .bool false, .string ⟨#[]⟩, .int .i64 0, .string ⟨#[]⟩] 40) = W at *
    have e0 := cell_regrown (cells12 (n := (Nd.mk au ps ⟨kd, ⟨c, k⟩, th, p, nm, d, g, z⟩ tg)) HI.out.row).1
    have e11 := cell_regrown (cells12 (n := (Nd.mk au ps ⟨kd, ⟨c, k⟩, th, p, nm, d, g, z⟩ tg)) HI.out.row).2.2.2.2.2.2.2.2.2.2.2
    dsimp only at e0 e11
    refine QuietCalls.tail 9 (by kernel_rfl) (by kernel_rfl) ?_
    simp only [List.take_succ_cons, List.take_zero, List.drop_succ_cons, List.drop_zero]
    iterate 4 (first | go_big_quiet_step (fail) | quiet_step (fail))
    refine QuietCalls.loadMid rfl 27 _ rfl _ _ rfl [.int .i64 kd, .int .u64 c, .int .i64 k, .int .u64 th, .int .u64 p, .string nm, .bool d, .string g, .int .i64 z] _ (fun w kb => range_op (n := (Nd.mk au ps ⟨kd, ⟨c, k⟩, th, p, nm, d, g, z⟩ tg)) (kept_block HI.out.row kb)) Tryd.underlying27 rfl infoOp ?_; simp only [Act.put, List.setIfInBounds_toArray, List.set_cons_succ, List.set_cons_zero]
    refine QuietCalls.call1 rfl rfl Tryd.call21 (fun w _ => HR.out w) rfl ?_; simp only [Act.put, List.setIfInBounds_toArray, List.set_cons_succ, List.set_cons_zero]
    iterate 3 (first | go_big_quiet_step (fail) | quiet_step (fail))
    refine wpQuiet_nil ?_
    intro V k2
    replace HI := hide (HI.out.step k2)
    clear k2 e0 e11
    refine wpList_store_row rfl 40 _ _ rfl _ _ rfl rfl 40 _ HI.out.z infoRNode rfl (by simp [Value.oneCell']) ?_
    go_wp2_with fail
    exact bodyPost_ret (results_cell_row Tryd.results8 _ _ _ _ _ (0, 0) _ rfl (setRow_heap _ _ _ _ _ _ HI.out.z) Tryd.underlying40 rfl infoRNode) rfl ⟨rfl, below_setRow HI.out.below (by omega) _⟩
  · obtain ⟨a, cp, rfl⟩ := hR.form
    have h9' : ¬ (9 : Int) < n.ps.length := by omega
    have e9 : cut9 (.slice a n.ps.length cp) = .slice a n.ps.length cp := by show Value.slice _ (min n.ps.length 9) cp = _; rw [Nat.min_eq_left (by omega)]
    rw [e9]
    clear e9 hR
    obtain ⟨au, ps, ⟨kd, ⟨c, k⟩, th, p, nm, d, g, z⟩, tg⟩ := n
    unfold Ob.v at HR
    unfold Nd.v Nd.cs at *
    dsimp only at *
    go_enter Tryd.func8, Tryd.ntmps8
    go_upto_region 4 with fail
    have HI := hide (Rn.new w ((Nd.mk au ps ⟨kd, ⟨c, k⟩, th, p, nm, d, g, z⟩ tg).cs (.slice a ps.length cp)) 29 #[.int .i64 0, .slice none 0 0, .int .i64 0, .int .u64 0, .int .i64 0, .int .u64 0, .int .u64 0, .string ⟨#[]⟩, .bool false, .string ⟨#[]⟩, .int .i64 0, .string ⟨#[]⟩] 40)
    dsimp only [Nd.cs] at HI
    generalize (w.alloc (.cells _ 29)).alloc (.cells #[.int .i64 0, .slice none 0 0, .int .i64 0, .int .u64 0, .int .i64 0, .int .u64 0, .int .u64 0, .string ⟨#[]⟩, .bool false, .string ⟨#[]⟩, .int .i64 0, .string ⟨#[]⟩] 40) = W at *
    have e0 := cell_regrown (cells12 (n := (Nd.mk au ps ⟨kd, ⟨c, k⟩, th, p, nm, d, g, z⟩ tg)) HI.out.row).1
    have e11 := cell_regrown (cells12 (n := (Nd.mk au ps ⟨kd, ⟨c, k⟩, th, p, nm, d, g, z⟩ tg)) HI.out.row).2.2.2.2.2.2.2.2.2.2.2
    dsimp only at e0 e11
    refine QuietCalls.tail 9 (by kernel_rfl) (by kernel_rfl) ?_
    simp only [List.take_succ_cons, List.take_zero, List.drop_succ_cons, List.drop_zero]
    iterate 4 (first | go_big_quiet_step (fail) | quiet_step (fail))
    refine QuietCalls.loadMid rfl 27 _ rfl _ _ rfl [.int .i64 kd, .int .u64 c, .int .i64 k, .int .u64 th, .int .u64 p, .string nm, .bool d, .string g, .int .i64 z] _ (fun w kb => range_op (n := (Nd.mk au ps ⟨kd, ⟨c, k⟩, th, p, nm, d, g, z⟩ tg)) (kept_block HI.out.row kb)) Tryd.underlying27 rfl infoOp ?_; simp only [Act.put, List.setIfInBounds_toArray, List.set_cons_succ, List.set_cons_zero]
    refine QuietCalls.call1 rfl rfl Tryd.call21 (fun w _ => HR.out w) rfl ?_; simp only [Act.put, List.setIfInBounds_toArray, List.set_cons_succ, List.set_cons_zero]
    iterate 3 (first | go_big_quiet_step (fail) | quiet_step (fail))
    refine wpQuiet_nil ?_
    intro V k2
    replace HI := hide (HI.out.step k2)
    clear k2 e0 e11
    refine wpList_store_row rfl 40 _ _ rfl _ _ rfl rfl 40 _ HI.out.z infoRNode rfl (by simp [Value.oneCell']) ?_
    go_wp2_with fail
    exact bodyPost_ret (results_cell_row Tryd.results8 _ _ _ _ _ (0, 0) _ rfl (setRow_heap _ _ _ _ _ _ HI.out.z) Tryd.underlying40 rfl infoRNode) rfl ⟨rfl, below_setRow HI.out.below (by omega) _⟩
end Go.Proofs.YtcdmdpafkiljdaaDoor
/- Contract: may a node be? The document's. -/
namespace Go.Nod
open Go.RowKit Go.Wire Go.Opn
theorem rises_cut9 (ps : List ByteArray) : rises (ps.take 9) = rises ps := by
  by_cases h : ps.length ≤ 8
  · rw [List.take_of_length_le (by omega)]
  · unfold rises
    rw [decide_eq_false h, decide_eq_false (by rw [List.length_take]; omega), Bool.false_and, Bool.false_and]
theorem chk_cut9 (n : Nd) : (Nd.mk n.au (n.ps.take 9) n.op n.tg).chk = n.chk := by
  unfold Nd.chk
  dsimp only
  rw [rises_cut9]
end Go.Nod
namespace Go.Proofs.YtcdmdpafkiljdaaDoor
open Go.RowKit Go.Wire Go.Stamp Go.Opn Go.Nod
attribute [local go_sem] Oper.semAt_some
set_option maxRecDepth 100000 in
set_option maxHeartbeats 4000000 in
theorem rcheck11_any (n : Nd) (pv : Value) (w : World) (hR : StrRow.Reads w pv n.ps) (hn : n.ps.length ≤ maxLen) (hx : ∀ x ∈ n.ps, x.size ≤ maxLen) (hc : 0 ≤ n.op.tm.c) :
    Calls Tryd.prog 7 #[n.v pv] w fun e w' => e = .returned (.int .i64 n.chk) ∧ Below w.heap.size w w' := by
  unfold maxLen at hn hx
  have HC : Hid (∀ w, Calls Tryd.prog 20 #[n.op.v] w fun e w' => e = .returned (.int .i64 n.op.chk) ∧ Below w.heap.size w w') := fun w => rcheckOp_any n.op hc w
  have h6 : (rises n.ps && n.tg.size == 32) = false → n.chk = 6 := Nd.chk_no
  have h7 : (rises n.ps && n.tg.size == 32) = true → n.op.chk ≠ 0 → n.chk = n.op.chk := Nd.chk_op
  have h8 : (rises n.ps && n.tg.size == 32) = true → n.op.chk = 0 → n.op.tm.k ≠ n.au → n.chk = 6 := Nd.chk_who
  have h9 : (rises n.ps && n.tg.size == 32) = true → n.op.chk = 0 → n.op.tm.k = n.au → n.chk = 0 := Nd.chk_ok
  have hE : n.ps.length ≤ 8 → rises n.ps = risesTo n.ps n.ps.length := fun h => by unfold rises; rw [decide_eq_true h, Bool.true_and]
  have hF : ¬ n.ps.length ≤ 8 → rises n.ps = false := fun h => by unfold rises; rw [decide_eq_false h, Bool.false_and]
  obtain ⟨a, cp, rfl⟩ := hR.form
  generalize n.chk = C at *
  generalize rises n.ps = R at *
  generalize n.op.chk = oc at *
  have HI := hide (Bn.new w (n.cs (.slice a n.ps.length cp)) 40)
  obtain ⟨au, ps, ⟨kd, ⟨c, k⟩, th, p, nm, d, g, z⟩, tg⟩ := n
  unfold Ob.v at HC
  unfold Nd.v Nd.cs at *
  dsimp only at *
  by_cases hl8 : ps.length ≤ 8
  · have hl8' : (ps.length : Int) ≤ 8 := by omega
    by_cases ht : tg.size = 32
    · have ht' : (tg.size : Int) = 32 := by omega
      rw [ht, beq_self_eq_true, Bool.and_true] at h6 h7 h8 h9
      replace hE := hide (hE hl8)
      have HR := hide hR
      clear hR hF hl8 hc
      go_enter Tryd.func7, Tryd.ntmps7
      go_wp2_with fail
      go_loopw [3] (fun vi wr => ∃ i : Nat, i ≤ ps.length ∧ vi = .int .i64 i ∧ Hid (risesTo ps i = true ∧ Bn w w.heap.size ((Nd.mk au ps ⟨kd, ⟨c, k⟩, th, p, nm, d, g, z⟩ tg).cs (.slice a ps.length cp)) 40 wr)) (fun vi _ => 1000 - (intOf vi).toNat)
      case atStart => exact ⟨0, Nat.zero_le _, rfl, rfl, HI.out⟩
      case round =>
        clear HI
        obtain ⟨i, hi, rfl, HH⟩ := hrel
        have hrd := HR.out.below HH.out.2.below (Nat.le_refl _)
        obtain ⟨c0, c1, c2, c3, c4, c5, c6, c7, c8, c9, c10, c11⟩ := cells12 (n := (Nd.mk au ps ⟨kd, ⟨c, k⟩, th, p, nm, d, g, z⟩ tg)) HH.out.2.row
        by_cases hlt : i < ps.length
        · have hlt' : (i : Int) < ps.length := by omega
          clear c0 c2 c3 c4 c5 c6 c7 c8 c9 c10 c11 HC
          obtain ⟨b, off, cap, hv, hcap, hbl⟩ := hrd.at (by intro h; rw [h] at hlt; simp at hlt)
          simp only [Value.slice.injEq, true_and] at hv
          obtain ⟨rfl, rfl⟩ := hv
          obtain ⟨x, hx1⟩ : ∃ x, ps[i]? = some x := ⟨_, List.getElem?_eq_getElem hlt⟩
          have hcell := hrd.cell hx1
          have hxs := hx x (List.mem_of_getElem? hx1)
          have HA : Hid (okAt ps i = (x.size == 32 && (i == 0 || less (ps.getD (i - 1) ⟨#[]⟩) x))) := by show _ = _; unfold okAt; rw [getD_at hx1]
          by_cases h32 : x.size = 32
          · have h32' : (x.size : Int) = 32 := by omega
            by_cases h0 : i = 0
            · subst h0
              rw [Nat.add_zero] at hcell
              clear h6 h7 h8 h9
              go_wp2
              go_quiet (fail)
              go_wp2
              go_roundw
              case rel => exact ⟨1, by omega, by go_num, by show (risesTo ps 0 && okAt ps 0) = true; rw [HA.out, h32]; rfl, HH.out.2.row, HH.out.2.below.trans (((by first | exact Below.refl _ _ | exact (Below.refl _ _).drewN _ | exact ⟨rfl, rfl, rfl, Nat.le_refl _, fun _ _ => rfl⟩) : Below _ _ _).mono HH.out.2.below.size)⟩
              case measure => simp [intOf]
            · obtain ⟨k', rfl⟩ : ∃ k', i = k' + 1 := ⟨i - 1, by omega⟩
              obtain ⟨y, hy1⟩ : ∃ y, ps[k']? = some y := ⟨_, List.getElem?_eq_getElem (by omega)⟩
              have hcy := hrd.cell hy1
              rw [show k' + 1 - 1 = k' by omega, getD_at hy1] at HA
              have hi0 : (0 : Int) < ((k' + 1 : Nat) : Int) := by omega
              have hk1 : ((k' + 1 : Nat) : Int) - 1 = k' := by omega
              have hk2 : (k' : Int) < ps.length := by omega
              have hk3 : (0 : Int) ≤ k' := by omega
              cases hl : less y x with
              | true =>
                have hl' : Go.Op.bytesLess y.toList x.toList = true := hl
                clear h6 h7 h8 h9
                go_wp2
                go_quiet (fail)
                go_wp2
                go_roundw
                case rel => exact ⟨k' + 1 + 1, by omega, by go_num, by show (risesTo ps (k' + 1) && okAt ps (k' + 1)) = true; rw [HH.out.1, HA.out, h32, hl]; rfl, HH.out.2.row, HH.out.2.below.trans (((by first | exact Below.refl _ _ | exact (Below.refl _ _).drewN _ | exact ⟨rfl, rfl, rfl, Nat.le_refl _, fun _ _ => rfl⟩) : Below _ _ _).mono HH.out.2.below.size)⟩
                case measure => simp [intOf]; omega
              | false =>
                have hl' : Go.Op.bytesLess y.toList x.toList = false := hl
                obtain rfl : R = false := by rw [hE.out, risesTo_not (i := k' + 1) (by rw [HA.out, hl]; simp) hlt]
                obtain rfl := h6 rfl
                clear h6 h7 h8 h9
                go_wp2
                go_quiet (fail)
                go_wp2
                go_ret
                exact ⟨rfl, HH.out.2.below.trans (((by first | exact Below.refl _ _ | exact (Below.refl _ _).drewN _ | exact ⟨rfl, rfl, rfl, Nat.le_refl _, fun _ _ => rfl⟩) : Below _ _ _).mono HH.out.2.below.size)⟩
          · have h32' : ¬ (x.size : Int) = 32 := by omega
            have h32'' : ((x.size : Int) != 32) = true := bne_iff_ne.2 h32'
            obtain rfl : R = false := by rw [hE.out, risesTo_not (i := i) (by rw [HA.out, beq_eq_false_iff_ne.2 h32]; rfl) hlt]
            obtain rfl := h6 rfl
            clear h6 h7 h8 h9
            go_wp2
            go_quiet (fail)
            go_wp2
            go_ret
            exact ⟨rfl, HH.out.2.below.trans (((by first | exact Below.refl _ _ | exact (Below.refl _ _).drewN _ | exact ⟨rfl, rfl, rfl, Nat.le_refl _, fun _ _ => rfl⟩) : Below _ _ _).mono HH.out.2.below.size)⟩
        · have hlt' : ¬ ((i : Int) < ps.length) := by omega
          have hin : i = ps.length := by omega
          subst hin
          obtain rfl : R = true := by rw [hE.out, HH.out.1]
          clear hrd
          by_cases ho : oc = 0
          · subst ho
            by_cases hk : k = au
            · subst hk
              obtain rfl := h9 rfl rfl rfl
              clear h6 h7 h8 h9
              go_wp2_with (go_at_call 20; refine (HC.out _).mono ?_; rintro e w2 ⟨rfl, k2⟩; have I := hide (HH.out.2.step k2); clear k2 c0 c1 c2 c3 c4 c5 c6 c7 c8 c9 c10 c11; obtain ⟨c0, c1, c2, c3, c4, c5, c6, c7, c8, c9, c10, c11⟩ := cells12 (n := (Nd.mk k ps ⟨kd, ⟨c, k⟩, th, p, nm, d, g, z⟩ tg)) I.out.row)
              go_ret
              exact ⟨rfl, I.out.below⟩
            · obtain rfl := h8 rfl rfl hk
              clear h6 h7 h8 h9
              go_wp2_with (go_at_call 20; refine (HC.out _).mono ?_; rintro e w2 ⟨rfl, k2⟩; have I := hide (HH.out.2.step k2); clear k2 c0 c1 c2 c3 c4 c5 c6 c7 c8 c9 c10 c11; obtain ⟨c0, c1, c2, c3, c4, c5, c6, c7, c8, c9, c10, c11⟩ := cells12 (n := (Nd.mk au ps ⟨kd, ⟨c, k⟩, th, p, nm, d, g, z⟩ tg)) I.out.row)
              go_ret
              exact ⟨rfl, I.out.below⟩
          · obtain rfl := h7 rfl ho
            have ho' : ¬ C = 0 := ho
            have ho2 : (C == 0) = false := beq_eq_false_iff_ne.2 ho
            clear h6 h7 h8 h9 ho
            go_wp2_with (go_at_call 20; refine (HC.out _).mono ?_; rintro e w2 ⟨rfl, k2⟩; have I := hide (HH.out.2.step k2); clear k2 c0 c1 c2 c3 c4 c5 c6 c7 c8 c9 c10 c11; obtain ⟨c0, c1, c2, c3, c4, c5, c6, c7, c8, c9, c10, c11⟩ := cells12 (n := (Nd.mk au ps ⟨kd, ⟨c, k⟩, th, p, nm, d, g, z⟩ tg)) I.out.row)
            go_ret
            exact ⟨rfl, I.out.below⟩
    · have ht' : ¬ (tg.size : Int) = 32 := by omega
      have ht2 : ((tg.size : Int) != 32) = true := bne_iff_ne.2 ht'
      obtain rfl := h6 (by rw [beq_eq_false_iff_ne.2 ht, Bool.and_false])
      clear h6 h7 h8 h9 hE hF hR hc
      go_enter Tryd.func7, Tryd.ntmps7
      go_wp2_with fail
      go_ret
      exact ⟨rfl, HI.out.below⟩
  · have hl8' : ¬ (ps.length : Int) ≤ 8 := by omega
    have hl9 : (8 : Int) < ps.length := by omega
    obtain rfl := hF hl8
    obtain rfl := h6 rfl
    clear h6 h7 h8 h9 hE hF hR hc
    go_enter Tryd.func7, Tryd.ntmps7
    go_wp2_with fail
    go_ret
    exact ⟨rfl, HI.out.below⟩
end Go.Proofs.YtcdmdpafkiljdaaDoor
/- Contracts: a node's bytes without its tag, and its digest; the document's. -/
namespace Go.Proofs.YtcdmdpafkiljdaaDoor
open Go.RowKit Go.Wire Go.Stamp Go.Opn Go.Nod
attribute [local go_sem] Oper.semAt_some
set_option maxRecDepth 100000 in
set_option maxHeartbeats 2000000 in
theorem rbody_any (n : Nd) (pv : Value) (w : World) (hR : StrRow.Reads w pv n.ps) (hs : n.Sig) :
    Calls Tryd.prog 40 #[n.v pv] w fun e w' => e = .returned (.string n.bodyB) ∧ Below w.heap.size w w' := by
  obtain ⟨hau, h8, h32, hok, hg⟩ := hs
  have hob := Ob.bytes_length (Ob.good_is hg)
  have HB : Hid (∀ w, Calls Tryd.prog 62 #[n.op.v] w fun e w' => e = .returned (.string n.op.bytesB) ∧ Below w.heap.size w w') := fun w => rbytesOp_any n.op w hok hg
  have hbz : n.op.bytesB.size ≤ 100 := by rw [size_list]; simpa [Ob.bytesB] using hob
  have HX : Hid (n.bodyB.data.toList = num 2 n.au.toNat ++ num 2 n.ps.length ++ cat n.ps ++ n.op.bytesB.data.toList) := by show _ = _; rw [Nd.bodyB_list, bytesB_list]; rfl
  clear hok hg hob
  generalize n.bodyB = X at *
  generalize n.op.bytesB = OB at *
  obtain ⟨au, ps, o, tg⟩ := n
  dsimp only at hau h8 h32 hR HB HX
  obtain ⟨au, rfl⟩ : ∃ c' : Nat, au = c' := ⟨au.toNat, by omega⟩
  rw [Int.toNat_natCast] at HX
  have hau1 : au < 18446744073709551616 := by omega
  have hcl : ∀ i, i ≤ ps.length → (cat (ps.take i)).length ≤ 256 := fun i hi => by
    rw [cat_length _ (fun x hx => h32 x (List.mem_of_mem_take hx)), List.length_take_of_le hi]
    omega
  obtain ⟨a, cp, rfl⟩ := hR.form
  obtain ⟨kd, ⟨c, k⟩, th, p, nm, d, g, z⟩ := o
  have h8' : (ps.length : Int) ≤ 8 := by omega
  have hw1 : IntKind.u64.wrap (ps.length : Int) = ps.length := by rw [wrap_u64]; omega
  have hw2 : IntKind.u64.wrap (au : Int) = au := by rw [wrap_u64]; omega
  have HN : Hid (∀ (m : Nat) (w : World), m < 18446744073709551616 → Calls Tryd.prog 61 #[.int .u64 m, .int .i64 1] w fun e w' => e = .returned (.string (numB 2 m)) ∧ Below w.heap.size w w') := fun m w hm => rnum_any m 1 w hm (by decide)
  have HI := hide (Bn.new w ((Nd.mk au ps ⟨kd, ⟨c, k⟩, th, p, nm, d, g, z⟩ tg).cs (.slice a ps.length cp)) 40)
  have HR := hide hR
  clear hR hau
  unfold Ob.v at HB
  unfold Nd.v Nd.cs at *
  dsimp only at *
  go_enter Tryd.func40, Tryd.ntmps40
  go_upto_region 1 with fail
  generalize w.alloc (.cells _ 40) = W at *
  have e0 := cell_regrown (cells12 (n := (Nd.mk au ps ⟨kd, ⟨c, k⟩, th, p, nm, d, g, z⟩ tg)) HI.out.row).1
  have e1 := cell_regrown (cells12 (n := (Nd.mk au ps ⟨kd, ⟨c, k⟩, th, p, nm, d, g, z⟩ tg)) HI.out.row).2.1
  dsimp only at e0 e1
  have hz1 := numB_size 2 au
  have hz2 := numB_size 2 ps.length
  refine QuietCalls.region (by kernel_rfl) (by kernel_rfl) ?_
  iterate 3 (first | go_big_quiet_step (fail) | quiet_step (fail))
  refine QuietCalls.call2 rfl rfl Tryd.call61 (fun w _ => HN.out au w hau1) rfl rfl ?_; simp only [Act.put, List.setIfInBounds_toArray, List.set_cons_succ, List.set_cons_zero]
  iterate 4 (first | go_big_quiet_step (fail) | quiet_step (fail))
  refine QuietCalls.call2 rfl rfl Tryd.call61 (fun w _ => HN.out ps.length w (by omega)) rfl rfl ?_; simp only [Act.put, List.setIfInBounds_toArray, List.set_cons_succ, List.set_cons_zero]
  iterate 2 (first | go_big_quiet_step (fail) | quiet_step (fail))
  refine wpQuiet_nil ?_
  intro w2 k2
  replace HI := hide (HI.out.step k2)
  clear k2 e0 e1 HN
  have HS : Hid ((numB 2 au ++ numB 2 ps.length).data.toList = num 2 au ++ num 2 ps.length) := by show _ = _; rw [app_list, numB_list, numB_list]
  have hSz : (numB 2 au ++ numB 2 ps.length).size ≤ 4 := by rw [ByteArray.size_append]; omega
  generalize numB 2 au ++ numB 2 ps.length = S0 at *
  go_wp2_with fail
  go_loopw [3, 4] (fun vs vi wr => ∃ (S : ByteArray) (i : Nat), i ≤ ps.length ∧ vs = .string S ∧ vi = .int .i64 i ∧ S.size ≤ 260 ∧ Hid (S.data.toList = num 2 au ++ num 2 ps.length ++ cat (ps.take i) ∧ Bn w w.heap.size ((Nd.mk au ps ⟨kd, ⟨c, k⟩, th, p, nm, d, g, z⟩ tg).cs (.slice a ps.length cp)) 40 wr)) (fun _ vi _ => 1000 - (intOf vi).toNat)
  case atStart => exact ⟨S0, 0, Nat.zero_le _, rfl, rfl, by omega, by rw [List.take_zero, show cat [] = [] from rfl, List.append_nil]; exact HS.out, HI.out⟩
  case round =>
    clear HI HS hSz
    obtain ⟨S, i, hi, rfl, rfl, hS, HH⟩ := hrel
    have hrd := HR.out.below HH.out.2.below (Nat.le_refl _)
    obtain ⟨c0, c1, c2, c3, c4, c5, c6, c7, c8, c9, c10, c11⟩ := cells12 (n := (Nd.mk au ps ⟨kd, ⟨c, k⟩, th, p, nm, d, g, z⟩ tg)) HH.out.2.row
    by_cases hlt : i < ps.length
    · have hlt' : (i : Int) < ps.length := by omega
      clear c0 c2 c3 c4 c5 c6 c7 c8 c9 c10 c11
      obtain ⟨b, off, cap, hv, hcap, hbl⟩ := hrd.at (by intro h; rw [h] at hlt; simp at hlt)
      simp only [Value.slice.injEq, true_and] at hv
      obtain ⟨rfl, rfl⟩ := hv
      obtain ⟨x, hx1⟩ : ∃ x, ps[i]? = some x := ⟨_, List.getElem?_eq_getElem hlt⟩
      have hcell := hrd.cell hx1
      have hxs := h32 x (List.mem_of_getElem? hx1)
      have HT := hide (cat_take hx1)
      have HZ : Hid ((S ++ x).data.toList = num 2 au ++ num 2 ps.length ++ cat (ps.take (i + 1))) := by show _ = _; rw [app_list, HH.out.1, HT.out, ← List.append_assoc]
      have hz : (S ++ x).size ≤ 260 := by
        have h1 := congrArg List.length HZ.out
        rw [← size_list] at h1
        simp only [List.length_append, num_length] at h1
        have := hcl (i + 1) (by omega)
        omega
      have HZ2 := hide hz
      clear hx1 hrd hz
      go_wp2_with fail
      go_roundw
      case rel => exact ⟨S ++ x, i + 1, by omega, rfl, by go_num, HZ2.out, HZ.out, HH.out.2⟩
      case measure => simp [intOf]; omega
    · have hlt' : ¬ ((i : Int) < ps.length) := by omega
      have hin : i = ps.length := by omega
      subst hin
      rw [List.take_of_length_le (Nat.le_refl _)] at HH
      have HE : Hid (S ++ OB = X) := by
        show _ = _
        apply ext_list
        rw [app_list, HH.out.1, HX.out]
      clear hrd
      go_wp2_with (go_at_call 62; refine (HB.out _).mono ?_; rintro e w3 ⟨rfl, k3⟩; have I := hide (HH.out.2.step k3); clear k3)
      go_ret
      exact ⟨by rw [← HE.out]; rfl, I.out.below⟩
theorem rtagD_any (x : ByteArray) (w : World) (hx : x.size ≤ 2000000) :
    Calls Tryd.prog 39 #[.int .u8 68, .slice (some ⟨w.heap.size, 0, none⟩) 1 1] (w.alloc (.cells #[.string x] 9)) fun e w' => e = .returned (.string (tagD x.data.toList)) ∧ Below (w.alloc (.cells #[.string x] 9)).heap.size (w.alloc (.cells #[.string x] 9)) w' :=
  rtagged_any 68 _ [x] _ (one_reads w x 9) (by simp) (fun s hs => by rw [List.mem_singleton.1 hs]; exact hx)
set_option maxRecDepth 100000 in
set_option maxHeartbeats 1000000 in
theorem rnodeHash_any (n : Nd) (pv : Value) (w : World) (hR : StrRow.Reads w pv n.ps) (hs : n.Sig) :
    Calls Tryd.prog 24 #[n.v pv] w fun e w' => e = .returned (.string (tagD n.body)) ∧ Below w.heap.size w w' := by
  have HA : Hid (∀ w', Below w.heap.size w w' → Calls Tryd.prog 40 #[n.v pv] w' fun e w2 => e = .returned (.string n.bodyB) ∧ Below w'.heap.size w' w2) := fun w' k => rbody_any n pv w' (hR.below k (Nat.le_refl _)) hs
  have HT : Hid (∀ w : World, Calls Tryd.prog 39 #[.int .u8 68, .slice (some ⟨w.heap.size, 0, none⟩) 1 1] (w.alloc (.cells #[.string n.bodyB] 9)) fun e w' => e = .returned (.string (tagD n.body)) ∧ Below (w.alloc (.cells #[.string n.bodyB] 9)).heap.size (w.alloc (.cells #[.string n.bodyB] 9)) w') := fun w => by
    have := rtagD_any n.bodyB w (by have := hs.size; omega)
    rwa [Nd.bodyB_list] at this
  clear hs hR
  generalize n.bodyB = X at HA HT
  generalize tagD n.body = D at HT
  obtain ⟨au, ps, ⟨kd, ⟨c, k⟩, th, p, nm, d, g, z⟩, tg⟩ := n
  unfold Nd.v Nd.cs at HA ⊢
  dsimp only at HA ⊢
  go_enter Tryd.func24, Tryd.ntmps24
  go_wp2_with (first
    | (go_at_call 40; refine (HA.out _ ((Below.refl _ _).alloc (Nat.le_refl _) _)).mono ?_; rintro e w1 ⟨rfl, k1⟩)
    | (go_at_call 39; refine (HT.out w1).mono ?_; rintro e w2 ⟨rfl, k2⟩))
  go_ret
  exact ⟨rfl, (below_alloc_call k1).trans ((below_alloc_call k2).mono (below_alloc_call k1).size)⟩
end Go.Proofs.YtcdmdpafkiljdaaDoor
