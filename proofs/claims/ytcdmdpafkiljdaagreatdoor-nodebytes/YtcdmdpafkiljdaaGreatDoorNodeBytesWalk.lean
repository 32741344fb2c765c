/- The walk of NodeBytes. -/
import Derived.Test.YtcdmdpafkiljdaaGreatDoorNodeTwo
import Derived.Test.YtcdmdpafkiljdaaGreatDoorNodeThree
import Derived.Test.YtcdmdpafkiljdaaGreatDoorNodeRefs
namespace Go.Nod
open Go.RowKit Go.Wire Go.Opn
/-- The node in block g, the one that was read in block h, the row of its parents. -/
structure Bk (w0 : World) (g h : Nat) (cs ds : Array Value) (S : TypeId) (pk : Value) (ps : List ByteArray) (w : World) : Prop where
  row : w.heap[g]? = some (.cells cs S (0, 0))
  rowk : w.heap[h]? = some (.cells ds S (0, 0))
  below : Below w0.heap.size w0 w
  reads : StrRow.Reads w pk ps
theorem Bk.step {w0 w w' : World} {g h : Nat} {cs ds : Array Value} {S : TypeId} {pk : Value} {ps : List ByteArray} (i : Bk w0 g h cs ds S pk ps w) (k : Below w.heap.size w w') : Bk w0 g h cs ds S pk ps w' :=
  ⟨kept_block i.row k, kept_block i.rowk k, i.below.trans (k.mono i.below.size), i.reads.below k (Nat.le_refl _)⟩
theorem Nd.Good.cut {n : Nd} (h : n.Good) : n.ps.take 9 = n.ps := List.take_of_length_le (by have := h.few; omega)
theorem cut9_of {w : World} {pv : Value} {ps : List ByteArray} (h : StrRow.Reads w pv ps) (h8 : ps.length ≤ 8) : cut9 pv = pv := by
  obtain ⟨a, c, rfl⟩ := h.form
  show Value.slice a (min ps.length 9) c = _
  rw [Nat.min_eq_left (by omega)]
end Go.Nod
namespace Go.Proofs.YtcdmdpafkiljdaaGreatDoor
open Go.RowKit Go.Wire Go.Stamp Go.Opn Go.Nod
attribute [local go_sem] Oper.semAt_some
set_option maxRecDepth 100000 in
set_option maxHeartbeats 4000000 in
theorem nodeBytes_no (n : Nd) (pv : Value) (w : World) (hR : StrRow.Reads w pv n.ps) (hn : n.ps.length ≤ maxLen) (hx : ∀ x ∈ n.ps, x.size ≤ maxLen) (hc : 0 ≤ n.op.tm.c) (h : n.chk ≠ 0) (hst : Steps w) :
    Calls Tryz.prog 3 #[n.v pv] w fun e w' => e = .returned (.bool true) ∧ Below w.heap.size w w' := by
  have HE : Hid (∀ w', Below w.heap.size w w' → Calls Tryz.prog 5 #[n.v pv] w' fun e w2 => e = .returned (.tuple #[.string ⟨#[]⟩, .int .i64 n.chk]) ∧ Below w'.heap.size w' w2) := fun w' k => nodeEncode_no n pv w' (hR.below k (Nat.le_refl _)) hn hx h
  have HF : Hid (∀ w', Below w.heap.size w w' → Calls Tryz.prog 7 #[n.v pv] w' fun e w2 => e = .returned ((Nd.mk n.au (n.ps.take 9) n.op n.tg).v (cut9 pv)) ∧ Below w'.heap.size w' w2) := fun w' k => ref11_any n pv w' (hR.below k (Nat.le_refl _)) hn
  have HG : Hid (∀ w', Below w.heap.size w w' → Calls Tryz.prog 6 #[(Nd.mk n.au (n.ps.take 9) n.op n.tg).v (cut9 pv)] w' fun e w2 => e = .returned (.int .i64 n.chk) ∧ Below w'.heap.size w' w2) := fun w' k => by
    have := rcheck11_any (Nd.mk n.au (n.ps.take 9) n.op n.tg) (cut9 pv) w' (cut9_reads (hR.below k (Nat.le_refl _))) (by show (n.ps.take 9).length ≤ _; rw [List.length_take]; unfold maxLen; omega) (fun x hm => hx x (List.mem_of_mem_take hm)) hc
    rwa [chk_cut9] at this
  have HC : Hid (∀ w', Below w.heap.size w w' → Calls Tryz.prog 9 #[n.v pv] w' fun e w2 => e = .returned (.int .i64 n.chk) ∧ Below w'.heap.size w' w2) := fun w' k => nodeCheck_any n pv w' (hR.below k (Nat.le_refl _)) hn hx
  have HA : Hid (∀ w', Below w.heap.size w w' → Calls Tryz.prog 8 #[] w' fun e w2 => e = .returned (.bool true) ∧ Below w'.heap.size w' w2) := fun w' k => awake11_any w' (hst.below k hst.pos)
  have h0 : (n.chk == 0) = false := beq_eq_false_iff_ne.2 h
  have h1 : ¬ n.chk = 0 := h
  have HI := hide (Bn.new w (n.cs pv) 29)
  clear hR hn hx h hst hc
  generalize n.chk = C at *
  obtain ⟨au, ps, ⟨kd, ⟨c, k⟩, th, p, nm, d, g, z⟩, tg⟩ := n
  generalize (cut9 pv) = qv at *
  unfold Nd.v Nd.cs at *
  dsimp only at *
  go_enter Tryz.func3, Tryz.ntmps3
  go_wp2_with (first
    | (refine wpList_load_row rfl 29 _ rfl _ rfl _ _ _ _ HI.out.row Tryz.underlying29 rfl infoNode ?_)
    | (go_at_call 5; refine (HE.out _ HI.out.below).mono ?_; rintro e w1 ⟨rfl, k1⟩; replace HI := hide (HI.out.step k1); clear k1)
    | (go_at_call 7; refine (HF.out _ HI.out.below).mono ?_; rintro e w2 ⟨rfl, k2⟩; replace HI := hide (HI.out.step k2); clear k2)
    | (go_at_call 6; refine (HG.out _ HI.out.below).mono ?_; rintro e w3 ⟨rfl, k3⟩; replace HI := hide (HI.out.step k3); clear k3)
    | (go_at_call 8; refine (HA.out _ HI.out.below).mono ?_; rintro e w4 ⟨rfl, k4⟩; replace HI := hide (HI.out.step k4); clear k4; obtain ⟨c0, c1, c2, c3, c4, c5, c6, c7, c8, c9, c10, c11⟩ := cells12 (n := (Nd.mk au ps ⟨kd, ⟨c, k⟩, th, p, nm, d, g, z⟩ tg)) HI.out.row)
    | (go_at_call 9; refine (HC.out _ HI.out.below).mono ?_; rintro e w5 ⟨rfl, k5⟩; replace HI := hide (HI.out.step k5); clear k5; clear c0 c1 c2 c3 c4 c5 c6 c7 c8 c9 c10 c11))
  go_ret
  exact ⟨rfl, HI.out.below⟩
set_option maxRecDepth 100000 in
set_option maxHeartbeats 4000000 in
theorem nodeBytes_ok (n : Nd) (pv : Value) (w : World) (hR : StrRow.Reads w pv n.ps) (h : n.Good) (hst : Steps w) :
    Calls Tryz.prog 3 #[n.v pv] w fun e w' => e = .returned (.bool true) ∧ Below w.heap.size w w' := by
  have hn : n.ps.length ≤ maxLen := by have := h.few; unfold maxLen; omega
  have hx : ∀ x ∈ n.ps, x.size ≤ maxLen := fun x hx => by have := h.all x hx; unfold maxLen; omega
  have hc : 0 ≤ n.op.tm.c := by have := h.ok; unfold Tm.Ok at this; omega
  have HE : Hid (∀ w', Below w.heap.size w w' → Calls Tryz.prog 5 #[n.v pv] w' fun e w2 => e = .returned (.tuple #[.string n.bytesB, .int .i64 0]) ∧ Below w'.heap.size w' w2) := fun w' k => nodeEncode_ok n pv w' (hR.below k (Nat.le_refl _)) h
  have HF : Hid (∀ w', Below w.heap.size w w' → Calls Tryz.prog 7 #[n.v pv] w' fun e w2 => e = .returned (n.v pv) ∧ Below w'.heap.size w' w2) := fun w' k => by
    have := ref11_any n pv w' (hR.below k (Nat.le_refl _)) hn
    rw [cut9_of hR h.few, h.cut] at this
    exact this
  have HG : Hid (∀ w', Below w.heap.size w w' → Calls Tryz.prog 6 #[n.v pv] w' fun e w2 => e = .returned (.int .i64 0) ∧ Below w'.heap.size w' w2) := fun w' k => by
    have := rcheck11_any n pv w' (hR.below k (Nat.le_refl _)) hn hx hc
    rwa [h.chk] at this
  have HC : Hid (∀ w', Below w.heap.size w w' → Calls Tryz.prog 9 #[n.v pv] w' fun e w2 => e = .returned (.int .i64 0) ∧ Below w'.heap.size w' w2) := fun w' k => by
    have := nodeCheck_any n pv w' (hR.below k (Nat.le_refl _)) hn hx
    rwa [h.chk] at this
  have HA : Hid (∀ w', Below w.heap.size w w' → Calls Tryz.prog 8 #[] w' fun e w2 => e = .returned (.bool true) ∧ Below w'.heap.size w' w2) := fun w' k => awake11_any w' (hst.below k hst.pos)
  have HD : Hid (∀ w', Calls Tryz.prog 10 #[.string n.bytesB] w' fun e w2 => ∃ pk, e = .returned (.tuple #[n.v pk, .int .i64 0]) ∧ StrRow.Reads w2 pk n.ps ∧ Below w'.heap.size w' w2) := fun w' => by
    obtain ⟨d1, d2, _⟩ := dec_bytes h
    have := nodeDecode_any n.bytesB w' (by
      have h1 := h.size
      have h2 := h.tag
      rw [← bytesB_eq, ByteArray.size_append]
      unfold maxLen; omega)
    rw [d1, d2] at this
    exact this
  have HB : Hid (∀ w', Below w.heap.size w w' → Calls Tryz.prog 11 #[n.v pv] w' fun e w2 => e = .returned (.string n.bodyB) ∧ Below w'.heap.size w' w2) := fun w' k => rbody_any n pv w' (hR.below k (Nat.le_refl _)) h.sig
  have HH : Hid (∀ w', Below w.heap.size w w' → Calls Tryz.prog 13 #[n.v pv] w' fun e w2 => e = .returned (.string (tagD n.body)) ∧ Below w'.heap.size w' w2) := fun w' k => nodeHash_any n pv w' (hR.below k (Nat.le_refl _)) h.sig (hst.below k hst.pos)
  have HK : Hid (∀ w', Below w.heap.size w w' → Calls Tryz.prog 14 #[n.v pv] w' fun e w2 => e = .returned (.string (tagD n.body)) ∧ Below w'.heap.size w' w2) := fun w' k => rnodeHash_any n pv w' (hR.below k (Nat.le_refl _)) h.sig
  have HS : Hid (∀ pk w', Below w.heap.size w w' → StrRow.Reads w' pk n.ps → Calls Tryz.prog 12 #[n.v pv, n.v pk] w' fun e w2 => e = .returned (.bool true) ∧ Below w'.heap.size w' w2) := fun pk w' k hk => by
    have := nodeSame_any n n pv pk w' (hR.below k (Nat.le_refl _)) hk hn hn
    rwa [(Nd.eqb_iff n n).2 rfl] at this
  have HI := hide (Bn.new w (n.cs pv) 29)
  have hXs : n.bodyB.size ≤ 400 := h.size
  have hts : n.tg.size = 32 := h.tag
  rw [← bytesB_eq] at HE HD
  clear hR hn hx h hst hc
  generalize n.bodyB = X at *
  generalize tagD n.body = D at *
  obtain ⟨au, ps, ⟨kd, ⟨c, k⟩, th, p, nm, d, g, z⟩, tg⟩ := n
  unfold Nd.v Nd.cs at *
  dsimp only at *
  go_enter Tryz.func3, Tryz.ntmps3
  go_upto_region 8 with (first
    | (refine wpList_load_row rfl 29 _ rfl _ rfl _ _ _ _ HI.out.row Tryz.underlying29 rfl infoNode ?_)
    | (go_at_call 5; refine (HE.out _ HI.out.below).mono ?_; rintro e w1 ⟨rfl, k1⟩; replace HI := hide (HI.out.step k1); clear k1)
    | (go_at_call 7; refine (HF.out _ HI.out.below).mono ?_; rintro e w2 ⟨rfl, k2⟩; replace HI := hide (HI.out.step k2); clear k2)
    | (go_at_call 6; refine (HG.out _ HI.out.below).mono ?_; rintro e w3 ⟨rfl, k3⟩; replace HI := hide (HI.out.step k3); clear k3)
    | (go_at_call 8; refine (HA.out _ HI.out.below).mono ?_; rintro e w4 ⟨rfl, k4⟩; replace HI := hide (HI.out.step k4); clear k4; obtain ⟨c0, c1, c2, c3, c4, c5, c6, c7, c8, c9, c10, c11⟩ := cells12 (n := (Nd.mk au ps ⟨kd, ⟨c, k⟩, th, p, nm, d, g, z⟩ tg)) HI.out.row)
    | (go_at_call 9; refine (HC.out _ HI.out.below).mono ?_; rintro e w5 ⟨rfl, k5⟩; replace HI := hide (HI.out.step k5); clear k5; clear c0 c1 c2 c3 c4 c5 c6 c7 c8 c9 c10 c11)
    | (go_at_call 10; refine (HD.out _).mono ?_; rintro e w6 ⟨pk, rfl, h6, k6⟩; obtain ⟨ka, kc, rfl⟩ := h6.form; replace HI := hide (HI.out.step k6); have H6 := hide h6; clear h6 k6))
  have I := hide (show Bk w w.heap.size w6.heap.size ((Nd.mk au ps ⟨kd, ⟨c, k⟩, th, p, nm, d, g, z⟩ tg).cs pv) ((Nd.mk au ps ⟨kd, ⟨c, k⟩, th, p, nm, d, g, z⟩ tg).cs (.slice ka ps.length kc)) 29 (.slice ka ps.length kc) ps (w6.alloc (.cells ((Nd.mk au ps ⟨kd, ⟨c, k⟩, th, p, nm, d, g, z⟩ tg).cs (.slice ka ps.length kc)) 29)) from ⟨kept_alloc HI.out.row _, heap_alloc_new _ _, HI.out.below.alloc HI.out.below.size _, H6.out.below ((Below.refl _ _).alloc (Nat.le_refl _) _) (Nat.le_refl _)⟩)
  clear HI H6
  dsimp only [Nd.cs] at I
  generalize w6.alloc (.cells _ 29) = W at *
  generalize w6.heap.size = h at *
  have e11 := cell_regrown (cells12 (n := (Nd.mk au ps ⟨kd, ⟨c, k⟩, th, p, nm, d, g, z⟩ tg)) I.out.row).2.2.2.2.2.2.2.2.2.2.2
  dsimp only at e11
  refine QuietCalls.region (by kernel_rfl) (by kernel_rfl) ?_
  (first | go_big_quiet_step (fail) | quiet_step (fail))
  refine QuietCalls.load rfl 29 _ rfl _ rfl _ _ _ _ I.out.row Tryz.underlying29 rfl infoNode ?_; simp only [Act.put, List.setIfInBounds_toArray, List.set_cons_succ, List.set_cons_zero]
  refine QuietCalls.call1 rfl rfl Tryz.call7 (fun w k => HF.out w (I.out.step k).below) rfl ?_; simp only [Act.put, List.setIfInBounds_toArray, List.set_cons_succ, List.set_cons_zero]
  refine QuietCalls.call1 rfl rfl Tryz.call11 (fun w k => HB.out w (I.out.step k).below) rfl ?_; simp only [Act.put, List.setIfInBounds_toArray, List.set_cons_succ, List.set_cons_zero]
  iterate 9 (first | go_big_quiet_step (fail) | quiet_step (fail))
  refine QuietCalls.load rfl 29 _ rfl _ rfl _ _ _ _ I.out.row Tryz.underlying29 rfl infoNode ?_; simp only [Act.put, List.setIfInBounds_toArray, List.set_cons_succ, List.set_cons_zero]
  refine QuietCalls.load rfl 29 _ rfl _ rfl _ _ _ _ I.out.rowk Tryz.underlying29 rfl infoNode ?_; simp only [Act.put, List.setIfInBounds_toArray, List.set_cons_succ, List.set_cons_zero]
  refine QuietCalls.call2 rfl rfl Tryz.call12 (fun w k => HS.out _ w (I.out.step k).below (I.out.step k).reads) rfl rfl ?_; simp only [Act.put, List.setIfInBounds_toArray, List.set_cons_succ, List.set_cons_zero]
  iterate 2 (first | go_big_quiet_step (fail) | quiet_step (fail))
  refine QuietCalls.load rfl 29 _ rfl _ rfl _ _ _ _ I.out.row Tryz.underlying29 rfl infoNode ?_; simp only [Act.put, List.setIfInBounds_toArray, List.set_cons_succ, List.set_cons_zero]
  refine QuietCalls.call1 rfl rfl Tryz.call13 (fun w k => HH.out w (I.out.step k).below) rfl ?_; simp only [Act.put, List.setIfInBounds_toArray, List.set_cons_succ, List.set_cons_zero]
  refine QuietCalls.load rfl 29 _ rfl _ rfl _ _ _ _ I.out.row Tryz.underlying29 rfl infoNode ?_; simp only [Act.put, List.setIfInBounds_toArray, List.set_cons_succ, List.set_cons_zero]
  refine QuietCalls.call1 rfl rfl Tryz.call7 (fun w k => HF.out w (I.out.step k).below) rfl ?_; simp only [Act.put, List.setIfInBounds_toArray, List.set_cons_succ, List.set_cons_zero]
  refine QuietCalls.call1 rfl rfl Tryz.call14 (fun w k => HK.out w (I.out.step k).below) rfl ?_; simp only [Act.put, List.setIfInBounds_toArray, List.set_cons_succ, List.set_cons_zero]
  iterate 3 (first | go_big_quiet_step (fail) | quiet_step (fail))
  refine wpQuiet_nil ?_
  intro w8 k8
  go_wp2_with fail
  go_ret
  exact ⟨rfl, (I.out.step k8).below⟩
theorem nodeBytes_any (n : Nd) (pv : Value) (w : World) (hR : StrRow.Reads w pv n.ps) (hn : n.ps.length ≤ maxLen) (hx : ∀ x ∈ n.ps, x.size ≤ maxLen) (hf : n.op.Fits) (_ : -9223372036854775808 ≤ n.au ∧ n.au ≤ 9223372036854775807) (hst : Steps w) :
    Calls Tryz.prog 3 #[n.v pv] w fun e w' => e = .returned (.bool true) ∧ Below w.heap.size w w' := by
  by_cases h : n.chk = 0
  · exact nodeBytes_ok n pv w hR (Nd.chk_zero h) hst
  · exact nodeBytes_no n pv w hR hn hx hf.tm.1 h hst
end Go.Proofs.YtcdmdpafkiljdaaGreatDoor
