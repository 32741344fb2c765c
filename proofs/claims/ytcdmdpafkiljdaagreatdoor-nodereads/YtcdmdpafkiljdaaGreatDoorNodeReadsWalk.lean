/- The walk of NodeReads. -/
import Derived.Test.YtcdmdpafkiljdaaGreatDoorNodeTwo
import Derived.Test.YtcdmdpafkiljdaaGreatDoorNodeThree
import Derived.Test.YtcdmdpafkiljdaaGreatDoorNodeRefDecode
import Derived.Test.YtcdmdpafkiljdaaGreatDoorNodeRefs
namespace Go.Nod
open Go.RowKit Go.Wire Go.Opn
/-- The program's node in block g, the document's in block h, the rows of their parents. -/
structure Bj (S R : TypeId) (w0 : World) (g h : Nat) (cs ds : Array Value) (pv pk : Value) (ps : List ByteArray) (w : World) : Prop where
  row : w.heap[g]? = some (.cells cs S (0, 0))
  rowk : w.heap[h]? = some (.cells ds R (0, 0))
  below : Below w0.heap.size w0 w
  reads : StrRow.Reads w pv ps
  readk : StrRow.Reads w pk ps
theorem Bj.step {S R : TypeId} {w0 w w' : World} {g h : Nat} {cs ds : Array Value} {pv pk : Value} {ps : List ByteArray} (i : Bj S R w0 g h cs ds pv pk ps w) (k : Below w.heap.size w w') : Bj S R w0 g h cs ds pv pk ps w' :=
  ⟨kept_block i.row k, kept_block i.rowk k, i.below.trans (k.mono i.below.size), i.reads.below k (Nat.le_refl _), i.readk.below k (Nat.le_refl _)⟩
theorem Bj.start {S R : TypeId} {w w1 w2 : World} {cs ds : Array Value} {pv pk : Value} {ps : List ByteArray} (r1 : StrRow.Reads w1 pv ps) (k1 : Below w.heap.size w w1) (r2 : StrRow.Reads w2 pk ps) (k2 : Below (w1.alloc (.cells cs S)).heap.size (w1.alloc (.cells cs S)) w2) :
    Bj S R w w1.heap.size w2.heap.size cs ds pv pk ps (w2.alloc (.cells ds R)) := by
  have b1 : Below w.heap.size w (w1.alloc (.cells cs S)) := k1.alloc k1.size _
  have b2 : Below w.heap.size w w2 := b1.trans (k2.mono b1.size)
  have a1 : Below w1.heap.size w1 (w1.alloc (.cells cs S)) := (Below.refl _ _).alloc (Nat.le_refl _) _
  have a2 : Below w2.heap.size w2 (w2.alloc (.cells ds R)) := (Below.refl _ _).alloc (Nat.le_refl _) _
  exact ⟨kept_alloc (kept_block (heap_alloc_new _ _) k2) _, heap_alloc_new _ _, b2.alloc b2.size _, ((r1.below a1 (Nat.le_refl _)).below k2 (Nat.le_refl _)).below a2 (Nat.le_refl _), r2.below a2 (Nat.le_refl _)⟩
theorem Nd.Good.cut' {n : Nd} (h : n.Good) : n.ps.take 9 = n.ps := List.take_of_length_le (by have := h.few; omega)
theorem cut9_is {w : World} {pv : Value} {ps : List ByteArray} (h : StrRow.Reads w pv ps) (h8 : ps.length ≤ 8) : cut9 pv = pv := by
  obtain ⟨a, c, rfl⟩ := h.form
  show Value.slice a (min ps.length 9) c = _
  rw [Nat.min_eq_left (by omega)]
theorem dec_good {s : ByteArray} (h : decE s = 0) : (decN s).Good ∧ s = (decN s).bodyB ++ (decN s).tg := by
  have hf : (n5 ⟨s, 0, 0⟩).1.fin.err = 0 := Decidable.byContradiction fun x => by
    unfold decE at h
    rw [if_neg x] at h
    exact x h
  have hN : decN s = raw ⟨s, 0, 0⟩ := by unfold decN; rw [if_pos h]
  have hc : (raw ⟨s, 0, 0⟩).chk = 0 := by
    unfold decE at h
    rwa [if_pos hf] at h
  rw [hN]
  exact ⟨Nd.chk_zero hc, by rw [bytesB_eq]; exact (raw_took hf).1⟩
end Go.Nod
namespace Go.Proofs.YtcdmdpafkiljdaaGreatDoor
open Go.RowKit Go.Wire Go.Stamp Go.Opn Go.Nod
attribute [local go_sem] Oper.semAt_some
set_option maxRecDepth 100000 in
set_option maxHeartbeats 4000000 in
theorem nodeReads_no (s : ByteArray) (w : World) (hs : s.size ≤ maxLen) (h : decE s ≠ 0) (hst : Steps w) :
    Calls Tryz.prog 4 #[.string s] w fun e w' => e = .returned (.bool true) ∧ Below w.heap.size w w' := by
  have hN : decN s = Nd.zero := by unfold decN; rw [if_neg h]
  have HD := hide (fun w => nodeDecode_any s w hs)
  have HR := hide (fun w => rdecode_any s w hs)
  rw [hN] at HD HR
  have HA : Hid (∀ w', Below w.heap.size w w' → Calls Tryz.prog 8 #[] w' fun e w2 => e = .returned (.bool true) ∧ Below w'.heap.size w' w2) := fun w' k => awake11_any w' (hst.below k hst.pos)
  have h0 : (decE s == 0) = false := beq_eq_false_iff_ne.2 h
  clear hst hN
  generalize decE s = DE at *
  simp only [Nd.zero, Ob.zero, Nd.v, Nd.cs] at HD HR
  go_enter Tryz.func4, Tryz.ntmps4
  go_wp2_with (first
    | (refine wpList_hand rfl _ ((eql_op rfl Ob.zero Ob.zero rfl rfl _).trans (show _ = Result.ok (.value (.bool true)) _ from rfl)) ?_)
    | (go_at_call 10; refine (HD.out _).mono ?_; rintro e w1 ⟨pv, rfl, h1, k1⟩; obtain ⟨pa, pc, rfl⟩ : ∃ pa pc, pv = .slice pa 0 pc := h1.form)
    | (go_at_call 15; refine (HR.out _).mono ?_; rintro e w2 ⟨pk, rfl, h2, k2⟩; obtain ⟨ka, kc, rfl⟩ : ∃ pa pc, pk = .slice pa 0 pc := h2.form
       have I := hide (Bj.start (S := 29) (R := 38) (cs := #[.int .i64 0, .slice pa 0 pc, .int .i64 0, .int .u64 0, .int .i64 0, .int .u64 0, .int .u64 0, .string ⟨#[]⟩, .bool false, .string ⟨#[]⟩, .int .i64 0, .string ⟨#[]⟩]) (ds := #[.int .i64 0, .slice ka 0 kc, .int .i64 0, .int .u64 0, .int .i64 0, .int .u64 0, .int .u64 0, .string ⟨#[]⟩, .bool false, .string ⟨#[]⟩, .int .i64 0, .string ⟨#[]⟩]) h1 k1 h2 k2); clear h1 k1 h2 k2)
    | (go_at_call 8; refine (HA.out _ I.out.below).mono ?_; rintro e w3 ⟨rfl, k3⟩; replace I := hide (I.out.step k3); clear k3
       obtain ⟨c0, c1, c2, c3, c4, c5, c6, c7, c8, c9, c10, c11⟩ := cells12 (n := Nd.zero) (pv := .slice pa 0 pc) I.out.row; simp only [Nd.zero, Ob.zero] at c0 c1 c2 c3 c4 c5 c6 c7 c8 c9 c10 c11))
  go_ret
  exact ⟨rfl, I.out.below⟩
set_option maxRecDepth 100000 in
set_option maxHeartbeats 4000000 in
theorem nodeReads_ok (s : ByteArray) (w : World) (hs : s.size ≤ maxLen) (h : decE s = 0) (hst : Steps w) :
    Calls Tryz.prog 4 #[.string s] w fun e w' => e = .returned (.bool true) ∧ Below w.heap.size w w' := by
  obtain ⟨hg, hsx⟩ := dec_good h
  have HD := hide (fun w => nodeDecode_any s w hs)
  have HR := hide (fun w => rdecode_any s w hs)
  rw [h] at HD HR
  have HA : Hid (∀ w', Below w.heap.size w w' → Calls Tryz.prog 8 #[] w' fun e w2 => e = .returned (.bool true) ∧ Below w'.heap.size w' w2) := fun w' k => awake11_any w' (hst.below k hst.pos)
  have HF : Hid (∀ pv w', StrRow.Reads w' pv (decN s).ps → Calls Tryz.prog 7 #[(decN s).v pv] w' fun e w2 => e = .returned ((decN s).v pv) ∧ Below w'.heap.size w' w2) := fun pv w' hr => by
    have := ref11_any (decN s) pv w' hr (by have := hg.few; unfold maxLen; omega)
    rw [cut9_is hr hg.few, hg.cut'] at this
    exact this
  have HB : Hid (∀ pv w', StrRow.Reads w' pv (decN s).ps → Calls Tryz.prog 11 #[(decN s).v pv] w' fun e w2 => e = .returned (.string (decN s).bodyB) ∧ Below w'.heap.size w' w2) := fun pv w' hr => rbody_any (decN s) pv w' hr hg.sig
  have hXs : (decN s).bodyB.size ≤ 400 := hg.size
  have hts : (decN s).tg.size = 32 := hg.tag
  clear hst h hg
  generalize decN s = n at *
  generalize n.bodyB = X at *
  obtain ⟨au, ps, ⟨kd, ⟨c, k⟩, th, p, nm, d, g, z⟩, tg⟩ := n
  unfold Nd.v Nd.cs at *
  dsimp only at *
  subst hsx
  go_enter Tryz.func4, Tryz.ntmps4
  go_upto_region 7 with (first
    | (go_at_call 10; refine (HD.out _).mono ?_; rintro e w1 ⟨pv, rfl, h1, k1⟩; obtain ⟨pa, pc, rfl⟩ := h1.form)
    | (go_at_call 15; refine (HR.out _).mono ?_; rintro e w2 ⟨pk, rfl, h2, k2⟩; obtain ⟨ka, kc, rfl⟩ := h2.form
       have I := hide (Bj.start (S := 29) (R := 38) (cs := (Nd.mk au ps ⟨kd, ⟨c, k⟩, th, p, nm, d, g, z⟩ tg).cs (.slice pa ps.length pc)) (ds := (Nd.mk au ps ⟨kd, ⟨c, k⟩, th, p, nm, d, g, z⟩ tg).cs (.slice ka ps.length kc)) h1 k1 h2 k2); clear h1 k1 h2 k2; dsimp only [Nd.cs] at I)
    | (go_at_call 8; refine (HA.out _ I.out.below).mono ?_; rintro e w3 ⟨rfl, k3⟩; replace I := hide (I.out.step k3); clear k3))
  have e11 := cell_regrown (cells12 (n := (Nd.mk au ps ⟨kd, ⟨c, k⟩, th, p, nm, d, g, z⟩ tg)) I.out.row).2.2.2.2.2.2.2.2.2.2.2
  have d11 := cell_regrown (cells12 (n := (Nd.mk au ps ⟨kd, ⟨c, k⟩, th, p, nm, d, g, z⟩ tg)) I.out.rowk).2.2.2.2.2.2.2.2.2.2.2
  dsimp only at e11 d11
  refine QuietCalls.region (by kernel_rfl) (by kernel_rfl) ?_
  refine QuietCalls.load rfl 29 _ rfl _ rfl _ _ _ _ I.out.row Tryz.underlying29 rfl infoNode ?_; simp only [Act.put, List.setIfInBounds_toArray, List.set_cons_succ, List.set_cons_zero]
  refine QuietCalls.call1 rfl rfl Tryz.call7 (fun w k => HF.out _ w (I.out.step k).reads) rfl ?_; simp only [Act.put, List.setIfInBounds_toArray, List.set_cons_succ, List.set_cons_zero]
  refine QuietCalls.call1 rfl rfl Tryz.call11 (fun w k => HB.out _ w (I.out.step k).reads) rfl ?_; simp only [Act.put, List.setIfInBounds_toArray, List.set_cons_succ, List.set_cons_zero]
  refine QuietCalls.load rfl 38 _ rfl _ rfl _ _ _ _ I.out.rowk Tryz.underlying38 rfl infoRNode ?_; simp only [Act.put, List.setIfInBounds_toArray, List.set_cons_succ, List.set_cons_zero]
  refine QuietCalls.call1 rfl rfl Tryz.call11 (fun w k => HB.out _ w (I.out.step k).readk) rfl ?_; simp only [Act.put, List.setIfInBounds_toArray, List.set_cons_succ, List.set_cons_zero]
  iterate 9 (first | go_big_quiet_step (fail) | quiet_step (fail))
  refine QuietCalls.load rfl 38 _ rfl _ rfl _ _ _ _ I.out.rowk Tryz.underlying38 rfl infoRNode ?_; simp only [Act.put, List.setIfInBounds_toArray, List.set_cons_succ, List.set_cons_zero]
  refine QuietCalls.call1 rfl rfl Tryz.call11 (fun w k => HB.out _ w (I.out.step k).readk) rfl ?_; simp only [Act.put, List.setIfInBounds_toArray, List.set_cons_succ, List.set_cons_zero]
  iterate 7 (first | go_big_quiet_step (fail) | quiet_step (fail))
  refine wpQuiet_nil ?_
  intro w8 k8
  go_wp2_with fail
  go_ret
  exact ⟨rfl, (I.out.step k8).below⟩
theorem nodeReads_any (s : ByteArray) (w : World) (hs : s.size ≤ maxLen) (hst : Steps w) :
    Calls Tryz.prog 4 #[.string s] w fun e w' => e = .returned (.bool true) ∧ Below w.heap.size w w' := by
  by_cases h : decE s = 0
  · exact nodeReads_ok s w hs h hst
  · exact nodeReads_no s w hs h hst
end Go.Proofs.YtcdmdpafkiljdaaGreatDoor
