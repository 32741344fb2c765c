/- Several texts in one: NodeRef, NodeRefBody. -/
import Derived.Test.YtkbboddibgfjbaaGreatDoorNodeOne
import Derived.Test.YtkbboddibgfjbaaGreatDoorQuietAll
import Derived.Test.YtkbboddibgfjbaaGreatDoorOpRefs
import Derived.Test.YtkbboddibgfjbaaGreatDoorWireMid
/- Contract: a node as the document has it. -/
namespace Go.Nod
open Go.RowKit Go.Wire Go.Opn
/-- A slice, cut behind nine. -/
def cut9 : Value → Value
  | .slice a n c => .slice a (min n 9) c
  | v => v
theorem cut9_reads {w : World} {pv : Value} {ps : List ByteArray} (h : StrRow.Reads w pv ps) : StrRow.Reads w (cut9 pv) (ps.take 9) := by
  rcases h with ⟨⟨a, cap, rfl⟩, rfl⟩ | ⟨b, off, cap, rfl, h2, h3, h4⟩
  · exact .inl ⟨⟨a, cap, rfl⟩, rfl⟩
  · refine .inr ⟨b, off, cap, ?_, h2, ?_, fun j s hj => ?_⟩
    · show Value.slice _ (min ps.length 9) cap = _
      rw [List.length_take, Nat.min_comm]
    · rw [List.length_take]; omega
    · have hlt : j < 9 := by
        have := (List.getElem?_eq_some_iff.1 hj).1
        rw [List.length_take] at this
        omega
      rw [List.getElem?_take_of_lt hlt] at hj
      exact h4 j s hj
theorem range_op {w : World} {g : Nat} {n : Nd} {pv : Value} {T : TypeId} (h : w.heap[g]? = some (.cells (n.cs pv) T (0, 0))) : w.rangeAt g 2 [.int .i64 n.op.kind, .int .u64 n.op.tm.c, .int .i64 n.op.tm.k, .int .u64 n.op.thing, .int .u64 n.op.par, .string n.op.name, .bool n.op.dir, .string n.op.dg, .int .i64 n.op.size] := by
  obtain ⟨_, _, c2, c3, c4, c5, c6, c7, c8, c9, c10, _⟩ := cells12 h
  intro j v hj
  match j, hj with
  | 0, hj => cases hj; exact c2
  | 1, hj => cases hj; exact c3
  | 2, hj => cases hj; exact c4
  | 3, hj => cases hj; exact c5
  | 4, hj => cases hj; exact c6
  | 5, hj => cases hj; exact c7
  | 6, hj => cases hj; exact c8
  | 7, hj => cases hj; exact c9
  | 8, hj => cases hj; exact c10
/-- A node of one kind in block g, one of another in the next. -/
structure Rn (w0 : World) (g : Nat) (cs zs : Array Value) (S R : TypeId) (w : World) : Prop where
  row : w.heap[g]? = some (.cells cs S (0, 0))
  z : w.heap[g + 1]? = some (.cells zs R (0, 0))
  below : Below w0.heap.size w0 w
theorem Rn.new (w : World) (cs : Array Value) (S : TypeId) (zs : Array Value) (R : TypeId) : Rn w w.heap.size cs zs S R ((w.alloc (.cells cs S)).alloc (.cells zs R)) :=
  ⟨kept_alloc (heap_alloc_new _ _) _, by have := heap_alloc_new (w.alloc (.cells cs S)) (.cells zs R); simpa using this, ((Below.refl _ _).alloc (Nat.le_refl _) _).alloc (by simp) _⟩
theorem Rn.step {w0 w w' : World} {g : Nat} {cs zs : Array Value} {S R : TypeId} (i : Rn w0 g cs zs S R w) (k : Below w.heap.size w w') : Rn w0 g cs zs S R w' :=
  ⟨kept_block i.row k, kept_block i.z k, i.below.trans (k.mono i.below.size)⟩
end Go.Nod
namespace Go.Proofs.YtkbboddibgfjbaaGreatDoor
open Go.RowKit Go.Wire Go.Stamp Go.Opn Go.Nod
attribute [local go_sem] Oper.semAt_some
theorem infoRNode : (Tryz.prog.info? 51).map (·.size) = some 12 := by kernel_rfl
end Go.Proofs.YtkbboddibgfjbaaGreatDoor
/- Contracts: a node's bytes without its tag, and its digest; the document's. -/
namespace Go.Proofs.YtkbboddibgfjbaaGreatDoor
open Go.RowKit Go.Wire Go.Stamp Go.Opn Go.Nod
attribute [local go_sem] Oper.semAt_some
set_option maxRecDepth 100000 in
set_option maxHeartbeats 2000000 in
theorem rbody_any (n : Nd) (pv : Value) (w : World) (hR : StrRow.Reads w pv n.ps) (hs : n.Sig) :
    Calls Tryz.prog 17 #[n.v pv] w fun e w' => e = .returned (.string n.bodyB) ∧ Below w.heap.size w w' := by
  obtain ⟨hau, h8, h32, hok, hg⟩ := hs
  have hob := Ob.bytes_length (Ob.good_is hg)
  have HB : Hid (∀ w, Calls Tryz.prog 43 #[n.op.v] w fun e w' => e = .returned (.string n.op.bytesB) ∧ Below w.heap.size w w') := fun w => rbytesOp_any n.op w hok hg
  have hbz : n.op.bytesB.size ≤ 100 := by rw [size_list]; simpa [Ob.bytesB] using hob
  have HX : Hid (n.bodyB.data.toList = num 2 n.au.toNat ++ num 2 n.ps.length ++ cat n.ps ++ n.op.bytesB.data.toList) := by show _ = _; rw [Nd.bodyB_list, bytesB_list]; rfl
  clear hok hg hob
  generalize n.bodyB = X at *
  generalize n.op.bytesB = OB at *
  obtain ⟨au, ps, o, tg⟩ := n
  dsimp only at hau h8 h32 hR HB HX
  obtain ⟨au, rfl⟩ : ∃ c' : Nat, au = c' := ⟨au.toNat, by omega⟩
  rw [Int.toNat_natCast] at HX
  have hau1 : au < 18446744073709551616 := by omega
  have hcl : ∀ i, i ≤ ps.length → (cat (ps.take i)).length ≤ 256 := fun i hi => by
    rw [cat_length _ (fun x hx => h32 x (List.mem_of_mem_take hx)), List.length_take_of_le hi]
    omega
  obtain ⟨a, cp, rfl⟩ := hR.form
  obtain ⟨kd, ⟨c, k⟩, th, p, nm, d, g, z⟩ := o
  have h8' : (ps.length : Int) ≤ 8 := by omega
  have hw1 : IntKind.u64.wrap (ps.length : Int) = ps.length := by rw [wrap_u64]; omega
  have hw2 : IntKind.u64.wrap (au : Int) = au := by rw [wrap_u64]; omega
  have HN : Hid (∀ (m : Nat) (w : World), m < 18446744073709551616 → Calls Tryz.prog 42 #[.int .u64 m, .int .i64 1] w fun e w' => e = .returned (.string (numB 2 m)) ∧ Below w.heap.size w w') := fun m w hm => rnum_any m 1 w hm (by decide)
  have HI := hide (Bn.new w ((Nd.mk au ps ⟨kd, ⟨c, k⟩, th, p, nm, d, g, z⟩ tg).cs (.slice a ps.length cp)) 51)
  have HR := hide hR
  clear hR hau
  unfold Ob.v at HB
  unfold Nd.v Nd.cs at *
  dsimp only at *
  go_enter Tryz.func17, Tryz.ntmps17
  go_upto_region 1 with fail
  generalize w.alloc (.cells _ 51) = W at *
  have e0 := cell_regrown (cells12 (n := (Nd.mk au ps ⟨kd, ⟨c, k⟩, th, p, nm, d, g, z⟩ tg)) HI.out.row).1
  have e1 := cell_regrown (cells12 (n := (Nd.mk au ps ⟨kd, ⟨c, k⟩, th, p, nm, d, g, z⟩ tg)) HI.out.row).2.1
  dsimp only at e0 e1
  have hz1 := numB_size 2 au
  have hz2 := numB_size 2 ps.length
  refine QuietCalls.region (by kernel_rfl) (by kernel_rfl) ?_
  iterate 3 (first | go_big_quiet_step (fail) | quiet_step (fail))
  refine QuietCalls.call2 rfl rfl Tryz.call42 (fun w _ => HN.out au w hau1) rfl rfl ?_; simp only [Act.put, List.setIfInBounds_toArray, List.set_cons_succ, List.set_cons_zero]
  iterate 4 (first | go_big_quiet_step (fail) | quiet_step (fail))
  refine QuietCalls.call2 rfl rfl Tryz.call42 (fun w _ => HN.out ps.length w (by omega)) rfl rfl ?_; simp only [Act.put, List.setIfInBounds_toArray, List.set_cons_succ, List.set_cons_zero]
  iterate 2 (first | go_big_quiet_step (fail) | quiet_step (fail))
  refine wpQuiet_nil ?_
  intro w2 k2
  replace HI := hide (HI.out.step k2)
  clear k2 e0 e1 HN
  have HS : Hid ((numB 2 au ++ numB 2 ps.length).data.toList = num 2 au ++ num 2 ps.length) := by show _ = _; rw [app_list, numB_list, numB_list]
  have hSz : (numB 2 au ++ numB 2 ps.length).size ≤ 4 := by rw [ByteArray.size_append]; omega
  generalize numB 2 au ++ numB 2 ps.length = S0 at *
  go_wp2_with fail
  go_loopw [3, 4] (fun vs vi wr => ∃ (S : ByteArray) (i : Nat), i ≤ ps.length ∧ vs = .string S ∧ vi = .int .i64 i ∧ S.size ≤ 260 ∧ Hid (S.data.toList = num 2 au ++ num 2 ps.length ++ cat (ps.take i) ∧ Bn w w.heap.size ((Nd.mk au ps ⟨kd, ⟨c, k⟩, th, p, nm, d, g, z⟩ tg).cs (.slice a ps.length cp)) 51 wr)) (fun _ vi _ => 1000 - (intOf vi).toNat)
  case atStart => exact ⟨S0, 0, Nat.zero_le _, rfl, rfl, by omega, by rw [List.take_zero, show cat [] = [] from rfl, List.append_nil]; exact HS.out, HI.out⟩
  case round =>
    clear HI HS hSz
    obtain ⟨S, i, hi, rfl, rfl, hS, HH⟩ := hrel
    have hrd := HR.out.below HH.out.2.below (Nat.le_refl _)
    obtain ⟨c0, c1, c2, c3, c4, c5, c6, c7, c8, c9, c10, c11⟩ := cells12 (n := (Nd.mk au ps ⟨kd, ⟨c, k⟩, th, p, nm, d, g, z⟩ tg)) HH.out.2.row
    by_cases hlt : i < ps.length
    · have hlt' : (i : Int) < ps.length := by omega
      clear c0 c2 c3 c4 c5 c6 c7 c8 c9 c10 c11
      obtain ⟨b, off, cap, hv, hcap, hbl⟩ := hrd.at (by intro h; rw [h] at hlt; simp at hlt)
      simp only [Value.slice.injEq, true_and] at hv
      obtain ⟨rfl, rfl⟩ := hv
      obtain ⟨x, hx1⟩ : ∃ x, ps[i]? = some x := ⟨_, List.getElem?_eq_getElem hlt⟩
      have hcell := hrd.cell hx1
      have hxs := h32 x (List.mem_of_getElem? hx1)
      have HT := hide (cat_take hx1)
      have HZ : Hid ((S ++ x).data.toList = num 2 au ++ num 2 ps.length ++ cat (ps.take (i + 1))) := by show _ = _; rw [app_list, HH.out.1, HT.out, ← List.append_assoc]
      have hz : (S ++ x).size ≤ 260 := by
        have h1 := congrArg List.length HZ.out
        rw [← size_list] at h1
        simp only [List.length_append, num_length] at h1
        have := hcl (i + 1) (by omega)
        omega
      have HZ2 := hide hz
      clear hx1 hrd hz
      go_wp2_with fail
      go_roundw
      case rel => exact ⟨S ++ x, i + 1, by omega, rfl, by go_num, HZ2.out, HZ.out, HH.out.2⟩
      case measure => simp [intOf]; omega
    · have hlt' : ¬ ((i : Int) < ps.length) := by omega
      have hin : i = ps.length := by omega
      subst hin
      rw [List.take_of_length_le (Nat.le_refl _)] at HH
      have HE : Hid (S ++ OB = X) := by
        show _ = _
        apply ext_list
        rw [app_list, HH.out.1, HX.out]
      clear hrd
      go_wp2_with (go_at_call 43; refine (HB.out _).mono ?_; rintro e w3 ⟨rfl, k3⟩; have I := hide (HH.out.2.step k3); clear k3)
      go_ret
      exact ⟨by rw [← HE.out]; rfl, I.out.below⟩
theorem rtagD_any (x : ByteArray) (w : World) (hx : x.size ≤ 2000000) :
    Calls Tryz.prog 51 #[.int .u8 68, .slice (some ⟨w.heap.size, 0, none⟩) 1 1] (w.alloc (.cells #[.string x] 9)) fun e w' => e = .returned (.string (tagD x.data.toList)) ∧ Below (w.alloc (.cells #[.string x] 9)).heap.size (w.alloc (.cells #[.string x] 9)) w' :=
  rtagged_any 68 _ [x] _ (one_reads w x 9) (by simp) (fun s hs => by rw [List.mem_singleton.1 hs]; exact hx)
set_option maxRecDepth 100000 in
set_option maxHeartbeats 1000000 in
theorem rnodeHash_any (n : Nd) (pv : Value) (w : World) (hR : StrRow.Reads w pv n.ps) (hs : n.Sig) :
    Calls Tryz.prog 27 #[n.v pv] w fun e w' => e = .returned (.string (tagD n.body)) ∧ Below w.heap.size w w' := by
  have HA : Hid (∀ w', Below w.heap.size w w' → Calls Tryz.prog 17 #[n.v pv] w' fun e w2 => e = .returned (.string n.bodyB) ∧ Below w'.heap.size w' w2) := fun w' k => rbody_any n pv w' (hR.below k (Nat.le_refl _)) hs
  have HT : Hid (∀ w : World, Calls Tryz.prog 51 #[.int .u8 68, .slice (some ⟨w.heap.size, 0, none⟩) 1 1] (w.alloc (.cells #[.string n.bodyB] 9)) fun e w' => e = .returned (.string (tagD n.body)) ∧ Below (w.alloc (.cells #[.string n.bodyB] 9)).heap.size (w.alloc (.cells #[.string n.bodyB] 9)) w') := fun w => by
    have := rtagD_any n.bodyB w (by have := hs.size; omega)
    rwa [Nd.bodyB_list] at this
  clear hs hR
  generalize n.bodyB = X at HA HT
  generalize tagD n.body = D at HT
  obtain ⟨au, ps, ⟨kd, ⟨c, k⟩, th, p, nm, d, g, z⟩, tg⟩ := n
  unfold Nd.v Nd.cs at HA ⊢
  dsimp only at HA ⊢
  go_enter Tryz.func27, Tryz.ntmps27
  go_wp2_with (first
    | (go_at_call 17; refine (HA.out _ ((Below.refl _ _).alloc (Nat.le_refl _) _)).mono ?_; rintro e w1 ⟨rfl, k1⟩)
    | (go_at_call 51; refine (HT.out w1).mono ?_; rintro e w2 ⟨rfl, k2⟩))
  go_ret
  exact ⟨rfl, (below_alloc_call k1).trans ((below_alloc_call k2).mono (below_alloc_call k1).size)⟩
end Go.Proofs.YtkbboddibgfjbaaGreatDoor
