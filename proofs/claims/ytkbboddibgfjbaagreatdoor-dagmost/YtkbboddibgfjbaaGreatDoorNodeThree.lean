/- Several texts in one: NodeShelf, NodeSign. -/
import Derived.Shelf.Slices.Clone
import Derived.Test.YtkbboddibgfjbaaGreatDoorRows
import Derived.WalkKit
import Derived.Test.YtkbboddibgfjbaaGreatDoorNodeOne
import Derived.Test.YtkbboddibgfjbaaGreatDoorMacOne
import Derived.Test.YtkbboddibgfjbaaGreatDoorQuietAll
import Derived.Test.YtkbboddibgfjbaaGreatDoorOpRefs
/- What the library's copy of a slice of texts does, at this program: by the shelf's contracts. -/
namespace Go.Proofs.YtkbboddibgfjbaaGreatDoor
open Go.RowKit Go.Shelf
def cloneSL_ren : Go.Shelf.Ren := ⟨fun | 16 => 44 | n => n, fun | 24 => 24 | 9 => 9 | 4 => 4 | n => n, fun | n => n⟩
theorem cloneSL : Go.Proofs.Lays2.n16 Tryz.prog cloneSL_ren := {
  mixed := by kernel_rfl
  f16 := Tryz.func44.trans (congrArg some (by kernel_rfl))
  t4 := Tryz.underlying4
  a4 := Tryz.isAgg4
  z4 := Tryz.sizeOf4
  v4 := Tryz.zeroValue4
  t9 := Tryz.underlying9
  a9 := Tryz.isAgg9
  z9 := Tryz.sizeOf9
  v9 := Tryz.zeroValue9
  t24 := Tryz.underlying24
  a24 := Tryz.isAgg24
  z24 := Tryz.sizeOf24
  v24 := Tryz.zeroValue24
  i9 := by kernel_rfl }

end Go.Proofs.YtkbboddibgfjbaaGreatDoor
/- Contracts: a node is signed; is it signed rightly? The program's. -/
namespace Go.Nod
open Go.RowKit Go.Wire Go.Opn
/-- The tag of a text under a key. -/
def tagOf (k s : ByteArray) : ByteArray := ⟨(Sha.tag k.data.toList s.data.toList).toArray⟩
theorem tagOf_size (k s : ByteArray) : (tagOf k s).size = 32 := by show (Sha.tag k.data.toList s.data.toList).toArray.size = 32; rw [List.size_toArray, Sha.tag_length]
theorem tagD_size (l : List UInt8) : (tagD l).size = 32 := by show (Sha.sum (Sha.parts 68 [l])).toArray.size = 32; rw [List.size_toArray, Sha.sum_length]
/-- Is a node signed rightly, with these keys? -/
def Nd.right (n : Nd) (ks : List ByteArray) : Bool := match ks[n.au.toNat]? with
  | none => false
  | some k => decide (n.tg.data.toList = Sha.tag k.data.toList (tagD n.body).data.toList)
theorem Nd.right_none {n : Nd} {ks : List ByteArray} (h : ks[n.au.toNat]? = none) : n.right ks = false := by unfold Nd.right; rw [h]
theorem Nd.right_some {n : Nd} {ks : List ByteArray} {k : ByteArray} (h : ks[n.au.toNat]? = some k) : n.right ks = decide (n.tg.data.toList = Sha.tag k.data.toList (tagD n.body).data.toList) := by unfold Nd.right; rw [h]
theorem nd_setCell {w : World} {base e g n j : Nat} {v u : Value} {xs : List Value} (h : w.ownsRow base e 1 v n xs) (hg : g < base) : (w.setCell ⟨g, j, none⟩ u).ownsRow base e 1 v n xs := by
  refine ⟨h.1, ?_⟩
  rcases h.2 with h | ⟨k, cap, cur, h1, h2, h3, h4⟩
  · exact .inl h
  · exact .inr ⟨k, cap, cur, h1, h2, (Below.heap_setCell _ ⟨g, j, none⟩ u k (by show k ≠ g; omega)).trans h3, h4⟩
theorem nd_setRow {w : World} {base e g n : Nat} {v : Value} {xs : List Value} (h : w.ownsRow base e 1 v n xs) (hg : g < base) (ds : Array Value) : (w.setRow g ds).ownsRow base e 1 v n xs := by
  refine ⟨h.1, ?_⟩
  rcases h.2 with h | ⟨k, cap, cur, h1, h2, h3, h4⟩
  · exact .inl h
  · exact .inr ⟨k, cap, cur, h1, h2, (setRow_other _ _ _ _ (by omega)).trans h3, h4⟩
theorem nd_own_mono {w : World} {base base' e n : Nat} {v : Value} {xs : List Value} (h : w.ownsRow base e 1 v n xs) (hb : base' ≤ base) : w.ownsRow base' e 1 v n xs := by
  refine ⟨h.1, ?_⟩
  rcases h.2 with h | ⟨k, cap, cur, h1, h2, h3⟩
  · exact .inl h
  · exact .inr ⟨k, cap, cur, h1, Nat.le_trans hb h2, h3⟩
theorem nd_own_below {w w' : World} {base e n : Nat} {v : Value} {xs : List Value} (h : w.ownsRow base e 1 v n xs) (hb : Below w.heap.size w w') : w'.ownsRow base e 1 v n xs := by
  refine ⟨h.1, ?_⟩
  rcases h.2 with h | ⟨k, cap, cur, h1, h2, h3, h4⟩
  · exact .inl h
  · exact .inr ⟨k, cap, cur, h1, h2, (hb.block k (row_lt h3)).trans h3, h4⟩
/-- While a node is signed: it lies in block g, what is answered in the next one. -/
structure Sn (w0 : World) (g : Nat) (cs zs : Array Value) (S : TypeId) (w : World) : Prop where
  row : w.heap[g]? = some (.cells cs S (0, 0))
  z : w.heap[g + 1]? = some (.cells zs S (0, 0))
  below : Below w0.heap.size w0 w
  hg : w0.heap.size = g
theorem Sn.new (w : World) (cs : Array Value) (S : TypeId) (zs : Array Value) : Sn w w.heap.size cs zs S ((w.alloc (.cells cs S)).alloc (.cells zs S)) :=
  ⟨(Bn2.new w cs zs S).row, (Bn2.new w cs zs S).row2, (Bn2.new w cs zs S).below, rfl⟩
theorem Sn.step {w0 w w' : World} {g : Nat} {cs zs : Array Value} {S : TypeId} (i : Sn w0 g cs zs S w) (k : Below w.heap.size w w') : Sn w0 g cs zs S w' :=
  ⟨kept_block i.row k, kept_block i.z k, i.below.trans (k.mono i.below.size), i.hg⟩
theorem Sn.set {w0 w : World} {g : Nat} {cs zs : Array Value} {S : TypeId} (i : Sn w0 g cs zs S w) (j : Nat) (v : Value) (cs' : Array Value) (e : (w.setCell ⟨g, j, none⟩ v).heap[g]? = some (.cells cs' S (0, 0))) : Sn w0 g cs' zs S (w.setCell ⟨g, j, none⟩ v) :=
  ⟨e, (Below.heap_setCell _ ⟨g, j, none⟩ v (g + 1) (by show g + 1 ≠ g; omega)).trans i.z, i.below.setCell (p := ⟨g, j, none⟩) (by show w0.heap.size ≤ g; rw [i.hg]; exact Nat.le_refl _) v, i.hg⟩
end Go.Nod
namespace Go.Proofs.YtkbboddibgfjbaaGreatDoor
open Go.RowKit Go.Wire Go.Stamp Go.Opn Go.Nod Go.Shelf
attribute [local go_sem] Oper.semAt_some
theorem ndClones_any (v : Value) (xs : List ByteArray) (w : World) (h : StrRow.Reads w v xs) (hn : xs.length ≤ 1000) :
    Calls Tryz.prog 44 #[v] w fun e w' => ∃ v', e = .returned v' ∧ w'.ownsRow w.heap.size 9 1 v' xs.length (xs.map Value.string) ∧ Below w.heap.size w w' := by
  rcases h with ⟨⟨a, cap, rfl⟩, rfl⟩ | ⟨b, off, cap, rfl, h2, h3, h4⟩
  · cases a with
    | none =>
      refine (Any.slices_Clone_string_nil cloneSL 0 cap w).mono ?_
      rintro e w' ⟨rfl, rfl⟩
      exact ⟨_, rfl, World.ownsRow_nil _ _ _ _, Below.refl _ _⟩
    | some a =>
      refine (Any.slices_Clone_string_zero cloneSL a cap w).mono ?_
      rintro e w' ⟨v', rfl, ho, -, hb⟩
      exact ⟨_, rfl, ho, hb⟩
  · refine (Any.slices_Clone_string cloneSL b off xs.length cap xs w (Nat.le_refl _) (by omega) fun j hj => ?_).mono ?_
    · rw [h4 j xs[j] (List.getElem?_eq_getElem hj)]
      simp [List.getD, List.getElem?_eq_getElem hj]
    · rintro e w' ⟨v', rfl, ho, -, hb⟩
      rw [List.take_length] at ho
      exact ⟨_, rfl, ho, hb⟩
set_option maxRecDepth 100000 in
set_option maxHeartbeats 1000000 in
theorem ring11_any (seed : ByteArray) (n : Nat) (w : World) (hn : n ≤ 16) (hs : seed.size ≤ 700) (hst : Steps w) :
    Calls Tryz.prog 9 #[.string seed, .int .i64 n] w fun e w' => ∃ v, e = .returned v ∧ Mac.RingAt w' v (Mac.keysOf seed n) ∧ Below w.heap.size w w' := by
  have HN := hide (newRing_any seed n w hn hs hst)
  clear hst
  go_enter Tryz.func9, Tryz.ntmps9
  go_wp2_with (go_at_call 29; refine HN.out.mono ?_; rintro e w1 ⟨v, rfl, h1, k1⟩)
  go_ret
  exact ⟨_, rfl, h1, k1⟩
set_option maxRecDepth 100000 in
set_option maxHeartbeats 2000000 in
theorem nodeGood_no (n : Nd) (v pv : Value) (w : World) (hR : StrRow.Reads w pv n.ps) (hn : n.ps.length ≤ maxLen) (hx : ∀ x ∈ n.ps, x.size ≤ maxLen) (h : n.chk ≠ 0) :
    Calls Tryz.prog 84 #[v, n.v pv] w fun e w' => e = .returned (.bool false) ∧ Below w.heap.size w w' := by
  have HC : Hid (∀ w', Below w.heap.size w w' → Calls Tryz.prog 65 #[n.v pv] w' fun e w2 => e = .returned (.int .i64 n.chk) ∧ Below w'.heap.size w' w2) := fun w' k => nodeCheck_any n pv w' (hR.below k (Nat.le_refl _)) hn hx
  have h0 : (n.chk == 0) = false := beq_eq_false_iff_ne.2 h
  have HI := hide (Bn.new w (n.cs pv) 60)
  clear hR hn hx h
  generalize n.chk = C at *
  obtain ⟨au, ps, ⟨kd, ⟨c, k⟩, th, p, nm, d, g, z⟩, tg⟩ := n
  unfold Nd.v Nd.cs at *
  dsimp only at *
  go_enter Tryz.func84, Tryz.ntmps84
  go_upto_region 1 with fail
  refine QuietCalls.region (by kernel_rfl) (by kernel_rfl) ?_
  refine QuietCalls.load rfl 60 _ rfl _ rfl _ _ _ _ HI.out.row Tryz.underlying60 rfl infoNode ?_; simp only [Act.put, List.setIfInBounds_toArray, List.set_cons_succ, List.set_cons_zero]
  refine QuietCalls.call1 rfl rfl Tryz.call65 (fun w k => HC.out w (HI.out.below.trans (k.mono HI.out.below.size))) rfl ?_; simp only [Act.put, List.setIfInBounds_toArray, List.set_cons_succ, List.set_cons_zero]
  iterate 12 (first | go_big_quiet_step (fail) | quiet_step (fail))
  refine wpQuiet_nil ?_
  intro w2 k2
  go_wp2_with fail
  go_ret
  exact ⟨rfl, HI.out.below.trans (k2.mono HI.out.below.size)⟩
set_option maxRecDepth 100000 in
set_option maxHeartbeats 2000000 in
theorem nodeGood_ok (n : Nd) (v pv : Value) (ks : List ByteArray) (w : World) (hR : StrRow.Reads w pv n.ps) (hV : Mac.RingAt w v ks) (hks : ∀ k ∈ ks, k.size ≤ 1000000) (h : n.Good) (hst : Steps w) :
    Calls Tryz.prog 84 #[v, n.v pv] w fun e w' => e = .returned (.bool (n.right ks)) ∧ Below w.heap.size w w' := by
  have HC : Hid (∀ w', Below w.heap.size w w' → Calls Tryz.prog 65 #[n.v pv] w' fun e w2 => e = .returned (.int .i64 0) ∧ Below w'.heap.size w' w2) := fun w' k => by
    have := nodeCheck_any n pv w' (hR.below k (Nat.le_refl _)) (by have := h.few; unfold maxLen; omega) (fun x hx => by have := h.all x hx; unfold maxLen; omega)
    rwa [h.chk] at this
  have HH : Hid (∀ w', Below w.heap.size w w' → Calls Tryz.prog 54 #[n.v pv] w' fun e w2 => e = .returned (.string (tagD n.body)) ∧ Below w'.heap.size w' w2) := fun w' k => nodeHash_any n pv w' (hR.below k (Nat.le_refl _)) h.sig (hst.below k hst.pos)
  have HK : Hid (∀ w', Below w.heap.size w w' → Calls Tryz.prog 133 #[v, .int .i64 n.au, .string (tagD n.body), .string n.tg] w' fun e w2 => e = .returned (.bool (n.right ks)) ∧ Below w'.heap.size w' w2) := fun w' k => by
    have ha := h.au
    have e : n.au = (n.au.toNat : Nat) := by omega
    cases hi : ks[n.au.toNat]? with
    | none =>
      rw [Nd.right_none hi]
      refine (check_out v ks n.au _ _ w' (hV.below k (Nat.le_refl _)) (.inr ?_)).mono fun e w2 ⟨a, b⟩ => ⟨a, by rw [b]; exact Below.refl _ _⟩
      have := List.getElem?_eq_none_iff.1 hi
      omega
    | some key =>
      rw [Nd.right_some hi, e]
      exact check_in v ks n.au.toNat key _ _ w' (hV.below k (Nat.le_refl _)) hi (hks key (List.mem_of_getElem? hi)) (by rw [tagD_size]; decide) (hst.below k hst.pos)
  have HI := hide (Bn.new w (n.cs pv) 60)
  clear hR hV hks h hst
  generalize n.right ks = R at *
  generalize tagD n.body = D at *
  obtain ⟨au, ps, ⟨kd, ⟨c, k⟩, th, p, nm, d, g, z⟩, tg⟩ := n
  unfold Nd.v Nd.cs at *
  dsimp only at *
  go_enter Tryz.func84, Tryz.ntmps84
  go_upto_region 1 with fail
  have e0 := cell_regrown (show (w.alloc (.cells ((Nd.mk au ps ⟨kd, ⟨c, k⟩, th, p, nm, d, g, z⟩ tg).cs pv) 60)).cell? ⟨w.heap.size, 0, none⟩ = some (.int .i64 au) from cell_of_row _ _ _ _ _ _ HI.out.row)
  have e11 := cell_regrown (show (w.alloc (.cells ((Nd.mk au ps ⟨kd, ⟨c, k⟩, th, p, nm, d, g, z⟩ tg).cs pv) 60)).cell? ⟨w.heap.size, 11, none⟩ = some (.string tg) from cell_of_row _ _ _ _ _ _ HI.out.row)
  dsimp only [Nd.cs] at e0 e11
  refine QuietCalls.region (by kernel_rfl) (by kernel_rfl) ?_
  refine QuietCalls.load rfl 60 _ rfl _ rfl _ _ _ _ HI.out.row Tryz.underlying60 rfl infoNode ?_; simp only [Act.put, List.setIfInBounds_toArray, List.set_cons_succ, List.set_cons_zero]
  refine QuietCalls.call1 rfl rfl Tryz.call65 (fun w k => HC.out w (HI.out.below.trans (k.mono HI.out.below.size))) rfl ?_; simp only [Act.put, List.setIfInBounds_toArray, List.set_cons_succ, List.set_cons_zero]
  iterate 5 (first | go_big_quiet_step (fail) | quiet_step (fail))
  refine QuietCalls.load rfl 60 _ rfl _ rfl _ _ _ _ HI.out.row Tryz.underlying60 rfl infoNode ?_; simp only [Act.put, List.setIfInBounds_toArray, List.set_cons_succ, List.set_cons_zero]
  refine QuietCalls.call1 rfl rfl Tryz.call54 (fun w k => HH.out w (HI.out.below.trans (k.mono HI.out.below.size))) rfl ?_; simp only [Act.put, List.setIfInBounds_toArray, List.set_cons_succ, List.set_cons_zero]
  iterate 2 (first | go_big_quiet_step (fail) | quiet_step (fail))
  refine QuietCalls.call4 rfl rfl Tryz.call133 (fun w k => HK.out w (HI.out.below.trans (k.mono HI.out.below.size))) rfl rfl rfl rfl ?_; simp only [Act.put, List.setIfInBounds_toArray, List.set_cons_succ, List.set_cons_zero]
  iterate 2 (first | go_big_quiet_step (fail) | quiet_step (fail))
  refine wpQuiet_nil ?_
  intro w2 k2
  go_wp2_with fail
  go_ret
  exact ⟨rfl, HI.out.below.trans (k2.mono HI.out.below.size)⟩
end Go.Proofs.YtkbboddibgfjbaaGreatDoor
