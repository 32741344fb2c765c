/- Several texts in one: NodeShelf, NodeSign, NodeAwake. -/
import Derived.Shelf.Slices.Clone
import Derived.Test.YtcdmdpafkiljdaaDoorRows
import Derived.WalkKit
import Derived.Test.YtcdmdpafkiljdaaDoorNodeOne
import Derived.Test.YtcdmdpafkiljdaaDoorMacOne
import Derived.Test.YtcdmdpafkiljdaaDoorQuietAll
import Derived.Test.YtcdmdpafkiljdaaDoorOpRefs
import Derived.Test.YtcdmdpafkiljdaaDoorPureSha
/- What the library's copy of a slice of texts does, at this program: by the shelf's contracts. -/
namespace Go.Proofs.YtcdmdpafkiljdaaDoor
open Go.RowKit Go.Shelf
def cloneSL_ren : Go.Shelf.Ren := ⟨fun | 16 => 18 | n => n, fun | 24 => 22 | 9 => 9 | 4 => 4 | n => n, fun | n => n⟩
theorem cloneSL : Go.Proofs.Lays2.n16 Tryd.prog cloneSL_ren := {
  mixed := by kernel_rfl
  f16 := Tryd.func18.trans (congrArg some (by kernel_rfl))
  t4 := Tryd.underlying4
  a4 := Tryd.isAgg4
  z4 := Tryd.sizeOf4
  v4 := Tryd.zeroValue4
  t9 := Tryd.underlying9
  a9 := Tryd.isAgg9
  z9 := Tryd.sizeOf9
  v9 := Tryd.zeroValue9
  t24 := Tryd.underlying22
  a24 := Tryd.isAgg22
  z24 := Tryd.sizeOf22
  v24 := Tryd.zeroValue22
  i9 := by kernel_rfl }

end Go.Proofs.YtcdmdpafkiljdaaDoor
/- Contracts: a node is signed; is it signed rightly? The program's. -/
namespace Go.Nod
open Go.RowKit Go.Wire Go.Opn
/-- The tag of a text under a key. -/
def tagOf (k s : ByteArray) : ByteArray := ⟨(Sha.tag k.data.toList s.data.toList).toArray⟩
theorem tagOf_size (k s : ByteArray) : (tagOf k s).size = 32 := by show (Sha.tag k.data.toList s.data.toList).toArray.size = 32; rw [List.size_toArray, Sha.tag_length]
theorem tagD_size (l : List UInt8) : (tagD l).size = 32 := by show (Sha.sum (Sha.parts 68 [l])).toArray.size = 32; rw [List.size_toArray, Sha.sum_length]
/-- Is a node signed rightly, with these keys? -/
def Nd.right (n : Nd) (ks : List ByteArray) : Bool := match ks[n.au.toNat]? with
  | none => false
  | some k => decide (n.tg.data.toList = Sha.tag k.data.toList (tagD n.body).data.toList)
theorem Nd.right_none {n : Nd} {ks : List ByteArray} (h : ks[n.au.toNat]? = none) : n.right ks = false := by unfold Nd.right; rw [h]
theorem Nd.right_some {n : Nd} {ks : List ByteArray} {k : ByteArray} (h : ks[n.au.toNat]? = some k) : n.right ks = decide (n.tg.data.toList = Sha.tag k.data.toList (tagD n.body).data.toList) := by unfold Nd.right; rw [h]
theorem nd_setCell {w : World} {base e g n j : Nat} {v u : Value} {xs : List Value} (h : w.ownsRow base e 1 v n xs) (hg : g < base) : (w.setCell ⟨g, j, none⟩ u).ownsRow base e 1 v n xs := by
  refine ⟨h.1, ?_⟩
  rcases h.2 with h | ⟨k, cap, cur, h1, h2, h3, h4⟩
  · exact .inl h
  · exact .inr ⟨k, cap, cur, h1, h2, (Below.heap_setCell _ ⟨g, j, none⟩ u k (by show k ≠ g; omega)).trans h3, h4⟩
theorem nd_setRow {w : World} {base e g n : Nat} {v : Value} {xs : List Value} (h : w.ownsRow base e 1 v n xs) (hg : g < base) (ds : Array Value) : (w.setRow g ds).ownsRow base e 1 v n xs := by
  refine ⟨h.1, ?_⟩
  rcases h.2 with h | ⟨k, cap, cur, h1, h2, h3, h4⟩
  · exact .inl h
  · exact .inr ⟨k, cap, cur, h1, h2, (setRow_other _ _ _ _ (by omega)).trans h3, h4⟩
theorem nd_own_mono {w : World} {base base' e n : Nat} {v : Value} {xs : List Value} (h : w.ownsRow base e 1 v n xs) (hb : base' ≤ base) : w.ownsRow base' e 1 v n xs := by
  refine ⟨h.1, ?_⟩
  rcases h.2 with h | ⟨k, cap, cur, h1, h2, h3⟩
  · exact .inl h
  · exact .inr ⟨k, cap, cur, h1, Nat.le_trans hb h2, h3⟩
theorem nd_own_below {w w' : World} {base e n : Nat} {v : Value} {xs : List Value} (h : w.ownsRow base e 1 v n xs) (hb : Below w.heap.size w w') : w'.ownsRow base e 1 v n xs := by
  refine ⟨h.1, ?_⟩
  rcases h.2 with h | ⟨k, cap, cur, h1, h2, h3, h4⟩
  · exact .inl h
  · exact .inr ⟨k, cap, cur, h1, h2, (hb.block k (row_lt h3)).trans h3, h4⟩
/-- While a node is signed: it lies in block g, what is answered in the next one. -/
structure Sn (w0 : World) (g : Nat) (cs zs : Array Value) (S : TypeId) (w : World) : Prop where
  row : w.heap[g]? = some (.cells cs S (0, 0))
  z : w.heap[g + 1]? = some (.cells zs S (0, 0))
  below : Below w0.heap.size w0 w
  hg : w0.heap.size = g
theorem Sn.new (w : World) (cs : Array Value) (S : TypeId) (zs : Array Value) : Sn w w.heap.size cs zs S ((w.alloc (.cells cs S)).alloc (.cells zs S)) :=
  ⟨(Bn2.new w cs zs S).row, (Bn2.new w cs zs S).row2, (Bn2.new w cs zs S).below, rfl⟩
theorem Sn.step {w0 w w' : World} {g : Nat} {cs zs : Array Value} {S : TypeId} (i : Sn w0 g cs zs S w) (k : Below w.heap.size w w') : Sn w0 g cs zs S w' :=
  ⟨kept_block i.row k, kept_block i.z k, i.below.trans (k.mono i.below.size), i.hg⟩
theorem Sn.set {w0 w : World} {g : Nat} {cs zs : Array Value} {S : TypeId} (i : Sn w0 g cs zs S w) (j : Nat) (v : Value) (cs' : Array Value) (e : (w.setCell ⟨g, j, none⟩ v).heap[g]? = some (.cells cs' S (0, 0))) : Sn w0 g cs' zs S (w.setCell ⟨g, j, none⟩ v) :=
  ⟨e, (Below.heap_setCell _ ⟨g, j, none⟩ v (g + 1) (by show g + 1 ≠ g; omega)).trans i.z, i.below.setCell (p := ⟨g, j, none⟩) (by show w0.heap.size ≤ g; rw [i.hg]; exact Nat.le_refl _) v, i.hg⟩
end Go.Nod
namespace Go.Proofs.YtcdmdpafkiljdaaDoor
open Go.RowKit Go.Wire Go.Stamp Go.Opn Go.Nod Go.Shelf
attribute [local go_sem] Oper.semAt_some
theorem ndClones_any (v : Value) (xs : List ByteArray) (w : World) (h : StrRow.Reads w v xs) (hn : xs.length ≤ 1000) :
    Calls Tryd.prog 18 #[v] w fun e w' => ∃ v', e = .returned v' ∧ w'.ownsRow w.heap.size 9 1 v' xs.length (xs.map Value.string) ∧ Below w.heap.size w w' := by
  rcases h with ⟨⟨a, cap, rfl⟩, rfl⟩ | ⟨b, off, cap, rfl, h2, h3, h4⟩
  · cases a with
    | none =>
      refine (Any.slices_Clone_string_nil cloneSL 0 cap w).mono ?_
      rintro e w' ⟨rfl, rfl⟩
      exact ⟨_, rfl, World.ownsRow_nil _ _ _ _, Below.refl _ _⟩
    | some a =>
      refine (Any.slices_Clone_string_zero cloneSL a cap w).mono ?_
      rintro e w' ⟨v', rfl, ho, -, hb⟩
      exact ⟨_, rfl, ho, hb⟩
  · refine (Any.slices_Clone_string cloneSL b off xs.length cap xs w (Nat.le_refl _) (by omega) fun j hj => ?_).mono ?_
    · rw [h4 j xs[j] (List.getElem?_eq_getElem hj)]
      simp [List.getD, List.getElem?_eq_getElem hj]
    · rintro e w' ⟨v', rfl, ho, -, hb⟩
      rw [List.take_length] at ho
      exact ⟨_, rfl, ho, hb⟩
set_option maxRecDepth 100000 in
set_option maxHeartbeats 1000000 in
theorem ring11_any (seed : ByteArray) (n : Nat) (w : World) (hn : n ≤ 16) (hs : seed.size ≤ 700) (hst : Steps w) :
    Calls Tryd.prog 6 #[.string seed, .int .i64 n] w fun e w' => ∃ v, e = .returned v ∧ Mac.RingAt w' v (Mac.keysOf seed n) ∧ Below w.heap.size w w' := by
  have HN := hide (newRing_any seed n w hn hs hst)
  clear hst
  go_enter Tryd.func6, Tryd.ntmps6
  go_wp2_with (go_at_call 19; refine HN.out.mono ?_; rintro e w1 ⟨v, rfl, h1, k1⟩)
  go_ret
  exact ⟨_, rfl, h1, k1⟩
set_option maxRecDepth 100000 in
set_option maxHeartbeats 2000000 in
theorem nodeGood_no (n : Nd) (v pv : Value) (w : World) (hR : StrRow.Reads w pv n.ps) (hn : n.ps.length ≤ maxLen) (hx : ∀ x ∈ n.ps, x.size ≤ maxLen) (h : n.chk ≠ 0) :
    Calls Tryd.prog 11 #[v, n.v pv] w fun e w' => e = .returned (.bool false) ∧ Below w.heap.size w w' := by
  have HC : Hid (∀ w', Below w.heap.size w w' → Calls Tryd.prog 12 #[n.v pv] w' fun e w2 => e = .returned (.int .i64 n.chk) ∧ Below w'.heap.size w' w2) := fun w' k => nodeCheck_any n pv w' (hR.below k (Nat.le_refl _)) hn hx
  have h0 : (n.chk == 0) = false := beq_eq_false_iff_ne.2 h
  have HI := hide (Bn.new w (n.cs pv) 29)
  clear hR hn hx h
  generalize n.chk = C at *
  obtain ⟨au, ps, ⟨kd, ⟨c, k⟩, th, p, nm, d, g, z⟩, tg⟩ := n
  unfold Nd.v Nd.cs at *
  dsimp only at *
  go_enter Tryd.func11, Tryd.ntmps11
  go_upto_region 1 with fail
  refine QuietCalls.region (by kernel_rfl) (by kernel_rfl) ?_
  refine QuietCalls.load rfl 29 _ rfl _ rfl _ _ _ _ HI.out.row Tryd.underlying29 rfl infoNode ?_; simp only [Act.put, List.setIfInBounds_toArray, List.set_cons_succ, List.set_cons_zero]
  refine QuietCalls.call1 rfl rfl Tryd.call12 (fun w k => HC.out w (HI.out.below.trans (k.mono HI.out.below.size))) rfl ?_; simp only [Act.put, List.setIfInBounds_toArray, List.set_cons_succ, List.set_cons_zero]
  iterate 12 (first | go_big_quiet_step (fail) | quiet_step (fail))
  refine wpQuiet_nil ?_
  intro w2 k2
  go_wp2_with fail
  go_ret
  exact ⟨rfl, HI.out.below.trans (k2.mono HI.out.below.size)⟩
set_option maxRecDepth 100000 in
set_option maxHeartbeats 2000000 in
theorem nodeGood_ok (n : Nd) (v pv : Value) (ks : List ByteArray) (w : World) (hR : StrRow.Reads w pv n.ps) (hV : Mac.RingAt w v ks) (hks : ∀ k ∈ ks, k.size ≤ 1000000) (h : n.Good) (hst : Steps w) :
    Calls Tryd.prog 11 #[v, n.v pv] w fun e w' => e = .returned (.bool (n.right ks)) ∧ Below w.heap.size w w' := by
  have HC : Hid (∀ w', Below w.heap.size w w' → Calls Tryd.prog 12 #[n.v pv] w' fun e w2 => e = .returned (.int .i64 0) ∧ Below w'.heap.size w' w2) := fun w' k => by
    have := nodeCheck_any n pv w' (hR.below k (Nat.le_refl _)) (by have := h.few; unfold maxLen; omega) (fun x hx => by have := h.all x hx; unfold maxLen; omega)
    rwa [h.chk] at this
  have HH : Hid (∀ w', Below w.heap.size w w' → Calls Tryd.prog 15 #[n.v pv] w' fun e w2 => e = .returned (.string (tagD n.body)) ∧ Below w'.heap.size w' w2) := fun w' k => nodeHash_any n pv w' (hR.below k (Nat.le_refl _)) h.sig (hst.below k hst.pos)
  have HK : Hid (∀ w', Below w.heap.size w w' → Calls Tryd.prog 25 #[v, .int .i64 n.au, .string (tagD n.body), .string n.tg] w' fun e w2 => e = .returned (.bool (n.right ks)) ∧ Below w'.heap.size w' w2) := fun w' k => by
    have ha := h.au
    have e : n.au = (n.au.toNat : Nat) := by omega
    cases hi : ks[n.au.toNat]? with
    | none =>
      rw [Nd.right_none hi]
      refine (check_out v ks n.au _ _ w' (hV.below k (Nat.le_refl _)) (.inr ?_)).mono fun e w2 ⟨a, b⟩ => ⟨a, by rw [b]; exact Below.refl _ _⟩
      have := List.getElem?_eq_none_iff.1 hi
      omega
    | some key =>
      rw [Nd.right_some hi, e]
      exact check_in v ks n.au.toNat key _ _ w' (hV.below k (Nat.le_refl _)) hi (hks key (List.mem_of_getElem? hi)) (by rw [tagD_size]; decide) (hst.below k hst.pos)
  have HI := hide (Bn.new w (n.cs pv) 29)
  clear hR hV hks h hst
  generalize n.right ks = R at *
  generalize tagD n.body = D at *
  obtain ⟨au, ps, ⟨kd, ⟨c, k⟩, th, p, nm, d, g, z⟩, tg⟩ := n
  unfold Nd.v Nd.cs at *
  dsimp only at *
  go_enter Tryd.func11, Tryd.ntmps11
  go_upto_region 1 with fail
  have e0 := cell_regrown (show (w.alloc (.cells ((Nd.mk au ps ⟨kd, ⟨c, k⟩, th, p, nm, d, g, z⟩ tg).cs pv) 29)).cell? ⟨w.heap.size, 0, none⟩ = some (.int .i64 au) from cell_of_row _ _ _ _ _ _ HI.out.row)
  have e11 := cell_regrown (show (w.alloc (.cells ((Nd.mk au ps ⟨kd, ⟨c, k⟩, th, p, nm, d, g, z⟩ tg).cs pv) 29)).cell? ⟨w.heap.size, 11, none⟩ = some (.string tg) from cell_of_row _ _ _ _ _ _ HI.out.row)
  dsimp only [Nd.cs] at e0 e11
  refine QuietCalls.region (by kernel_rfl) (by kernel_rfl) ?_
  refine QuietCalls.load rfl 29 _ rfl _ rfl _ _ _ _ HI.out.row Tryd.underlying29 rfl infoNode ?_; simp only [Act.put, List.setIfInBounds_toArray, List.set_cons_succ, List.set_cons_zero]
  refine QuietCalls.call1 rfl rfl Tryd.call12 (fun w k => HC.out w (HI.out.below.trans (k.mono HI.out.below.size))) rfl ?_; simp only [Act.put, List.setIfInBounds_toArray, List.set_cons_succ, List.set_cons_zero]
  iterate 5 (first | go_big_quiet_step (fail) | quiet_step (fail))
  refine QuietCalls.load rfl 29 _ rfl _ rfl _ _ _ _ HI.out.row Tryd.underlying29 rfl infoNode ?_; simp only [Act.put, List.setIfInBounds_toArray, List.set_cons_succ, List.set_cons_zero]
  refine QuietCalls.call1 rfl rfl Tryd.call15 (fun w k => HH.out w (HI.out.below.trans (k.mono HI.out.below.size))) rfl ?_; simp only [Act.put, List.setIfInBounds_toArray, List.set_cons_succ, List.set_cons_zero]
  iterate 2 (first | go_big_quiet_step (fail) | quiet_step (fail))
  refine QuietCalls.call4 rfl rfl Tryd.call25 (fun w k => HK.out w (HI.out.below.trans (k.mono HI.out.below.size))) rfl rfl rfl rfl ?_; simp only [Act.put, List.setIfInBounds_toArray, List.set_cons_succ, List.set_cons_zero]
  iterate 2 (first | go_big_quiet_step (fail) | quiet_step (fail))
  refine wpQuiet_nil ?_
  intro w2 k2
  go_wp2_with fail
  go_ret
  exact ⟨rfl, HI.out.below.trans (k2.mono HI.out.below.size)⟩
set_option maxRecDepth 100000 in
set_option maxHeartbeats 2000000 in
/-- Nobody of that number has a key. -/
theorem nodeSign_out (n : Nd) (v pv : Value) (ks : List ByteArray) (D : ByteArray) (w : World) (HH : Hid (∀ w', Below w.heap.size w w' → Calls Tryd.prog 15 #[n.v pv] w' fun e w2 => e = .returned (.string D) ∧ Below w'.heap.size w' w2)) (hV : Mac.RingAt w v ks) (hau : n.au < 0 ∨ ks.length ≤ n.au) :
    Calls Tryd.prog 5 #[v, n.v pv] w fun e w' => e = .returned (.tuple #[Nd.zero.v (.slice none 0 0), .int .i64 2]) ∧ Below w.heap.size w w' := by
  have HT : Hid (∀ w', Below w.heap.size w w' → Calls Tryd.prog 17 #[v, .int .i64 n.au, .string D] w' fun e w2 => e = .returned (.tuple #[.string ⟨#[]⟩, .int .i64 2]) ∧ Below w'.heap.size w' w2) := fun w' k =>
    (tag_out v ks n.au D w' (hV.below k (Nat.le_refl _)) hau).mono fun e w2 ⟨a, b⟩ => ⟨a, by rw [b]; exact Below.refl _ _⟩
  clear hV hau
  have HI := hide (Sn.new w (n.cs pv) 29 #[.int .i64 0, .slice none 0 0, .int .i64 0, .int .u64 0, .int .i64 0, .int .u64 0, .int .u64 0, .string ⟨#[]⟩, .bool false, .string ⟨#[]⟩, .int .i64 0, .string ⟨#[]⟩])
  obtain ⟨au, ps, ⟨kd, ⟨c, k⟩, th, p, nm, d, g, z⟩, tg⟩ := n
  unfold Nd.v Nd.cs at *
  dsimp only at *
  go_enter Tryd.func5, Tryd.ntmps5
  go_upto_region 1 with fail
  have e0 := cell_regrown (show ((w.alloc (.cells ((Nd.mk au ps ⟨kd, ⟨c, k⟩, th, p, nm, d, g, z⟩ tg).cs pv) 29)).alloc (.cells #[.int .i64 0, .slice none 0 0, .int .i64 0, .int .u64 0, .int .i64 0, .int .u64 0, .int .u64 0, .string ⟨#[]⟩, .bool false, .string ⟨#[]⟩, .int .i64 0, .string ⟨#[]⟩] 29)).cell? ⟨w.heap.size, 0, none⟩ = some (.int .i64 au) from cell_of_row _ _ _ _ _ _ HI.out.row)
  dsimp only [Nd.cs] at e0
  refine QuietCalls.region (by kernel_rfl) (by kernel_rfl) ?_
  iterate 3 (first | go_big_quiet_step (fail) | quiet_step (fail))
  refine QuietCalls.load rfl 29 _ rfl _ rfl _ _ _ _ HI.out.row Tryd.underlying29 rfl infoNode ?_; simp only [Act.put, List.setIfInBounds_toArray, List.set_cons_succ, List.set_cons_zero]
  refine QuietCalls.call1 rfl rfl Tryd.call15 (fun w k => HH.out w (HI.out.below.trans (k.mono HI.out.below.size))) rfl ?_; simp only [Act.put, List.setIfInBounds_toArray, List.set_cons_succ, List.set_cons_zero]
  refine QuietCalls.call3 rfl rfl Tryd.call17 (fun w k => HT.out w (HI.out.below.trans (k.mono HI.out.below.size))) rfl rfl rfl ?_; simp only [Act.put, List.setIfInBounds_toArray, List.set_cons_succ, List.set_cons_zero]
  iterate 5 (first | go_big_quiet_step (fail) | quiet_step (fail))
  refine wpQuiet_nil ?_
  intro w2 k2
  replace HI := hide (HI.out.step k2)
  clear k2 e0
  go_wp2_with (refine wpList_store_row rfl 29 _ _ rfl _ _ rfl rfl 29 _ HI.out.z infoNode rfl (by simp [Value.oneCell']) ?_)
  exact bodyPost_ret (results_cell2_row Tryd.results5 _ _ _ _ _ (0, 0) _ rfl (setRow_heap _ _ _ _ _ _ HI.out.z) Tryd.underlying29 rfl infoNode) rfl ⟨rfl, below_setRow HI.out.below (Nat.le_succ _) _⟩
set_option maxRecDepth 100000 in
set_option maxHeartbeats 2000000 in
/-- A node that may not be, whatever its tag. -/
theorem nodeSign_no (n : Nd) (v pv : Value) (ks : List ByteArray) (key D T : ByteArray) (w : World) (HH : Hid (∀ w', Below w.heap.size w w' → Calls Tryd.prog 15 #[n.v pv] w' fun e w2 => e = .returned (.string D) ∧ Below w'.heap.size w' w2)) (hD : D.size ≤ 900000) (hV : Mac.RingAt w v ks) (hst : Steps w) (h0 : 0 ≤ n.au) (hi : ks[n.au.toNat]? = some key) (hks : key.size ≤ 1000000) (hT : tagOf key D = T) (hR : StrRow.Reads w pv n.ps) (hn : n.ps.length ≤ maxLen) (hx : ∀ x ∈ n.ps, x.size ≤ maxLen) (hc : (Nd.mk n.au n.ps n.op T).chk ≠ 0) :
    Calls Tryd.prog 5 #[v, n.v pv] w fun e w' => e = .returned (.tuple #[Nd.zero.v (.slice none 0 0), .int .i64 (Nd.mk n.au n.ps n.op T).chk]) ∧ Below w.heap.size w w' := by
  have HT : Hid (∀ w', Below w.heap.size w w' → Calls Tryd.prog 17 #[v, .int .i64 n.au, .string D] w' fun e w2 => e = .returned (.tuple #[.string T, .int .i64 0]) ∧ Below w'.heap.size w' w2) := fun w' k => by
    have := tag_in v ks n.au.toNat key D w' (hV.below k (Nat.le_refl _)) hi hks hD (hst.below k hst.pos)
    rwa [show ((n.au.toNat : Nat) : Int) = n.au by omega, show (⟨(Sha.tag key.data.toList D.data.toList).toArray⟩ : ByteArray) = T from hT] at this
  have HC : Hid (∀ w', Below w.heap.size w w' → Calls Tryd.prog 12 #[(Nd.mk n.au n.ps n.op T).v pv] w' fun e w2 => e = .returned (.int .i64 (Nd.mk n.au n.ps n.op T).chk) ∧ Below w'.heap.size w' w2) := fun w' k => nodeCheck_any (Nd.mk n.au n.ps n.op T) pv w' (hR.below k (Nat.le_refl _)) hn hx
  have hc0 : ((Nd.mk n.au n.ps n.op T).chk == 0) = false := beq_eq_false_iff_ne.2 hc
  generalize (Nd.mk n.au n.ps n.op T).chk = C at *
  clear hV hD hR hn hx hi hks hT h0 hc
  have HI := hide (Sn.new w (n.cs pv) 29 #[.int .i64 0, .slice none 0 0, .int .i64 0, .int .u64 0, .int .i64 0, .int .u64 0, .int .u64 0, .string ⟨#[]⟩, .bool false, .string ⟨#[]⟩, .int .i64 0, .string ⟨#[]⟩])
  clear hst
  obtain ⟨au, ps, ⟨kd, ⟨c, k⟩, th, p, nm, d, g, z⟩, tg⟩ := n
  unfold Nd.v Nd.cs at *
  dsimp only at *
  go_enter Tryd.func5, Tryd.ntmps5
  go_upto_region 1 with fail
  have e0 := cell_regrown (show ((w.alloc (.cells ((Nd.mk au ps ⟨kd, ⟨c, k⟩, th, p, nm, d, g, z⟩ tg).cs pv) 29)).alloc (.cells #[.int .i64 0, .slice none 0 0, .int .i64 0, .int .u64 0, .int .i64 0, .int .u64 0, .int .u64 0, .string ⟨#[]⟩, .bool false, .string ⟨#[]⟩, .int .i64 0, .string ⟨#[]⟩] 29)).cell? ⟨w.heap.size, 0, none⟩ = some (.int .i64 au) from cell_of_row _ _ _ _ _ _ HI.out.row)
  dsimp only [Nd.cs] at e0
  refine QuietCalls.region (by kernel_rfl) (by kernel_rfl) ?_
  iterate 3 (first | go_big_quiet_step (fail) | quiet_step (fail))
  refine QuietCalls.load rfl 29 _ rfl _ rfl _ _ _ _ HI.out.row Tryd.underlying29 rfl infoNode ?_; simp only [Act.put, List.setIfInBounds_toArray, List.set_cons_succ, List.set_cons_zero]
  refine QuietCalls.call1 rfl rfl Tryd.call15 (fun w k => HH.out w (HI.out.below.trans (k.mono HI.out.below.size))) rfl ?_; simp only [Act.put, List.setIfInBounds_toArray, List.set_cons_succ, List.set_cons_zero]
  refine QuietCalls.call3 rfl rfl Tryd.call17 (fun w k => HT.out w (HI.out.below.trans (k.mono HI.out.below.size))) rfl rfl rfl ?_; simp only [Act.put, List.setIfInBounds_toArray, List.set_cons_succ, List.set_cons_zero]
  iterate 5 (first | go_big_quiet_step (fail) | quiet_step (fail))
  refine wpQuiet_nil ?_
  intro w2 k2
  replace HI := hide (HI.out.step k2)
  clear k2 e0
  obtain ⟨c0, c1, c2, c3, c4, c5, c6, c7, c8, c9, c10, c11⟩ := cells12 (n := (Nd.mk au ps ⟨kd, ⟨c, k⟩, th, p, nm, d, g, z⟩ tg)) HI.out.row
  have f11 : w2.frozen? ⟨w.heap.size, 11, none⟩ = false := frozen_of_row _ _ _ _ _ HI.out.row
  go_upto_region 5 with fail
  replace HI := hide (HI.out.set 11 (.string T) ((Nd.mk au ps ⟨kd, ⟨c, k⟩, th, p, nm, d, g, z⟩ T).cs pv) (by rw [heap_setCell_same _ _ _ _ _ _ HI.out.row]; rfl))
  clear c0 c1 c2 c3 c4 c5 c6 c7 c8 c9 c10 c11 f11
  generalize w2.setCell ⟨w.heap.size, 11, none⟩ (.string T) = w3 at *
  go_wp2_with (first
    | (refine wpList_load_row rfl 29 _ rfl _ rfl _ _ _ _ HI.out.row Tryd.underlying29 rfl infoNode ?_)
    | (go_at_call 12; refine (HC.out _ HI.out.below).mono ?_; rintro e w4 ⟨rfl, k4⟩; replace HI := hide (HI.out.step k4); clear k4)
    | (refine wpList_store_row rfl 29 _ _ rfl _ _ rfl rfl 29 _ HI.out.z infoNode rfl (by simp [Value.oneCell']) ?_))
  exact bodyPost_ret (results_cell2_row Tryd.results5 _ _ _ _ _ (0, 0) _ rfl (setRow_heap _ _ _ _ _ _ HI.out.z) Tryd.underlying29 rfl infoNode) rfl ⟨rfl, below_setRow HI.out.below (Nat.le_succ _) _⟩
set_option maxRecDepth 100000 in
set_option maxHeartbeats 2000000 in
/-- A node that may be, with its tag. -/
theorem nodeSign_own (n : Nd) (v pv : Value) (ks : List ByteArray) (key D T : ByteArray) (w : World) (HH : Hid (∀ w', Below w.heap.size w w' → Calls Tryd.prog 15 #[n.v pv] w' fun e w2 => e = .returned (.string D) ∧ Below w'.heap.size w' w2)) (hD : D.size ≤ 900000) (hV : Mac.RingAt w v ks) (hst : Steps w) (hi : ks[n.au.toNat]? = some key) (hks : key.size ≤ 1000000) (hT : tagOf key D = T) (hR : StrRow.Reads w pv n.ps) (hc : (Nd.mk n.au n.ps n.op T).Good) :
    Calls Tryd.prog 5 #[v, n.v pv] w fun e w' => ∃ pv', e = .returned (.tuple #[(Nd.mk n.au n.ps n.op T).v pv', .int .i64 0]) ∧ w'.ownsRow w.heap.size 9 1 pv' n.ps.length (n.ps.map Value.string) ∧ Below w.heap.size w w' := by
  have h0 : 0 ≤ n.au := hc.au.1
  have HT : Hid (∀ w', Below w.heap.size w w' → Calls Tryd.prog 17 #[v, .int .i64 n.au, .string D] w' fun e w2 => e = .returned (.tuple #[.string T, .int .i64 0]) ∧ Below w'.heap.size w' w2) := fun w' k => by
    have := tag_in v ks n.au.toNat key D w' (hV.below k (Nat.le_refl _)) hi hks hD (hst.below k hst.pos)
    rwa [show ((n.au.toNat : Nat) : Int) = n.au by omega, show (⟨(Sha.tag key.data.toList D.data.toList).toArray⟩ : ByteArray) = T from hT] at this
  have HC : Hid (∀ w', Below w.heap.size w w' → Calls Tryd.prog 12 #[(Nd.mk n.au n.ps n.op T).v pv] w' fun e w2 => e = .returned (.int .i64 0) ∧ Below w'.heap.size w' w2) := fun w' k => by
    have := nodeCheck_any (Nd.mk n.au n.ps n.op T) pv w' (hR.below k (Nat.le_refl _)) (by have := hc.few; unfold maxLen; omega) (fun x hx => by have := hc.all x hx; unfold maxLen; omega)
    rwa [hc.chk] at this
  have HL : Hid (∀ w', Below w.heap.size w w' → Calls Tryd.prog 18 #[pv] w' fun e w2 => ∃ v', e = .returned v' ∧ w2.ownsRow w'.heap.size 9 1 v' n.ps.length (n.ps.map Value.string) ∧ Below w'.heap.size w' w2) := fun w' k => ndClones_any pv n.ps w' (hR.below k (Nat.le_refl _)) (by have := hc.few; dsimp only at this; omega)
  clear hV hD hR hi hks hT h0 hc
  have HI := hide (Sn.new w (n.cs pv) 29 #[.int .i64 0, .slice none 0 0, .int .i64 0, .int .u64 0, .int .i64 0, .int .u64 0, .int .u64 0, .string ⟨#[]⟩, .bool false, .string ⟨#[]⟩, .int .i64 0, .string ⟨#[]⟩])
  clear hst
  obtain ⟨au, ps, ⟨kd, ⟨c, k⟩, th, p, nm, d, g, z⟩, tg⟩ := n
  unfold Nd.v Nd.cs at *
  dsimp only at *
  go_enter Tryd.func5, Tryd.ntmps5
  go_upto_region 1 with fail
  have e0 := cell_regrown (show ((w.alloc (.cells ((Nd.mk au ps ⟨kd, ⟨c, k⟩, th, p, nm, d, g, z⟩ tg).cs pv) 29)).alloc (.cells #[.int .i64 0, .slice none 0 0, .int .i64 0, .int .u64 0, .int .i64 0, .int .u64 0, .int .u64 0, .string ⟨#[]⟩, .bool false, .string ⟨#[]⟩, .int .i64 0, .string ⟨#[]⟩] 29)).cell? ⟨w.heap.size, 0, none⟩ = some (.int .i64 au) from cell_of_row _ _ _ _ _ _ HI.out.row)
  dsimp only [Nd.cs] at e0
  refine QuietCalls.region (by kernel_rfl) (by kernel_rfl) ?_
  iterate 3 (first | go_big_quiet_step (fail) | quiet_step (fail))
  refine QuietCalls.load rfl 29 _ rfl _ rfl _ _ _ _ HI.out.row Tryd.underlying29 rfl infoNode ?_; simp only [Act.put, List.setIfInBounds_toArray, List.set_cons_succ, List.set_cons_zero]
  refine QuietCalls.call1 rfl rfl Tryd.call15 (fun w k => HH.out w (HI.out.below.trans (k.mono HI.out.below.size))) rfl ?_; simp only [Act.put, List.setIfInBounds_toArray, List.set_cons_succ, List.set_cons_zero]
  refine QuietCalls.call3 rfl rfl Tryd.call17 (fun w k => HT.out w (HI.out.below.trans (k.mono HI.out.below.size))) rfl rfl rfl ?_; simp only [Act.put, List.setIfInBounds_toArray, List.set_cons_succ, List.set_cons_zero]
  iterate 5 (first | go_big_quiet_step (fail) | quiet_step (fail))
  refine wpQuiet_nil ?_
  intro w2 k2
  replace HI := hide (HI.out.step k2)
  clear k2 e0
  obtain ⟨c0, c1, c2, c3, c4, c5, c6, c7, c8, c9, c10, c11⟩ := cells12 (n := (Nd.mk au ps ⟨kd, ⟨c, k⟩, th, p, nm, d, g, z⟩ tg)) HI.out.row
  have f11 : w2.frozen? ⟨w.heap.size, 11, none⟩ = false := frozen_of_row _ _ _ _ _ HI.out.row
  go_upto_region 5 with fail
  replace HI := hide (HI.out.set 11 (.string T) ((Nd.mk au ps ⟨kd, ⟨c, k⟩, th, p, nm, d, g, z⟩ T).cs pv) (by rw [heap_setCell_same _ _ _ _ _ _ HI.out.row]; rfl))
  clear c0 c1 c2 c3 c4 c5 c6 c7 c8 c9 c10 c11 f11
  generalize w2.setCell ⟨w.heap.size, 11, none⟩ (.string T) = w3 at *
  go_upto_region 9 with (first
    | (refine wpList_load_row rfl 29 _ rfl _ rfl _ _ _ _ HI.out.row Tryd.underlying29 rfl infoNode ?_)
    | (go_at_call 12; refine (HC.out _ HI.out.below).mono ?_; rintro e w4 ⟨rfl, k4⟩; replace HI := hide (HI.out.step k4); clear k4; obtain ⟨c0, c1, c2, c3, c4, c5, c6, c7, c8, c9, c10, c11⟩ := cells12 (n := (Nd.mk au ps ⟨kd, ⟨c, k⟩, th, p, nm, d, g, z⟩ T)) HI.out.row)
    | (go_at_call 18; refine (HL.out _ HI.out.below).mono ?_; rintro e w5 ⟨v', rfl, ho, k5⟩; obtain ⟨va, vc, rfl⟩ := own_slice ho
       have HLT := hide (row_lt HI.out.row); have HLT2 := hide (row_lt HI.out.z)
       replace HI := hide (HI.out.step k5); have HO := hide ho; clear k5 ho c0 c1 c2 c3 c4 c5 c6 c7 c8 c9 c10 c11
       obtain ⟨c0, c1, c2, c3, c4, c5, c6, c7, c8, c9, c10, c11⟩ := cells12 (n := (Nd.mk au ps ⟨kd, ⟨c, k⟩, th, p, nm, d, g, z⟩ T)) HI.out.row
       have f1 : w5.frozen? ⟨w.heap.size, 1, none⟩ = false := frozen_of_row _ _ _ _ _ HI.out.row))
  replace HI := hide (HI.out.set 1 (.slice va ps.length vc) ((Nd.mk au ps ⟨kd, ⟨c, k⟩, th, p, nm, d, g, z⟩ T).cs (.slice va ps.length vc)) (by rw [heap_setCell_same _ _ _ _ _ _ HI.out.row]; rfl))
  replace HO := hide (nd_setCell (j := 1) (u := .slice va ps.length vc) HO.out HLT.out)
  clear c0 c1 c2 c3 c4 c5 c6 c7 c8 c9 c10 c11 f1
  generalize w5.setCell ⟨w.heap.size, 1, none⟩ (.slice va ps.length vc) = w6 at *
  go_wp2_with (first
    | (refine wpList_load_row rfl 29 _ rfl _ rfl _ _ _ _ HI.out.row Tryd.underlying29 rfl infoNode ?_)
    | (refine wpList_store_row rfl 29 _ _ rfl _ _ rfl rfl 29 _ HI.out.z infoNode rfl (by simp [Value.oneCell']) ?_))
  exact bodyPost_ret (results_cell2_row Tryd.results5 _ _ _ _ _ (0, 0) _ rfl (setRow_heap _ _ _ _ _ _ HI.out.z) Tryd.underlying29 rfl infoNode) rfl ⟨_, rfl, nd_own_mono (nd_setRow HO.out HLT2.out _) (Nat.le_of_lt HLT.out), below_setRow HI.out.below (Nat.le_succ _) _⟩
theorem nodeSign_ok (n : Nd) (v pv : Value) (ks : List ByteArray) (key D T : ByteArray) (w : World) (HH : Hid (∀ w', Below w.heap.size w w' → Calls Tryd.prog 15 #[n.v pv] w' fun e w2 => e = .returned (.string D) ∧ Below w'.heap.size w' w2)) (hD : D.size ≤ 900000) (hV : Mac.RingAt w v ks) (hst : Steps w) (hi : ks[n.au.toNat]? = some key) (hks : key.size ≤ 1000000) (hT : tagOf key D = T) (hR : StrRow.Reads w pv n.ps) (hc : (Nd.mk n.au n.ps n.op T).Good) :
    Calls Tryd.prog 5 #[v, n.v pv] w fun e w' => ∃ pv', e = .returned (.tuple #[(Nd.mk n.au n.ps n.op T).v pv', .int .i64 0]) ∧ StrRow.Reads w' pv' n.ps ∧ Below w.heap.size w w' :=
  (nodeSign_own n v pv ks key D T w HH hD hV hst hi hks hT hR hc).mono fun _ _ ⟨pv', h1, h2, h3⟩ => ⟨pv', h1, StrRow.Reads.of_own h2, h3⟩
end Go.Proofs.YtcdmdpafkiljdaaDoor
/- That the program is awake: a signed node is right, one of another operation is not. -/
namespace Go.Nod
open Go.RowKit Go.Wire Go.Stamp Go.Opn
def awSeed : ByteArray := ⟨#[115]⟩
def awOp (th : Int) : Ob := ⟨3, ⟨1, 1⟩, th, 0, ⟨#[]⟩, false, ⟨#[]⟩, 0⟩
def awN (th : Int) (t : ByteArray) : Nd := ⟨1, [], awOp th, t⟩
def awTB : ByteArray := ⟨awT.toArray⟩
theorem aw_good20 {t : ByteArray} (h : t.size = 32) : (awN 20 t).Good := ⟨rfl, h, by show (Tm.mk 1 1).Ok; unfold Tm.Ok; decide, by show (awOp 20).good = true; decide +kernel, rfl⟩
theorem aw_good21 {t : ByteArray} (h : t.size = 32) : (awN 21 t).Good := ⟨rfl, h, by show (Tm.mk 1 1).Ok; unfold Tm.Ok; decide, by show (awOp 21).good = true; decide +kernel, rfl⟩
theorem aw_sig (t : ByteArray) : (awN 20 t).Sig := ⟨⟨by show (0 : Int) ≤ 1; decide, by show (1 : Int) < 256; decide⟩, by show 0 ≤ 8; decide, (fun x (hx : x ∈ []) => by cases hx), (aw_good20 (t := ⟨(List.replicate 32 0).toArray⟩) rfl).ok, (aw_good20 (t := ⟨(List.replicate 32 0).toArray⟩) rfl).good⟩
theorem aw_bodyA (t : ByteArray) : (awN 20 t).body = awA := by show (awN 20 ⟨#[]⟩).body = awA; decide +kernel
theorem aw_bodyB (t : ByteArray) : (awN 21 t).body = awB := by show (awN 21 ⟨#[]⟩).body = awB; decide +kernel
theorem aw_keys : (Mac.keysOf awSeed 3)[1]? = some (Mac.keyOf awSeed 1) := Mac.keysOf_at _ _ _ (by decide)
theorem aw_key : (Mac.keyOf awSeed 1).data.toList = awK := awK_is
theorem aw_T (t : ByteArray) : tagOf (Mac.keyOf awSeed 1) (tagD (awN 20 t).body) = awTB := by
  unfold tagOf tagD
  rw [aw_key, aw_bodyA, awDA_is]
  show (⟨(Sha.tag awK awDA).toArray⟩ : ByteArray) = _
  rw [awT_is]
  rfl
theorem aw_rightA : (awN 20 awTB).right (Mac.keysOf awSeed 3) = true := by
  rw [Nd.right_some (n := awN 20 awTB) aw_keys]
  refine decide_eq_true ?_
  unfold tagD
  rw [aw_key, aw_bodyA, awDA_is]
  show awT = Sha.tag awK awDA
  rw [awT_is]
theorem aw_rightB : (awN 21 awTB).right (Mac.keysOf awSeed 3) = false := by
  rw [Nd.right_some (n := awN 21 awTB) aw_keys]
  refine decide_eq_false ?_
  unfold tagD
  rw [aw_key, aw_bodyB, awDB_is]
  exact fun h => awT_not h.symm
theorem awTB_size : awTB.size = 32 := rfl
/-- The node in block h, the table. -/
structure Aw (S h : Nat) (pv : Value) (cs : Array Value) (w0 w : World) : Prop where
  row : w.heap[h]? = some (.cells cs S (0, 0))
  reads : StrRow.Reads w pv []
  below : Below w0.heap.size w0 w
  hh : w0.heap.size ≤ h
theorem Aw.step {S h : Nat} {pv : Value} {cs : Array Value} {w0 w w' : World} (i : Aw S h pv cs w0 w) (k : Below w.heap.size w w') : Aw S h pv cs w0 w' :=
  ⟨kept_block i.row k, i.reads.below k (Nat.le_refl _), i.below.trans (k.mono i.below.size), i.hh⟩
theorem Aw.set {S h : Nat} {pv : Value} {cs : Array Value} {w0 w : World} (i : Aw S h pv cs w0 w) (j : Nat) (u : Value) (cs' : Array Value) (e : (w.setCell ⟨h, j, none⟩ u).heap[h]? = some (.cells cs' S (0, 0))) (hp : StrRow.Reads (w.setCell ⟨h, j, none⟩ u) pv []) : Aw S h pv cs' w0 (w.setCell ⟨h, j, none⟩ u) :=
  ⟨e, hp, i.below.setCell (p := ⟨h, j, none⟩) i.hh u, i.hh⟩
theorem Aw.drew {S h : Nat} {pv : Value} {cs : Array Value} {w0 w : World} (i : Aw S h pv cs w0 w) : Aw S h pv cs w0 w.drew :=
  ⟨i.row, i.reads.below (Below.refl w.heap.size w).drew (Nat.le_refl _), i.below.drew, i.hh⟩
end Go.Nod
namespace Go.Proofs.YtcdmdpafkiljdaaDoor
open Go.RowKit Go.Wire Go.Stamp Go.Opn Go.Nod
attribute [local go_sem] Oper.semAt_some
theorem aw_ks : ∀ k ∈ Mac.keysOf awSeed 3, k.size ≤ 1000000 := fun k hk => by
  simp only [Mac.keysOf, List.mem_map] at hk
  obtain ⟨i, _, rfl⟩ := hk
  rw [Mac.keyOf_size]; decide
set_option maxRecDepth 100000 in
set_option maxHeartbeats 4000000 in
theorem awake11_any (w : World) (hst : Steps w) :
    Calls Tryd.prog 9 #[] w fun e w' => e = .returned (.bool true) ∧ Below w.heap.size w w' := by
  have HS := hide hst
  have HRg : Hid (∀ w', Below w.heap.size w w' → Calls Tryd.prog 6 #[.string ⟨#[115]⟩, .int .i64 3] w' fun e w2 => ∃ v, e = .returned v ∧ Mac.RingAt w2 v (Mac.keysOf awSeed 3) ∧ Below w'.heap.size w' w2) := fun w' k => ring11_any awSeed 3 w' (by decide) (by decide) (hst.below k hst.pos)
  have HSi : Hid (∀ v w', Below w.heap.size w w' → Mac.RingAt w' v (Mac.keysOf awSeed 3) → Calls Tryd.prog 5 #[v, (awN 20 ⟨#[]⟩).v (.slice none 0 0)] w' fun e w2 => ∃ pv', e = .returned (.tuple #[(awN 20 awTB).v pv', .int .i64 0]) ∧ StrRow.Reads w2 pv' [] ∧ Below w'.heap.size w' w2) := fun v w' k hv =>
    nodeSign_ok (awN 20 ⟨#[]⟩) v (.slice none 0 0) _ (Mac.keyOf awSeed 1) (tagD (awN 20 ⟨#[]⟩).body) awTB w' (fun w2 k2 => nodeHash_any (awN 20 ⟨#[]⟩) _ w2 (.inl ⟨⟨_, _, rfl⟩, rfl⟩) (aw_sig _) (hst.below (k.trans (k2.mono k.size)) hst.pos)) (by rw [tagD_size]; decide) hv (hst.below k hst.pos) aw_keys (by rw [Mac.keyOf_size]; decide) (aw_T _) (.inl ⟨⟨_, _, rfl⟩, rfl⟩) (aw_good20 awTB_size)
  have HGa : Hid (∀ v pv w', Below w.heap.size w w' → Mac.RingAt w' v (Mac.keysOf awSeed 3) → StrRow.Reads w' pv [] → Calls Tryd.prog 11 #[v, (awN 20 awTB).v pv] w' fun e w2 => e = .returned (.bool true) ∧ Below w'.heap.size w' w2) := fun v pv w' k hv hr => by
    have := nodeGood_ok (awN 20 awTB) v pv _ w' hr hv aw_ks (aw_good20 awTB_size) (hst.below k hst.pos)
    rwa [aw_rightA] at this
  have HGb : Hid (∀ v pv w', Below w.heap.size w w' → Mac.RingAt w' v (Mac.keysOf awSeed 3) → StrRow.Reads w' pv [] → Calls Tryd.prog 11 #[v, (awN 21 awTB).v pv] w' fun e w2 => e = .returned (.bool false) ∧ Below w'.heap.size w' w2) := fun v pv w' k hv hr => by
    have := nodeGood_ok (awN 21 awTB) v pv _ w' hr hv aw_ks (aw_good21 awTB_size) (hst.below k hst.pos)
    rwa [aw_rightB] at this
  clear hst
  generalize awTB = T at *
  generalize Mac.keysOf awSeed 3 = KS at *
  simp only [awN, awOp, Nd.v, Nd.cs] at HSi HGa HGb
  go_enter Tryd.func9, Tryd.ntmps9
  go_upto_region 2 with (first
    | (go_at_call 6; refine (HRg.out _ (Below.refl _ _)).mono ?_; rintro e w1 ⟨v, rfl, h1, k1⟩; have H1 := hide (And.intro h1 k1); clear h1 k1)
    | (go_at_call 5; refine (HSi.out _ _ H1.out.2 H1.out.1).mono ?_; rintro e w2 ⟨pv, rfl, h2, k2⟩; obtain ⟨pa, pc, rfl⟩ : ∃ pa pc, pv = .slice pa 0 pc := h2.form; have H2 := hide (And.intro h2 (H1.out.2.trans (k2.mono H1.out.2.size))); clear h2 k2 H1))
  have I := hide (show Aw 29 w2.heap.size (.slice pa 0 pc) #[.int .i64 1, .slice pa 0 pc, .int .i64 3, .int .u64 1, .int .i64 1, .int .u64 20, .int .u64 0, .string ⟨#[]⟩, .bool false, .string ⟨#[]⟩, .int .i64 0, .string T] w (w2.alloc (.cells #[.int .i64 1, .slice pa 0 pc, .int .i64 3, .int .u64 1, .int .i64 1, .int .u64 20, .int .u64 0, .string ⟨#[]⟩, .bool false, .string ⟨#[]⟩, .int .i64 0, .string T] 29)) from ⟨heap_alloc_new _ _, H2.out.1.below ((Below.refl _ _).alloc (Nat.le_refl _) _) (Nat.le_refl _), H2.out.2.alloc H2.out.2.size _, H2.out.2.size⟩)
  generalize w2.alloc (.cells #[.int .i64 1, .slice pa 0 pc, .int .i64 3, .int .u64 1, .int .i64 1, .int .u64 20, .int .u64 0, .string ⟨#[]⟩, .bool false, .string ⟨#[]⟩, .int .i64 0, .string T] 29) = w3 at *
  generalize w2.heap.size = h at *
  clear H2
  go_wp2_with fail
  replace I := hide I.out.drew
  obtain ⟨c0, c1, c2, c3, c4, c5, c6, c7, c8, c9, c10, c11⟩ := cells12 (n := awN 20 T) (pv := .slice pa 0 pc) I.out.row; simp only [awN, awOp] at c0 c1 c2 c3 c4 c5 c6 c7 c8 c9 c10 c11
  go_region_with (first
    | (go_at_call 6; refine (HRg.out _ I.out.below).mono ?_; rintro e w4 ⟨v4, rfl, h4, k4⟩; replace I := hide (I.out.step k4); have H4 := hide h4; clear h4 k4; clear c0 c1 c2 c3 c4 c5 c6 c7 c8 c9 c10 c11; obtain ⟨c0, c1, c2, c3, c4, c5, c6, c7, c8, c9, c10, c11⟩ := cells12 (n := awN 20 T) (pv := .slice pa 0 pc) I.out.row; simp only [awN, awOp] at c0 c1 c2 c3 c4 c5 c6 c7 c8 c9 c10 c11)
    | (go_at_call 11; refine (HGa.out _ _ _ I.out.below H4.out I.out.reads).mono ?_; rintro e w5 ⟨rfl, k5⟩; replace I := hide (I.out.step k5); clear k5; clear c0 c1 c2 c3 c4 c5 c6 c7 c8 c9 c10 c11; obtain ⟨c0, c1, c2, c3, c4, c5, c6, c7, c8, c9, c10, c11⟩ := cells12 (n := awN 20 T) (pv := .slice pa 0 pc) I.out.row; simp only [awN, awOp] at c0 c1 c2 c3 c4 c5 c6 c7 c8 c9 c10 c11))
  all_goals
    have f5 : w5.frozen? ⟨h, 5, none⟩ = false := frozen_of_row _ _ _ _ _ I.out.row
    go_wp2_with fail
    replace I := hide (I.out.set 5 (.int .u64 21) ((awN 21 T).cs (.slice pa 0 pc)) (by rw [heap_setCell_same _ _ _ _ _ _ I.out.row]; rfl) (.inl ⟨⟨_, _, rfl⟩, rfl⟩))
    clear H4 f5 c0 c1 c2 c3 c4 c5 c6 c7 c8 c9 c10 c11
    generalize w5.setCell ⟨h, 5, none⟩ (.int .u64 21) = w6 at *
    replace I := hide I.out.drew
    obtain ⟨c0, c1, c2, c3, c4, c5, c6, c7, c8, c9, c10, c11⟩ := cells12 (n := awN 21 T) (pv := .slice pa 0 pc) I.out.row; simp only [awN, awOp] at c0 c1 c2 c3 c4 c5 c6 c7 c8 c9 c10 c11
    go_region_with (first
      | (go_at_call 6; refine (HRg.out _ I.out.below).mono ?_; rintro e w7 ⟨v7, rfl, h7, k7⟩; replace I := hide (I.out.step k7); have H7 := hide h7; clear h7 k7; clear c0 c1 c2 c3 c4 c5 c6 c7 c8 c9 c10 c11; obtain ⟨c0, c1, c2, c3, c4, c5, c6, c7, c8, c9, c10, c11⟩ := cells12 (n := awN 21 T) (pv := .slice pa 0 pc) I.out.row; simp only [awN, awOp] at c0 c1 c2 c3 c4 c5 c6 c7 c8 c9 c10 c11)
      | (go_at_call 11; refine (HGb.out _ _ _ I.out.below H7.out I.out.reads).mono ?_; rintro e w8 ⟨rfl, k8⟩; replace I := hide (I.out.step k8); clear k8; clear c0 c1 c2 c3 c4 c5 c6 c7 c8 c9 c10 c11; obtain ⟨c0, c1, c2, c3, c4, c5, c6, c7, c8, c9, c10, c11⟩ := cells12 (n := awN 21 T) (pv := .slice pa 0 pc) I.out.row; simp only [awN, awOp] at c0 c1 c2 c3 c4 c5 c6 c7 c8 c9 c10 c11))
    all_goals
      go_wp2_with fail
      go_ret
      exact ⟨rfl, I.out.below⟩
end Go.Proofs.YtcdmdpafkiljdaaDoor
