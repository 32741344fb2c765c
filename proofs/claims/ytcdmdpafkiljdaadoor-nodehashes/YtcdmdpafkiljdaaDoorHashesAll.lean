/- Several texts in one: NodeHashesWalk. -/
import Derived.Test.YtcdmdpafkiljdaaDoorNodeThree
/- The walk of NodeHashes. -/
namespace Go.Nod
open Go.RowKit Go.Wire Go.Opn
theorem nd_no {x y : ByteArray} (h : x ≠ y) : (x.toList == y.toList) = false := beq_eq_false_iff_ne.2 (fun e => h ((toList_iff x y).1 e))
theorem body_ne {a b : Nd} (h : a.bodyB ≠ b.bodyB) : a.eqb ⟨b.au, b.ps, b.op, a.tg⟩ = false := by
  cases e : a.eqb ⟨b.au, b.ps, b.op, a.tg⟩
  · rfl
  · have := (Nd.eqb_iff _ _).1 e
    exact absurd (by rw [this]; rfl) h
theorem cut_front (X T : ByteArray) : (X ++ T).extract 0 X.size = X := by
  apply ext_list
  rw [extract_list, app_list, List.drop_zero, Nat.sub_zero, size_list X, List.take_left]
/-- Three nodes in blocks of their own. -/
structure Bn3 (w0 : World) (g h : Nat) (cs ds es : Array Value) (S : TypeId) (w : World) : Prop where
  row : w.heap[g]? = some (.cells cs S (0, 0))
  row2 : w.heap[g + 1]? = some (.cells ds S (0, 0))
  row3 : w.heap[h]? = some (.cells es S (0, 0))
  below : Below w0.heap.size w0 w
theorem Bn3.step {w0 w w' : World} {g h : Nat} {cs ds es : Array Value} {S : TypeId} (i : Bn3 w0 g h cs ds es S w) (k : Below w.heap.size w w') : Bn3 w0 g h cs ds es S w' :=
  ⟨kept_block i.row k, kept_block i.row2 k, kept_block i.row3 k, i.below.trans (k.mono i.below.size)⟩
theorem Bn3.start {w0 w : World} {g : Nat} {cs ds : Array Value} {S : TypeId} (i : Bn2 w0 g cs ds S w) (zs es : Array Value) : Bn3 w0 g w.heap.size cs ds es S ((w.alloc (.cells zs S)).setRow w.heap.size es) := by
  have h1 := row_lt i.row
  have h2 := row_lt i.row2
  have hb := i.below.size
  exact ⟨(setRow_other _ _ _ _ (by omega)).trans (kept_alloc i.row _), (setRow_other _ _ _ _ (by omega)).trans (kept_alloc i.row2 _), setRow_heap _ _ _ _ _ _ (heap_alloc_new _ _), (i.below.alloc hb _).trans ⟨rfl, rfl, rfl, by simp, fun k hk => setRow_other _ _ _ _ (by omega)⟩⟩
theorem Bn3.set {w0 w : World} {g h : Nat} {cs ds es : Array Value} {S : TypeId} (i : Bn3 w0 g h cs ds es S w) (hh : g + 1 < h) (h0 : w0.heap.size ≤ h) (j : Nat) (v : Value) (es' : Array Value) (e : es.setIfInBounds j v = es') : Bn3 w0 g h cs ds es' S (w.setCell ⟨h, j, none⟩ v) :=
  ⟨(Below.heap_setCell _ ⟨h, j, none⟩ v g (by show g ≠ h; omega)).trans i.row, (Below.heap_setCell _ ⟨h, j, none⟩ v (g + 1) (by show g + 1 ≠ h; omega)).trans i.row2, by rw [heap_setCell_same _ _ _ _ _ _ i.row3, e], i.below.setCell (p := ⟨h, j, none⟩) h0 v⟩
end Go.Nod
namespace Go.Proofs.YtcdmdpafkiljdaaDoor
open Go.RowKit Go.Wire Go.Stamp Go.Opn Go.Nod
attribute [local go_sem] Oper.semAt_some
set_option maxRecDepth 100000 in
set_option maxHeartbeats 4000000 in
theorem nodeHashes_no (a b : Nd) (pv pw : Value) (w : World) (hR : StrRow.Reads w pv a.ps) (hn : a.ps.length ≤ maxLen) (hx : ∀ x ∈ a.ps, x.size ≤ maxLen) (hR' : StrRow.Reads w pw b.ps) (hn' : b.ps.length ≤ maxLen) (hx' : ∀ x ∈ b.ps, x.size ≤ maxLen) (h : a.chk ≠ 0 ∨ b.chk ≠ 0) (hst : Steps w) :
    Calls Tryd.prog 4 #[a.v pv, b.v pw] w fun e w' => e = .returned (.bool true) ∧ Below w.heap.size w w' := by
  have HCa : Hid (∀ w', Below w.heap.size w w' → Calls Tryd.prog 12 #[a.v pv] w' fun e w2 => e = .returned (.int .i64 a.chk) ∧ Below w'.heap.size w' w2) := fun w' k => nodeCheck_any a pv w' (hR.below k (Nat.le_refl _)) hn hx
  have HCb : Hid (∀ w', Below w.heap.size w w' → Calls Tryd.prog 12 #[b.v pw] w' fun e w2 => e = .returned (.int .i64 b.chk) ∧ Below w'.heap.size w' w2) := fun w' k => nodeCheck_any b pw w' (hR'.below k (Nat.le_refl _)) hn' hx'
  have HA : Hid (∀ w', Below w.heap.size w w' → Calls Tryd.prog 9 #[] w' fun e w2 => e = .returned (.bool true) ∧ Below w'.heap.size w' w2) := fun w' k => awake11_any w' (hst.below k hst.pos)
  have I := hide (Bn2.new w (a.cs pv) (b.cs pw) 29)
  clear hR hn hx hR' hn' hx' hst
  generalize a.chk = C at *
  generalize b.chk = C' at *
  by_cases hr : C = 0
  · have ht : (C' == 0) = false := beq_eq_false_iff_ne.2 (h.resolve_left (fun x => x hr))
    subst hr
    clear h
    obtain ⟨au, ps, ⟨kd, ⟨c, k⟩, th, p, nm, d, g, z⟩, tg⟩ := a
    obtain ⟨au', ps', ⟨kd', ⟨c', k'⟩, th', p', nm', d', g', z'⟩, tg'⟩ := b
    unfold Nd.v Nd.cs at *
    dsimp only at *
    go_enter Tryd.func4, Tryd.ntmps4
    go_wp2_with (first
      | (refine wpList_load_row rfl 29 _ rfl _ rfl _ _ _ _ I.out.row Tryd.underlying29 rfl infoNode ?_)
      | (refine wpList_load_row rfl 29 _ rfl _ rfl _ _ _ _ I.out.row2 Tryd.underlying29 rfl infoNode ?_)
      | (go_at_call 12; refine (HCa.out _ I.out.below).mono ?_; clear HCa; rintro e w1 ⟨rfl, k1⟩; replace I := hide (I.out.step k1); clear k1; obtain ⟨c0, c1, c2, c3, c4, c5, c6, c7, c8, c9, c10, c11⟩ := cells12 (n := (Nd.mk au' ps' ⟨kd', ⟨c', k'⟩, th', p', nm', d', g', z'⟩ tg')) I.out.row2)
      | (go_at_call 12; refine (HCb.out _ I.out.below).mono ?_; clear HCb; rintro e w2 ⟨rfl, k2⟩; replace I := hide (I.out.step k2); clear k2 c0 c1 c2 c3 c4 c5 c6 c7 c8 c9 c10 c11)
      | (go_at_call 13; refine (HEa.out _ I.out.below).mono ?_; clear HEa; rintro e w3 ⟨rfl, k3⟩; replace I := hide (I.out.step k3); clear k3)
      | (go_at_call 13; refine (HEb.out _ I.out.below).mono ?_; clear HEb; rintro e w4 ⟨rfl, k4⟩; replace I := hide (I.out.step k4); clear k4)
      | (go_at_call 9; refine (HA.out _ I.out.below).mono ?_; rintro e w5 ⟨rfl, k5⟩; replace I := hide (I.out.step k5); clear k5))
    go_ret
    exact ⟨rfl, I.out.below⟩
  · have hr0 : (C == 0) = false := beq_eq_false_iff_ne.2 hr
    clear h hr
    obtain ⟨au, ps, ⟨kd, ⟨c, k⟩, th, p, nm, d, g, z⟩, tg⟩ := a
    obtain ⟨au', ps', ⟨kd', ⟨c', k'⟩, th', p', nm', d', g', z'⟩, tg'⟩ := b
    unfold Nd.v Nd.cs at *
    dsimp only at *
    go_enter Tryd.func4, Tryd.ntmps4
    go_wp2_with (first
      | (refine wpList_load_row rfl 29 _ rfl _ rfl _ _ _ _ I.out.row Tryd.underlying29 rfl infoNode ?_)
      | (refine wpList_load_row rfl 29 _ rfl _ rfl _ _ _ _ I.out.row2 Tryd.underlying29 rfl infoNode ?_)
      | (go_at_call 12; refine (HCa.out _ I.out.below).mono ?_; clear HCa; rintro e w1 ⟨rfl, k1⟩; replace I := hide (I.out.step k1); clear k1; obtain ⟨c0, c1, c2, c3, c4, c5, c6, c7, c8, c9, c10, c11⟩ := cells12 (n := (Nd.mk au' ps' ⟨kd', ⟨c', k'⟩, th', p', nm', d', g', z'⟩ tg')) I.out.row2)
      | (go_at_call 12; refine (HCb.out _ I.out.below).mono ?_; clear HCb; rintro e w2 ⟨rfl, k2⟩; replace I := hide (I.out.step k2); clear k2 c0 c1 c2 c3 c4 c5 c6 c7 c8 c9 c10 c11)
      | (go_at_call 13; refine (HEa.out _ I.out.below).mono ?_; clear HEa; rintro e w3 ⟨rfl, k3⟩; replace I := hide (I.out.step k3); clear k3)
      | (go_at_call 13; refine (HEb.out _ I.out.below).mono ?_; clear HEb; rintro e w4 ⟨rfl, k4⟩; replace I := hide (I.out.step k4); clear k4)
      | (go_at_call 9; refine (HA.out _ I.out.below).mono ?_; rintro e w5 ⟨rfl, k5⟩; replace I := hide (I.out.step k5); clear k5))
    go_ret
    exact ⟨rfl, I.out.below⟩
set_option maxRecDepth 100000 in
set_option maxHeartbeats 4000000 in
theorem nodeHashes_ok (a b : Nd) (pv pw : Value) (w : World) (hR : StrRow.Reads w pv a.ps) (hR' : StrRow.Reads w pw b.ps) (ha : a.Good) (hb : b.Good) (hst : Steps w) :
    Calls Tryd.prog 4 #[a.v pv, b.v pw] w fun e w' => e = .returned (.bool true) ∧ Below w.heap.size w w' := by
  obtain ⟨qa, qc, rfl⟩ := hR'.form
  have HCa : Hid (∀ w', Below w.heap.size w w' → Calls Tryd.prog 12 #[a.v pv] w' fun e w2 => e = .returned (.int .i64 0) ∧ Below w'.heap.size w' w2) := fun w' k => by
    have := nodeCheck_any a pv w' (hR.below k (Nat.le_refl _)) (by have := ha.few; unfold maxLen; omega) (fun x hx => by have := ha.all x hx; unfold maxLen; omega)
    rwa [ha.chk] at this
  have HCb : Hid (∀ w', Below w.heap.size w w' → Calls Tryd.prog 12 #[b.v (.slice qa b.ps.length qc)] w' fun e w2 => e = .returned (.int .i64 0) ∧ Below w'.heap.size w' w2) := fun w' k => by
    have := nodeCheck_any b (.slice qa b.ps.length qc) w' (hR'.below k (Nat.le_refl _)) (by have := hb.few; unfold maxLen; omega) (fun x hx => by have := hb.all x hx; unfold maxLen; omega)
    rwa [hb.chk] at this
  have HEa : Hid (∀ w', Below w.heap.size w w' → Calls Tryd.prog 13 #[a.v pv] w' fun e w2 => e = .returned (.tuple #[.string (a.bodyB ++ a.tg), .int .i64 0]) ∧ Below w'.heap.size w' w2) := fun w' k => by have := nodeEncode_ok a pv w' (hR.below k (Nat.le_refl _)) ha; rwa [← bytesB_eq] at this
  have HEb : Hid (∀ w', Below w.heap.size w w' → Calls Tryd.prog 13 #[b.v (.slice qa b.ps.length qc)] w' fun e w2 => e = .returned (.tuple #[.string (b.bodyB ++ b.tg), .int .i64 0]) ∧ Below w'.heap.size w' w2) := fun w' k => by have := nodeEncode_ok b (.slice qa b.ps.length qc) w' (hR'.below k (Nat.le_refl _)) hb; rwa [← bytesB_eq] at this
  have HHa : Hid (∀ w', Below w.heap.size w w' → Calls Tryd.prog 15 #[a.v pv] w' fun e w2 => e = .returned (.string (tagD a.body)) ∧ Below w'.heap.size w' w2) := fun w' k => nodeHash_any a pv w' (hR.below k (Nat.le_refl _)) ha.sig (hst.below k hst.pos)
  have HHb : Hid (∀ w', Below w.heap.size w w' → Calls Tryd.prog 15 #[b.v (.slice qa b.ps.length qc)] w' fun e w2 => e = .returned (.string (tagD b.body)) ∧ Below w'.heap.size w' w2) := fun w' k => nodeHash_any b (.slice qa b.ps.length qc) w' (hR'.below k (Nat.le_refl _)) hb.sig (hst.below k hst.pos)
  have HTa : Hid (∀ w', Below w.heap.size w w' → Calls Tryd.prog 14 #[.int .u8 68, .slice (some ⟨w'.heap.size, 0, none⟩) 1 1] (w'.alloc (.cells #[.string a.bodyB] 9)) fun e w2 => e = .returned (.string (tagD a.body)) ∧ Below (w'.alloc (.cells #[.string a.bodyB] 9)).heap.size (w'.alloc (.cells #[.string a.bodyB] 9)) w2) := fun w' k => by
    have := tagD_any a.bodyB w' (by have := ha.size; omega) (hst.below k hst.pos)
    rwa [Nd.bodyB_list] at this
  have HTb : Hid (∀ w', Below w.heap.size w w' → Calls Tryd.prog 14 #[.int .u8 68, .slice (some ⟨w'.heap.size, 0, none⟩) 1 1] (w'.alloc (.cells #[.string b.bodyB] 9)) fun e w2 => e = .returned (.string (tagD b.body)) ∧ Below (w'.alloc (.cells #[.string b.bodyB] 9)).heap.size (w'.alloc (.cells #[.string b.bodyB] 9)) w2) := fun w' k => by
    have := tagD_any b.bodyB w' (by have := hb.size; omega) (hst.below k hst.pos)
    rwa [Nd.bodyB_list] at this
  have HSa : Hid (∀ w', Below w.heap.size w w' → Calls Tryd.prog 16 #[a.v pv, (Nd.mk b.au b.ps b.op a.tg).v (.slice qa b.ps.length qc)] w' fun e w2 => e = .returned (.bool (a.eqb ⟨b.au, b.ps, b.op, a.tg⟩)) ∧ Below w'.heap.size w' w2) := fun w' k => nodeSame_any a ⟨b.au, b.ps, b.op, a.tg⟩ pv (.slice qa b.ps.length qc) w' (hR.below k (Nat.le_refl _)) (hR'.below k (Nat.le_refl _)) (by have := ha.few; unfold maxLen; omega) (by have := hb.few; show b.ps.length ≤ _; unfold maxLen; omega)
  have HA : Hid (∀ w', Below w.heap.size w w' → Calls Tryd.prog 9 #[] w' fun e w2 => e = .returned (.bool true) ∧ Below w'.heap.size w' w2) := fun w' k => awake11_any w' (hst.below k hst.pos)
  have I := hide (Bn2.new w (a.cs pv) (b.cs (.slice qa b.ps.length qc)) 29)
  have hX : a.bodyB.size ≤ 400 := ha.size
  have hX' : b.bodyB.size ≤ 400 := hb.size
  have ht : a.tg.size = 32 := ha.tag
  have ht' : b.tg.size = 32 := hb.tag
  obtain ⟨PQ, HPQ⟩ : ∃ PQ : Bool, Hid ((a.bodyB.toList == b.bodyB.toList) = PQ) := ⟨_, rfl⟩
  have HPS : Hid (a.eqb ⟨b.au, b.ps, b.op, a.tg⟩ = PQ) := by
    show _ = _
    cases PQ with
    | false => exact body_ne (fun e => by have := HPQ.out; rw [e] at this; simp at this)
    | true =>
      have e : a.bodyB = b.bodyB := (toList_iff _ _).1 (by simpa using HPQ.out)
      have e2 : a.body = b.body := by rw [← Nd.bodyB_list, e, Nd.bodyB_list]
      obtain ⟨h1, h2, h3⟩ := body_inj ha hb e2
      rw [Nd.eqb_iff, ← h1, ← h2, ← h3]
  have HPD : PQ = true → tagD a.body = tagD b.body := fun h => by
    subst h
    have e : a.bodyB = b.bodyB := (toList_iff _ _).1 (by simpa using HPQ.out)
    rw [← Nd.bodyB_list, e, Nd.bodyB_list]
  clear hR hR' hst ha hb
  rw [HPS.out] at HSa
  clear HPS
  have HY := hide (cut_front a.bodyB a.tg)
  have HY' := hide (cut_front b.bodyB b.tg)
  generalize tagD a.body = D at *
  generalize tagD b.body = D' at *
  generalize a.bodyB = X at *
  generalize b.bodyB = X' at *
  obtain ⟨au, ps, ⟨kd, ⟨c, k⟩, th, p, nm, d, g, z⟩, tg⟩ := a
  obtain ⟨au', ps', ⟨kd', ⟨c', k'⟩, th', p', nm', d', g', z'⟩, tg'⟩ := b
  unfold Nd.v Nd.cs at *
  dsimp only at *
  go_enter Tryd.func4, Tryd.ntmps4
  have hYz : ((X ++ tg).size : Int) = X.size + 32 := by rw [ByteArray.size_append]; omega
  have hYz' : ((X' ++ tg').size : Int) = X'.size + 32 := by rw [ByteArray.size_append]; omega
  have HYZ := hide (And.intro hYz hYz')
  obtain ⟨Y, hY⟩ : ∃ Y, Y = X ++ tg := ⟨_, rfl⟩
  obtain ⟨Y', hY'⟩ : ∃ Y', Y' = X' ++ tg' := ⟨_, rfl⟩
  rw [← hY] at HEa HY hYz
  rw [← hY'] at HEb HY' hYz'
  clear HYZ hY hY'
  have hx1 : (X.size : Int) ≤ 400 := by omega
  have hx2 : (X'.size : Int) ≤ 400 := by omega
  have hy1 : (Y.size : Int) ≤ 432 := by omega
  have hy2 : (Y'.size : Int) ≤ 432 := by omega
  have hy3 : ¬ (Y.size : Int) < 32 := by omega
  have hy4 : ¬ (Y'.size : Int) < 32 := by omega
  have hs1 : (Y.size : Int) - 32 = X.size := by omega
  have hs2 : (Y'.size : Int) - 32 = X'.size := by omega
  have hs3 : (X.size : Int) ≤ Y.size := by omega
  have hs4 : (X'.size : Int) ≤ Y'.size := by omega
  clear hYz hYz'
  go_upto_region 7 with (first
    | (refine wpList_load_row rfl 29 _ rfl _ rfl _ _ _ _ I.out.row Tryd.underlying29 rfl infoNode ?_)
    | (refine wpList_load_row rfl 29 _ rfl _ rfl _ _ _ _ I.out.row2 Tryd.underlying29 rfl infoNode ?_)
    | (go_at_call 12; refine (HCa.out _ I.out.below).mono ?_; clear HCa; rintro e w1 ⟨rfl, k1⟩; replace I := hide (I.out.step k1); clear k1; obtain ⟨c0, c1, c2, c3, c4, c5, c6, c7, c8, c9, c10, c11⟩ := cells12 (n := (Nd.mk au' ps' ⟨kd', ⟨c', k'⟩, th', p', nm', d', g', z'⟩ tg')) I.out.row2)
    | (go_at_call 12; refine (HCb.out _ I.out.below).mono ?_; clear HCb; rintro e w2 ⟨rfl, k2⟩; replace I := hide (I.out.step k2); clear k2 c0 c1 c2 c3 c4 c5 c6 c7 c8 c9 c10 c11)
    | (go_at_call 13; refine (HEa.out _ I.out.below).mono ?_; clear HEa; rintro e w3 ⟨rfl, k3⟩; replace I := hide (I.out.step k3); clear k3)
    | (go_at_call 13; refine (HEb.out _ I.out.below).mono ?_; clear HEb; rintro e w4 ⟨rfl, k4⟩; replace I := hide (I.out.step k4); clear k4)
    | fail)
  have hq1 := HY.out
  have hq2 := HY'.out
  go_cut [9, 10] (fun v v' wx => v = .string X ∧ v' = .string X' ∧ Hid (Bn2 w w.heap.size ((Nd.mk au ps ⟨kd, ⟨c, k⟩, th, p, nm, d, g, z⟩ tg).cs pv) ((Nd.mk au' ps' ⟨kd', ⟨c', k'⟩, th', p', nm', d', g', z'⟩ tg').cs (.slice qa ps'.length qc)) 29 wx))
  case first =>
    go_quiet (fail)
    go_wp2_with fail
    go_meet
    exact ⟨rfl, rfl, I.out.row, I.out.row2, I.out.below.trans (by first | exact Below.refl _ _ | exact ⟨rfl, rfl, rfl, Nat.le_refl _, fun _ _ => rfl⟩)⟩
  obtain ⟨rfl, rfl, J0⟩ := hcut
  clear I HY HY' hq1 hq2 hs1 hs2 hs3 hs4 hy1 hy2 hy3 hy4
  have I : Hid (Bn2 w w.heap.size ((Nd.mk au ps ⟨kd, ⟨c, k⟩, th, p, nm, d, g, z⟩ tg).cs pv) ((Nd.mk au' ps' ⟨kd', ⟨c', k'⟩, th', p', nm', d', g', z'⟩ tg').cs (.slice qa ps'.length qc)) 29 wc) := J0
  clear J0
  dsimp only [Nd.cs] at I
  cases PQ with
  | true =>
    obtain rfl : X = X' := (toList_iff _ _).1 (by simpa using HPQ.out)
    obtain rfl := HPD rfl
    clear HPQ HPD HTa HTb
    go_upto_region 10 with fail
    refine wp_region_lit ?_
    refine wpList_load_row rfl 29 _ rfl _ rfl _ _ _ _ I.out.row2 Tryd.underlying29 rfl infoNode ?_
    simp only [Act.put, List.setIfInBounds_toArray, List.set_cons_succ, List.set_cons_zero]
    have hlt := hide (row_lt I.out.row2)
    have h0 := hide I.out.below.size
    have J := hide (Bn3.start I.out #[.int .i64 0, .slice none 0 0, .int .i64 0, .int .u64 0, .int .i64 0, .int .u64 0, .int .u64 0, .string ⟨#[]⟩, .bool false, .string ⟨#[]⟩, .int .i64 0, .string ⟨#[]⟩] ((Nd.mk au' ps' ⟨kd', ⟨c', k'⟩, th', p', nm', d', g', z'⟩ tg').cs (.slice qa ps'.length qc)))
    dsimp only [Nd.cs] at J
    go_upto_region 11 with (refine wpList_store_row rfl 29 _ _ rfl _ _ rfl rfl 29 _ (heap_alloc_new wc (.cells #[.int .i64 0, .slice none 0 0, .int .i64 0, .int .u64 0, .int .i64 0, .int .u64 0, .int .u64 0, .string ⟨#[]⟩, .bool false, .string ⟨#[]⟩, .int .i64 0, .string ⟨#[]⟩] 29)) infoNode rfl (by simp [Value.oneCell']) ?_)
    generalize (wc.alloc (.cells _ 29)).setRow wc.heap.size _ = V at *
    generalize wc.heap.size = h at *
    have a11 : V.cell? ⟨w.heap.size, 11, none⟩ = some (.string tg) := cell_of_row _ _ _ _ _ _ J.out.row
    have b11 : V.cell? ⟨h, 11, none⟩ = some (.string tg') := cell_of_row _ _ _ _ _ _ J.out.row3
    have f11 : V.frozen? ⟨h, 11, none⟩ = false := frozen_of_row _ _ _ _ _ J.out.row3
    clear I
    go_upto_region 12 with fail
    replace J := hide (J.out.set hlt.out h0.out 11 (.string tg) ((Nd.mk au' ps' ⟨kd', ⟨c', k'⟩, th', p', nm', d', g', z'⟩ tg).cs (.slice qa ps'.length qc)) rfl)
    clear a11 b11 f11 hlt h0
    dsimp only [Nd.cs] at J
    generalize V.setCell ⟨h, 11, none⟩ (.string tg) = V2 at *
    refine QuietCalls.region (by kernel_rfl) (by kernel_rfl) ?_
    refine QuietCalls.call0 rfl rfl Tryd.call9 (fun w k => HA.out w (J.out.step k).below) ?_; simp only [Act.put, List.setIfInBounds_toArray, List.set_cons_succ, List.set_cons_zero]
    (first | go_big_quiet_step (fail) | quiet_step (fail))
    refine QuietCalls.load rfl 29 _ rfl _ rfl _ _ _ _ J.out.row Tryd.underlying29 rfl infoNode ?_; simp only [Act.put, List.setIfInBounds_toArray, List.set_cons_succ, List.set_cons_zero]
    refine QuietCalls.call1 rfl rfl Tryd.call15 (fun w k => HHa.out w (J.out.step k).below) rfl ?_; simp only [Act.put, List.setIfInBounds_toArray, List.set_cons_succ, List.set_cons_zero]
    refine QuietCalls.load rfl 29 _ rfl _ rfl _ _ _ _ J.out.row2 Tryd.underlying29 rfl infoNode ?_; simp only [Act.put, List.setIfInBounds_toArray, List.set_cons_succ, List.set_cons_zero]
    refine QuietCalls.call1 rfl rfl Tryd.call15 (fun w k => HHb.out w (J.out.step k).below) rfl ?_; simp only [Act.put, List.setIfInBounds_toArray, List.set_cons_succ, List.set_cons_zero]
    iterate 7 (first | go_big_quiet_step (fail) | quiet_step (fail))
    refine QuietCalls.load rfl 29 _ rfl _ rfl _ _ _ _ J.out.row Tryd.underlying29 rfl infoNode ?_; simp only [Act.put, List.setIfInBounds_toArray, List.set_cons_succ, List.set_cons_zero]
    refine QuietCalls.load rfl 29 _ rfl _ rfl _ _ _ _ J.out.row3 Tryd.underlying29 rfl infoNode ?_; simp only [Act.put, List.setIfInBounds_toArray, List.set_cons_succ, List.set_cons_zero]
    refine QuietCalls.call2 rfl rfl Tryd.call16 (fun w k => HSa.out w (J.out.step k).below) rfl rfl ?_; simp only [Act.put, List.setIfInBounds_toArray, List.set_cons_succ, List.set_cons_zero]
    iterate 6 (first | go_big_quiet_step (fail) | quiet_step (fail))
    refine wpQuiet_nil ?_
    intro w8 k8
    go_wp2_with fail
    go_ret
    exact ⟨rfl, (J.out.step k8).below⟩
  | false =>
    have hxy : (X.toList == X'.toList) = false := HPQ.out
    have hxy2 : ¬ X.toList = X'.toList := beq_eq_false_iff_ne.1 hxy
    clear HPD HPQ
    by_cases hD : D = D'
    · subst hD
      clear HHa HHb HSa
      go_wp2_with (first
        | (go_at_call 14; refine (HTa.out _ I.out.below).mono ?_; clear HTa; rintro e w5 ⟨rfl, k5⟩; replace I := hide (I.out.step (below_alloc_call k5)); clear k5)
        | (go_at_call 14; refine (HTb.out _ I.out.below).mono ?_; clear HTb; rintro e w6 ⟨rfl, k6⟩; replace I := hide (I.out.step (below_alloc_call k6)); clear k6)
        | (go_at_call 9; refine (HA.out _ I.out.below).mono ?_; rintro e w7 ⟨rfl, k7⟩; replace I := hide (I.out.step k7); clear k7))
      go_ret
      exact ⟨rfl, I.out.below⟩
    · have hd1 : (D.toList == D'.toList) = false := nd_no hD
      have hd2 : ¬ D.toList = D'.toList := beq_eq_false_iff_ne.1 hd1
      clear hD
      go_upto_region 10 with (first
        | (go_at_call 14; refine (HTa.out _ I.out.below).mono ?_; clear HTa; rintro e w5 ⟨rfl, k5⟩; replace I := hide (I.out.step (below_alloc_call k5)); clear k5)
        | (go_at_call 14; refine (HTb.out _ I.out.below).mono ?_; clear HTb; rintro e w6 ⟨rfl, k6⟩; replace I := hide (I.out.step (below_alloc_call k6)); clear k6))
      refine wp_region_lit ?_
      refine wpList_load_row rfl 29 _ rfl _ rfl _ _ _ _ I.out.row2 Tryd.underlying29 rfl infoNode ?_
      simp only [Act.put, List.setIfInBounds_toArray, List.set_cons_succ, List.set_cons_zero]
      have hlt := hide (row_lt I.out.row2)
      have h0 := hide I.out.below.size
      have J := hide (Bn3.start I.out #[.int .i64 0, .slice none 0 0, .int .i64 0, .int .u64 0, .int .i64 0, .int .u64 0, .int .u64 0, .string ⟨#[]⟩, .bool false, .string ⟨#[]⟩, .int .i64 0, .string ⟨#[]⟩] ((Nd.mk au' ps' ⟨kd', ⟨c', k'⟩, th', p', nm', d', g', z'⟩ tg').cs (.slice qa ps'.length qc)))
      dsimp only [Nd.cs] at J
      go_upto_region 11 with (refine wpList_store_row rfl 29 _ _ rfl _ _ rfl rfl 29 _ (heap_alloc_new w6 (.cells #[.int .i64 0, .slice none 0 0, .int .i64 0, .int .u64 0, .int .i64 0, .int .u64 0, .int .u64 0, .string ⟨#[]⟩, .bool false, .string ⟨#[]⟩, .int .i64 0, .string ⟨#[]⟩] 29)) infoNode rfl (by simp [Value.oneCell']) ?_)
      generalize (w6.alloc (.cells _ 29)).setRow w6.heap.size _ = V at *
      generalize w6.heap.size = h at *
      have a11 : V.cell? ⟨w.heap.size, 11, none⟩ = some (.string tg) := cell_of_row _ _ _ _ _ _ J.out.row
      have b11 : V.cell? ⟨h, 11, none⟩ = some (.string tg') := cell_of_row _ _ _ _ _ _ J.out.row3
      have f11 : V.frozen? ⟨h, 11, none⟩ = false := frozen_of_row _ _ _ _ _ J.out.row3
      clear I
      go_upto_region 12 with fail
      replace J := hide (J.out.set hlt.out h0.out 11 (.string tg) ((Nd.mk au' ps' ⟨kd', ⟨c', k'⟩, th', p', nm', d', g', z'⟩ tg).cs (.slice qa ps'.length qc)) rfl)
      clear a11 b11 f11 hlt h0
      dsimp only [Nd.cs] at J
      generalize V.setCell ⟨h, 11, none⟩ (.string tg) = V2 at *
      refine QuietCalls.region (by kernel_rfl) (by kernel_rfl) ?_
      refine QuietCalls.call0 rfl rfl Tryd.call9 (fun w k => HA.out w (J.out.step k).below) ?_; simp only [Act.put, List.setIfInBounds_toArray, List.set_cons_succ, List.set_cons_zero]
      (first | go_big_quiet_step (fail) | quiet_step (fail))
      refine QuietCalls.load rfl 29 _ rfl _ rfl _ _ _ _ J.out.row Tryd.underlying29 rfl infoNode ?_; simp only [Act.put, List.setIfInBounds_toArray, List.set_cons_succ, List.set_cons_zero]
      refine QuietCalls.call1 rfl rfl Tryd.call15 (fun w k => HHa.out w (J.out.step k).below) rfl ?_; simp only [Act.put, List.setIfInBounds_toArray, List.set_cons_succ, List.set_cons_zero]
      refine QuietCalls.load rfl 29 _ rfl _ rfl _ _ _ _ J.out.row2 Tryd.underlying29 rfl infoNode ?_; simp only [Act.put, List.setIfInBounds_toArray, List.set_cons_succ, List.set_cons_zero]
      refine QuietCalls.call1 rfl rfl Tryd.call15 (fun w k => HHb.out w (J.out.step k).below) rfl ?_; simp only [Act.put, List.setIfInBounds_toArray, List.set_cons_succ, List.set_cons_zero]
      iterate 7 (first | go_big_quiet_step (fail) | quiet_step (fail))
      refine QuietCalls.load rfl 29 _ rfl _ rfl _ _ _ _ J.out.row Tryd.underlying29 rfl infoNode ?_; simp only [Act.put, List.setIfInBounds_toArray, List.set_cons_succ, List.set_cons_zero]
      refine QuietCalls.load rfl 29 _ rfl _ rfl _ _ _ _ J.out.row3 Tryd.underlying29 rfl infoNode ?_; simp only [Act.put, List.setIfInBounds_toArray, List.set_cons_succ, List.set_cons_zero]
      refine QuietCalls.call2 rfl rfl Tryd.call16 (fun w k => HSa.out w (J.out.step k).below) rfl rfl ?_; simp only [Act.put, List.setIfInBounds_toArray, List.set_cons_succ, List.set_cons_zero]
      iterate 6 (first | go_big_quiet_step (fail) | quiet_step (fail))
      refine wpQuiet_nil ?_
      intro w8 k8
      go_wp2_with fail
      go_ret
      exact ⟨rfl, (J.out.step k8).below⟩
theorem nodeHashes_any (a : Nd) (pv : Value) (b : Nd) (pw : Value) (w : World) (hR : StrRow.Reads w pv a.ps) (hn : a.ps.length ≤ maxLen) (hx : ∀ x ∈ a.ps, x.size ≤ maxLen) (_ : a.op.Fits) (_ : -9223372036854775808 ≤ a.au ∧ a.au ≤ 9223372036854775807) (hR' : StrRow.Reads w pw b.ps) (hn' : b.ps.length ≤ maxLen) (hx' : ∀ x ∈ b.ps, x.size ≤ maxLen) (_ : b.op.Fits) (_ : -9223372036854775808 ≤ b.au ∧ b.au ≤ 9223372036854775807) (hst : Steps w) :
    Calls Tryd.prog 4 #[a.v pv, b.v pw] w fun e w' => e = .returned (.bool true) ∧ Below w.heap.size w w' := by
  by_cases h : a.chk = 0 ∧ b.chk = 0
  · exact nodeHashes_ok a b pv pw w hR hR' (Nd.chk_zero h.1) (Nd.chk_zero h.2) hst
  · refine nodeHashes_no a b pv pw w hR hn hx hR' hn' hx' ?_ hst
    by_cases h1 : a.chk = 0
    · exact .inr fun h2 => h ⟨h1, h2⟩
    · exact .inl h1
end Go.Proofs.YtcdmdpafkiljdaaDoor
