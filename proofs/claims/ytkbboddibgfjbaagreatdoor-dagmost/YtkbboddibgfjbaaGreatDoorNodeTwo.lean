/- Several texts in one: NodeTake, NodeDecode. -/
import Derived.Test.YtkbboddibgfjbaaGreatDoorNodeOne
import Derived.Test.YtkbboddibgfjbaaGreatDoorOpTwo
/- Contracts: parents off a reader, and the node of bytes; the program's. -/
namespace Go.Proofs.YtkbboddibgfjbaaGreatDoor
open Go.RowKit Go.Wire Go.Stamp Go.Opn Go.Nod
attribute [local go_sem] Oper.semAt_some
theorem ndInfo9 : (Tryz.prog.info? 9).map (fun i => (i.zero, i.size, i.bytes)) = some (some (.string ⟨#[]⟩), 1, 16) := by kernel_rfl
theorem ndUnder22 : Tryz.prog.underlying 24 = some (.slice 9) := by kernel_rfl
set_option maxHeartbeats 1000000 in
set_option maxRecDepth 100000 in
/-- Parents, as they are taken: so many digests, whatever error comes. -/
theorem takeParents_any (b : Nat) (q : St) (w : World) (h : Rd 246 b q w) (hq : q.pos ≤ q.s.size) (hs : q.s.size ≤ maxLen) :
    Calls Tryz.prog 128 #[.pointer (some ⟨b, 0, none⟩)] w fun e w' => ∃ v, e = .returned v ∧ w'.ownsRow w.heap.size 9 1 v (if 8 < (q.number 1).2 then [] else ((q.number 1).1.hashes (q.number 1).2).2).length ((if 8 < (q.number 1).2 then [] else ((q.number 1).1.hashes (q.number 1).2).2).map Value.string) ∧ Rd 246 b (if 8 < (q.number 1).2 then (q.number 1).1.fail 3 else ((q.number 1).1.hashes (q.number 1).2).1) w' ∧ Kept b w w' := by
  obtain ⟨i9, hi9, hz0, hz1, hz2⟩ := info_parts ndInfo9
  have hb := h.lt
  have hm : (q.number 1).2 < 256 := q.number_lt 1 (by decide)
  have HN := hide (readerNumber_any b q 1 w h hq hs)
  have hq1 : (q.number 1).1.pos ≤ (q.number 1).1.s.size := by rw [St.number_s]; exact q.number_le 1 hq
  have hs1 : (q.number 1).1.s.size ≤ maxLen := by rw [St.number_s]; exact hs
  generalize (q.number 1).1 = r at *
  generalize (q.number 1).2 = m at *
  clear h hq hs
  have hm1 : IntKind.i64.wrap (m : Int) = m := Sha.wrap_i64 _ (by omega) (by omega)
  have hm2 : (m : Int) < 256 := by omega
  by_cases h8 : 8 < m
  · rw [if_pos h8, if_pos h8]
    have h8' : (8 : Int) < m := by omega
    have HF := hide (fun (w1 : World) (h1 : Rd 246 b r w1) => fail_any b r 3 w1 h1)
    go_enter Tryz.func128, Tryz.ntmps128
    go_wp2_with (first
      | (go_at_call 127; refine HN.out.mono ?_; rintro e w1 ⟨rfl, h1, k1⟩)
      | (go_at_call 160; refine (HF.out _ h1).mono ?_; rintro e w2 ⟨rfl, h2, k2⟩))
    go_ret
    exact ⟨_, rfl, World.ownsRow_nil _ _ _ _, h2, k1.trans k2⟩
  · rw [if_neg h8, if_neg h8]
    have h8' : ¬ (8 : Int) < m := by omega
    have hn' : (m : Int) ≤ 8 := by omega
    obtain ⟨DD, HDD⟩ : ∃ DD : Nat → List Value, Hid (∀ i, DD i = (r.hashes i).2.map Value.string) := ⟨_, fun _ => rfl⟩
    go_enter Tryz.func128, Tryz.ntmps128
    go_wp2_with (go_at_call 127; refine HN.out.mono ?_; rintro e w1 ⟨rfl, h1, k1⟩; have H1 := hide (And.intro h1 k1); clear h1 k1)
    go_loopw [4, 13] (fun vo vi wr => ∃ i : Nat, i ≤ m ∧ vi = .int .i64 i ∧ Hid (wr.ownsRow w.heap.size 9 1 vo i (DD i) ∧ Rd 246 b (r.hashes i).1 wr ∧ Kept b w wr)) (fun _ vi _ => 1000 - (intOf vi).toNat)
    case atStart => exact ⟨0, Nat.zero_le _, rfl, by rw [HDD.out]; exact World.ownsRow_nil _ _ _ _, H1.out.1, H1.out.2⟩
    case round =>
      clear H1
      obtain ⟨i, hi, rfl, HH⟩ := hrel
      obtain ⟨oa, oc, hvo⟩ := own_slice HH.out.1
      subst hvo
      by_cases hlt : i < m
      · have hlt' : (i : Int) < m := by omega
        have HC := hide (hash_any b (r.hashes i).1 wr HH.out.2.1 (by rw [St.hashes_s]; exact St.hashes_le r hq1 i) (by rw [St.hashes_s]; exact hs1))
        have e1 : ((r.hashes i).1.bytes 32).1 = (r.hashes (i + 1)).1 := rfl
        have HD : Hid (DD (i + 1) = DD i ++ [.string ((r.hashes i).1.bytes 32).2]) := by show _ = _; rw [HDD.out, HDD.out]; show ((r.hashes i).2 ++ [_]).map Value.string = _; rw [List.map_append]; rfl
        rw [e1] at HC
        clear e1
        generalize ((r.hashes i).1.bytes 32).2 = X at *
        go_wp2_with (first
          | (go_at_call 130; refine HC.out.mono ?_; rintro e w2 ⟨rfl, hr2, hk2⟩; have H2 := hide (And.intro hr2 (And.intro (own_kept HH.out.1 hk2 hb) (HH.out.2.2.trans hk2))); clear hr2 hk2)
          | (at_builtin; refine wpList_append_own _ rfl _ _ 24 rfl w.heap.size 9 i9 (.string ⟨#[]⟩) 1 16 ndUnder22 hi9 hz0 hz1 hz2 rfl (by decide) _ _ _ rfl (H2.out.2.1.alloc _) ⟨w2.heap.size, 0, none⟩ 1 1 [.string X] rfl rfl (cell_one_new _ _ _) ?a2 ?a3 ?a4 ?a5 ?_))
        case a2 => intro u hu; simp at hu; subst hu; rfl
        case a3 => unfold maxLen; omega
        case a4 => omega
        case a5 => have h1 := H2.out.2.2.below.size; simp; omega
        intro v' w3 hown hgrow _
        have H3 : Hid (w3.ownsRow w.heap.size 9 1 v' (i + 1) (DD (i + 1)) ∧ Rd 246 b (r.hashes (i + 1)).1 w3 ∧ Kept b w w3) := by
          refine ⟨by rw [HD.out]; exact hown, ?_, ?_⟩
          · have hb2 : b < w2.heap.size := H2.out.1.lt
            refine Rd.of_heap H2.out.1 ((hgrow.block b (by simp; omega) (fun e => ?_)).trans (heap_alloc_old _ _ hb2))
            have := own_base HH.out.1 e.symm
            omega
          · refine ⟨((H2.out.2.2.below.alloc (Nat.le_trans (Nat.le_of_lt hb) H2.out.2.2.below.size) _).grown hgrow (by have := H2.out.2.2.below.size; simp; omega) fun k e => Nat.le_trans (Nat.le_of_lt hb) (own_base HH.out.1 e)), fun k hk hl => ?_⟩
            have hkl : k < w2.heap.size := Nat.lt_of_lt_of_le hl H2.out.2.2.below.size
            refine (hgrow.block k (by simp; omega) (fun e => ?_)).trans ((heap_alloc_old _ _ hkl).trans (H2.out.2.2.other k hk hl))
            have := own_base HH.out.1 e.symm
            omega
        clear hown hgrow
        go_wp2
        go_roundw
        case rel => exact ⟨i + 1, by omega, by go_num, H3.out⟩
        case measure => simp [intOf]; omega
      · have hlt' : ¬ ((i : Int) < m) := by omega
        have hin : i = m := by omega
        subst hin
        have hl := St.hashes_length r i
        go_wp2_with fail
        go_ret
        exact ⟨_, rfl, by first | (rw [hl, ← HDD.out]; exact HH.out.1) | (rw [← HDD.out]; exact HH.out.1), HH.out.2.1, HH.out.2.2⟩
end Go.Proofs.YtkbboddibgfjbaaGreatDoor
/- Contract: the node of bytes; the program's. -/
namespace Go.Nod
open Go.RowKit Go.Wire
/-- While a node is read: the reader in block b, what is answered in block g, the node in block h, its parents' row at pv from base on. -/
structure Ds (T S b g h base : Nat) (zs cs : Array Value) (pv : Value) (ds : List ByteArray) (w0 : World) (q : St) (w : World) : Prop where
  rd : Rd T b q w
  z : w.heap[g]? = some (.cells zs S (0, 0))
  o : w.heap[h]? = some (.cells cs S (0, 0))
  own : w.ownsRow base 9 1 pv ds.length (ds.map Value.string)
  below : Below w0.heap.size w0 w
  hg : w0.heap.size = g
  hb : g < b
  hh : b < h
  hs : b < base
theorem Ds.read {T S b g h base : Nat} {zs cs : Array Value} {pv : Value} {ds : List ByteArray} {w0 w w' : World} {q q' : St} (i : Ds T S b g h base zs cs pv ds w0 q w) (r : Rd T b q' w') (k : Kept b w w') : Ds T S b g h base zs cs pv ds w0 q' w' := by
  have := i.hb
  have := i.hg
  have := i.hh
  exact ⟨r, (k.other g (by omega) (row_lt i.z)).trans i.z, (k.other h (by omega) (row_lt i.o)).trans i.o, own_kept i.own k i.hs, i.below.trans (k.below.mono (by omega)), i.hg, i.hb, i.hh, i.hs⟩
theorem Ds.step {T S b g h base : Nat} {zs cs : Array Value} {pv : Value} {ds : List ByteArray} {w0 w w' : World} {q : St} (i : Ds T S b g h base zs cs pv ds w0 q w) (k : Below w.heap.size w w') : Ds T S b g h base zs cs pv ds w0 q w' :=
  ⟨i.rd.of_heap (k.block _ i.rd.lt), kept_block i.z k, kept_block i.o k, own_kept i.own (Kept.of_below k i.rd.lt) i.hs, i.below.trans (k.mono i.below.size), i.hg, i.hb, i.hh, i.hs⟩
/-- What a reader has done so far: all but its block stands. -/
theorem Ds.start {T S base : Nat} {zs : Array Value} {pv : Value} {ds : List ByteArray} {r : St} {w w1 w2 : World} (k1 : Below (w.alloc (.cells zs S)).heap.size (w.alloc (.cells zs S)) w1) (k2 : Kept (w.heap.size + 1) w1 w2) (h2 : Rd T (w.heap.size + 1) r w2) (ho : w2.ownsRow base 9 1 pv ds.length (ds.map Value.string)) (hb : w.heap.size + 1 < base) (cs : Array Value) :
    Ds T S (w.heap.size + 1) w.heap.size w2.heap.size base zs cs pv ds w r (w2.alloc (.cells cs S)) := by
  have hz : w1.heap[w.heap.size]? = some (.cells zs S (0, 0)) := kept_block (heap_alloc_new _ _) k1
  have hz2 := (k2.other w.heap.size (by omega) (row_lt hz)).trans hz
  have b1 : Below w.heap.size w w1 := ((Below.refl _ w).alloc (Nat.le_refl _) _).trans (k1.mono (by simp))
  have b2 : Below w.heap.size w w2 := b1.trans (k2.below.mono (by omega))
  exact ⟨h2.of_heap (heap_alloc_old w2 _ h2.lt), kept_alloc hz2 _, heap_alloc_new _ _, ho.alloc _, b2.alloc b2.size _, rfl, by omega, h2.lt, hb⟩
theorem own_setRow {w : World} {base e g n : Nat} {v : Value} {xs : List Value} (h : w.ownsRow base e 1 v n xs) (hg : g < base) (ds : Array Value) : (w.setRow g ds).ownsRow base e 1 v n xs := by
  refine ⟨h.1, ?_⟩
  rcases h.2 with h | ⟨k, cap, cur, h1, h2, h3, h4⟩
  · exact .inl h
  · exact .inr ⟨k, cap, cur, h1, h2, (setRow_other _ _ _ _ (by omega)).trans h3, h4⟩
theorem own_mono11 {w : World} {base base' e n : Nat} {v : Value} {xs : List Value} (h : w.ownsRow base e 1 v n xs) (hb : base' ≤ base) : w.ownsRow base' e 1 v n xs := by
  refine ⟨h.1, ?_⟩
  rcases h.2 with h | ⟨k, cap, cur, h1, h2, h3⟩
  · exact .inl h
  · exact .inr ⟨k, cap, cur, h1, Nat.le_trans hb h2, h3⟩
theorem n3_is (q : St) : (n3 q).2 = (if 8 < ((n1 q).1.number 1).2 then [] else (((n1 q).1.number 1).1.hashes ((n1 q).1.number 1).2).2) ∧ (n3 q).1 = (if 8 < ((n1 q).1.number 1).2 then ((n1 q).1.number 1).1.fail 3 else (((n1 q).1.number 1).1.hashes ((n1 q).1.number 1).2).1) := by
  unfold n3 n2
  split <;> exact ⟨rfl, rfl⟩
end Go.Nod
namespace Go.Proofs.YtkbboddibgfjbaaGreatDoor
open Go.RowKit Go.Wire Go.Stamp Go.Opn Go.Nod
attribute [local go_sem] Oper.semAt_some
set_option maxHeartbeats 2000000 in
set_option maxRecDepth 100000 in
theorem nodeDecode_own (s : ByteArray) (w : World) (hs : s.size ≤ maxLen) :
    Calls Tryz.prog 82 #[.string s] w fun e w' => ∃ pv, e = .returned (.tuple #[(decN s).v pv, .int .i64 (decE s)]) ∧ w'.ownsRow w.heap.size 9 1 pv (decN s).ps.length ((decN s).ps.map Value.string) ∧ Below w.heap.size w w' := by
  obtain ⟨B, hB⟩ : ∃ B, B = w.heap.size + 1 := ⟨_, rfl⟩
  have hq : (St.mk s 0 0).pos ≤ (St.mk s 0 0).s.size := Nat.zero_le _
  have H1 : Hid (∀ w, Rd 246 B ⟨s, 0, 0⟩ w → Calls Tryz.prog 127 #[.pointer (some ⟨B, 0, none⟩), .int .i64 1] w fun e w' => e = .returned (.int .u64 ((n1 ⟨s, 0, 0⟩).2 : Nat)) ∧ Rd 246 B (n1 ⟨s, 0, 0⟩).1 w' ∧ Kept B w w') := fun w h => readerNumber_any B ⟨s, 0, 0⟩ 1 w h hq hs
  have H3 : Hid (∀ w, Rd 246 B (n1 ⟨s, 0, 0⟩).1 w → Calls Tryz.prog 128 #[.pointer (some ⟨B, 0, none⟩)] w fun e w' => ∃ v, e = .returned v ∧ w'.ownsRow w.heap.size 9 1 v (n3 ⟨s, 0, 0⟩).2.length ((n3 ⟨s, 0, 0⟩).2.map Value.string) ∧ Rd 246 B (n3 ⟨s, 0, 0⟩).1 w' ∧ Kept B w w') := fun w h => by
    have := takeParents_any B (n1 ⟨s, 0, 0⟩).1 w h (by rw [n1_s]; exact n1_le _ hq) (by rw [n1_s]; exact hs)
    rw [← (n3_is ⟨s, 0, 0⟩).1, ← (n3_is ⟨s, 0, 0⟩).2] at this
    exact this
  have H4 : Hid (∀ w, Rd 246 B (n3 ⟨s, 0, 0⟩).1 w → Calls Tryz.prog 129 #[.pointer (some ⟨B, 0, none⟩)] w fun e w' => e = .returned (n4 ⟨s, 0, 0⟩).2.v ∧ Rd 246 B (n4 ⟨s, 0, 0⟩).1 w' ∧ Kept B w w') := fun w h => takeOp_any B (n3 ⟨s, 0, 0⟩).1 w h (by rw [n3_s]; exact n3_le _ hq) (by rw [n3_s]; exact hs)
  have H5 : Hid (∀ w, Rd 246 B (n4 ⟨s, 0, 0⟩).1 w → Calls Tryz.prog 130 #[.pointer (some ⟨B, 0, none⟩)] w fun e w' => e = .returned (.string (n5 ⟨s, 0, 0⟩).2) ∧ Rd 246 B (n5 ⟨s, 0, 0⟩).1 w' ∧ Kept B w w') := fun w h => hash_any B (n4 ⟨s, 0, 0⟩).1 w h (by rw [n4_s]; exact n4_le _ hq) (by rw [n4_s]; exact hs)
  have HE : Hid (∀ w, Rd 246 B (n5 ⟨s, 0, 0⟩).1 w → Calls Tryz.prog 131 #[.pointer (some ⟨B, 0, none⟩)] w fun e w' => e = .returned (.int .i64 (n5 ⟨s, 0, 0⟩).1.fin.err) ∧ Rd 246 B (n5 ⟨s, 0, 0⟩).1.fin w' ∧ Kept B w w') := fun w h => end_any B (n5 ⟨s, 0, 0⟩).1 w h (by rw [n5_s]; exact n5_le _ hq) (by rw [n5_s]; exact hs)
  have hfew : (n3 ⟨s, 0, 0⟩).2.length ≤ 8 := by
    rw [(n3_is _).1]
    split
    · simp
    · rw [St.hashes_length]; omega
  have hall : ∀ x ∈ (n3 ⟨s, 0, 0⟩).2, x.size ≤ maxLen := fun x hx => by
    have h := n3_size ⟨s, 0, 0⟩ x hx
    unfold maxLen; omega
  have HC := hide (fun (pv : Value) (w' : World) (hr : StrRow.Reads w' pv (n3 ⟨s, 0, 0⟩).2) => nodeCheck_any (raw ⟨s, 0, 0⟩) pv w' hr (show (n3 ⟨s, 0, 0⟩).2.length ≤ maxLen from by unfold maxLen; omega) hall)
  have hdA : (n5 ⟨s, 0, 0⟩).1.fin.err ≠ 0 → decE s = (n5 ⟨s, 0, 0⟩).1.fin.err := fun h => by unfold decE; rw [if_neg h]
  have hdC : (n5 ⟨s, 0, 0⟩).1.fin.err = 0 → decE s = (raw ⟨s, 0, 0⟩).chk := fun h => by unfold decE; rw [if_pos h]
  have hdD : decE s = 0 → decN s = raw ⟨s, 0, 0⟩ := fun h => by unfold decN; rw [if_pos h]
  have hdN : decE s ≠ 0 → decN s = Nd.zero := fun h => by unfold decN; rw [if_neg h]
  have hn1 : (n1 ⟨s, 0, 0⟩).2 < 256 := St.number_lt _ 1 (by decide)
  clear hq hs hfew hall
  subst hB
  unfold raw at HC hdC hdD
  generalize decE s = DE at *
  generalize decN s = DD at *
  generalize (n5 ⟨s, 0, 0⟩).1.fin.err = F at *
  generalize (n5 ⟨s, 0, 0⟩).1.fin = q6 at *
  generalize (n5 ⟨s, 0, 0⟩).1 = q5 at *
  generalize (n5 ⟨s, 0, 0⟩).2 = tg at *
  generalize (n4 ⟨s, 0, 0⟩).1 = q4 at *
  generalize (n4 ⟨s, 0, 0⟩).2 = o at *
  generalize (n3 ⟨s, 0, 0⟩).1 = q3 at *
  generalize (n3 ⟨s, 0, 0⟩).2 = ds at *
  generalize (n1 ⟨s, 0, 0⟩).1 = q1 at *
  generalize (n1 ⟨s, 0, 0⟩).2 = au at *
  have hau : IntKind.i64.wrap (au : Int) = au := Sha.wrap_i64 _ (by omega) (by omega)
  generalize hck : (Nd.mk (au : Int) ds o tg).chk = K at *
  clear hck
  obtain ⟨kd, ⟨c, k⟩, th, p, nm, d, g, z⟩ := o
  unfold Ob.v at H4
  unfold Nd.v at HC ⊢
  dsimp only at H4 HC
  by_cases hf : F = 0
  · subst hf
    obtain rfl := hdC rfl
    clear hdA hdC
    by_cases hk : DE = 0
    · subst hk
      obtain rfl := hdD rfl
      clear hdD hdN
      go_enter Tryz.func82, Tryz.ntmps82
      go_wp2_with (first
        | (go_at_call 126; refine (newReader_any s _).mono ?_; rintro e w1 ⟨rfl, h1, k1⟩; replace h1 : Rd 246 (w.heap.size + 1) ⟨s, 0, 0⟩ w1 := (by simpa using h1); have z1 : w.heap.size + 1 < w1.heap.size := h1.lt)
        | (go_at_call 127; refine (H1.out _ h1).mono ?_; rintro e w2 ⟨rfl, h2, k2⟩; have z2 := k2.below.size)
        | (go_at_call 128; refine (H3.out _ h2).mono ?_; rintro e w3 ⟨v, rfl, ho, h3, k3⟩
           obtain ⟨va, vc, rfl⟩ := own_slice ho
           have HO := hide ho; clear ho)
        | (go_at_call 129; refine (H4.out _ h3).mono ?_; rintro e w4 ⟨rfl, h4, k4⟩; replace HO := hide (own_kept HO.out k4 (by omega)))
        | (go_at_call 130; refine (H5.out _ h4).mono ?_; rintro e w5 ⟨rfl, h5, k5⟩; replace HO := hide (own_kept HO.out k5 (by omega)))
        | (go_at_call 131
           have I := hide (Ds.start (T := 246) (S := 60) k1 ((((k2.trans k3).trans k4).trans k5)) h5 HO.out (by omega) ((Nd.mk au ds ⟨kd, ⟨c, k⟩, th, p, nm, d, g, z⟩ tg).cs (.slice va ds.length vc)))
           clear k1 k2 k3 k4 k5 h1 h2 h3 h4 h5 HO z1 z2
           refine (HE.out _ I.out.rd).mono ?_; rintro e w6 ⟨rfl, h6, k6⟩
           replace I := hide (I.out.read h6 k6); clear h6 k6)
        | (refine wpList_load_row rfl 60 _ rfl _ rfl _ _ _ _ I.out.o Tryz.underlying60 rfl infoNode ?_)
        | (go_at_call 65; refine (HC.out _ _ (StrRow.Reads.of_own I.out.own)).mono ?_; rintro e w7 ⟨rfl, k7⟩; replace I := hide (I.out.step k7); clear k7)
        | (refine wpList_store_row rfl 60 _ _ rfl _ _ rfl rfl 60 _ I.out.z infoNode rfl (by simp [Value.oneCell']) ?_))
      have hlt : w.heap.size < w2.heap.size := Nat.lt_trans (Nat.lt_succ_self _) I.out.hs
      exact bodyPost_ret (results_cell2_row Tryz.results82 _ _ _ _ _ (0, 0) _ rfl (setRow_heap _ _ _ _ _ _ I.out.z) Tryz.underlying60 rfl infoNode) rfl ⟨_, rfl, own_mono11 (own_setRow I.out.own hlt _) (Nat.le_of_lt hlt), below_setRow I.out.below (Nat.le_refl _) _⟩
    · obtain rfl := hdN hk
      have hk0 : (DE == 0) = false := beq_eq_false_iff_ne.2 hk
      clear hdD hdN hk
      go_enter Tryz.func82, Tryz.ntmps82
      go_wp2_with (first
        | (go_at_call 126; refine (newReader_any s _).mono ?_; rintro e w1 ⟨rfl, h1, k1⟩; replace h1 : Rd 246 (w.heap.size + 1) ⟨s, 0, 0⟩ w1 := (by simpa using h1); have z1 : w.heap.size + 1 < w1.heap.size := h1.lt)
        | (go_at_call 127; refine (H1.out _ h1).mono ?_; rintro e w2 ⟨rfl, h2, k2⟩; have z2 := k2.below.size)
        | (go_at_call 128; refine (H3.out _ h2).mono ?_; rintro e w3 ⟨v, rfl, ho, h3, k3⟩
           obtain ⟨va, vc, rfl⟩ := own_slice ho
           have HO := hide ho; clear ho)
        | (go_at_call 129; refine (H4.out _ h3).mono ?_; rintro e w4 ⟨rfl, h4, k4⟩; replace HO := hide (own_kept HO.out k4 (by omega)))
        | (go_at_call 130; refine (H5.out _ h4).mono ?_; rintro e w5 ⟨rfl, h5, k5⟩; replace HO := hide (own_kept HO.out k5 (by omega)))
        | (go_at_call 131
           have I := hide (Ds.start (T := 246) (S := 60) k1 ((((k2.trans k3).trans k4).trans k5)) h5 HO.out (by omega) ((Nd.mk au ds ⟨kd, ⟨c, k⟩, th, p, nm, d, g, z⟩ tg).cs (.slice va ds.length vc)))
           clear k1 k2 k3 k4 k5 h1 h2 h3 h4 h5 HO z1 z2
           refine (HE.out _ I.out.rd).mono ?_; rintro e w6 ⟨rfl, h6, k6⟩
           replace I := hide (I.out.read h6 k6); clear h6 k6)
        | (refine wpList_load_row rfl 60 _ rfl _ rfl _ _ _ _ I.out.o Tryz.underlying60 rfl infoNode ?_)
        | (go_at_call 65; refine (HC.out _ _ (StrRow.Reads.of_own I.out.own)).mono ?_; rintro e w7 ⟨rfl, k7⟩; replace I := hide (I.out.step k7); clear k7)
        | (refine wpList_store_row rfl 60 _ _ rfl _ _ rfl rfl 60 _ I.out.z infoNode rfl (by simp [Value.oneCell']) ?_))
      exact bodyPost_ret (results_cell2_row Tryz.results82 _ _ _ _ _ (0, 0) _ rfl (setRow_heap _ _ _ _ _ _ I.out.z) Tryz.underlying60 rfl infoNode) rfl ⟨.slice none 0 0, rfl, ⟨rfl, .inl ⟨rfl, rfl⟩⟩, below_setRow I.out.below (Nat.le_refl _) _⟩
  · obtain rfl := hdA hf
    obtain rfl := hdN hf
    have hk0 : (DE == 0) = false := beq_eq_false_iff_ne.2 hf
    clear hdD hdN hdC hdA hf
    go_enter Tryz.func82, Tryz.ntmps82
    go_wp2_with (first
      | (go_at_call 126; refine (newReader_any s _).mono ?_; rintro e w1 ⟨rfl, h1, k1⟩; replace h1 : Rd 246 (w.heap.size + 1) ⟨s, 0, 0⟩ w1 := (by simpa using h1); have z1 : w.heap.size + 1 < w1.heap.size := h1.lt)
      | (go_at_call 127; refine (H1.out _ h1).mono ?_; rintro e w2 ⟨rfl, h2, k2⟩; have z2 := k2.below.size)
      | (go_at_call 128; refine (H3.out _ h2).mono ?_; rintro e w3 ⟨v, rfl, ho, h3, k3⟩
         obtain ⟨va, vc, rfl⟩ := own_slice ho
         have HO := hide ho; clear ho)
      | (go_at_call 129; refine (H4.out _ h3).mono ?_; rintro e w4 ⟨rfl, h4, k4⟩; replace HO := hide (own_kept HO.out k4 (by omega)))
      | (go_at_call 130; refine (H5.out _ h4).mono ?_; rintro e w5 ⟨rfl, h5, k5⟩; replace HO := hide (own_kept HO.out k5 (by omega)))
      | (go_at_call 131
         have I := hide (Ds.start (T := 246) (S := 60) k1 ((((k2.trans k3).trans k4).trans k5)) h5 HO.out (by omega) ((Nd.mk au ds ⟨kd, ⟨c, k⟩, th, p, nm, d, g, z⟩ tg).cs (.slice va ds.length vc)))
         clear k1 k2 k3 k4 k5 h1 h2 h3 h4 h5 HO z1 z2
         refine (HE.out _ I.out.rd).mono ?_; rintro e w6 ⟨rfl, h6, k6⟩
         replace I := hide (I.out.read h6 k6); clear h6 k6)
      | (refine wpList_load_row rfl 60 _ rfl _ rfl _ _ _ _ I.out.o Tryz.underlying60 rfl infoNode ?_)
      | (go_at_call 65; refine (HC.out _ _ (StrRow.Reads.of_own I.out.own)).mono ?_; rintro e w7 ⟨rfl, k7⟩; replace I := hide (I.out.step k7); clear k7)
      | (refine wpList_store_row rfl 60 _ _ rfl _ _ rfl rfl 60 _ I.out.z infoNode rfl (by simp [Value.oneCell']) ?_))
    exact bodyPost_ret (results_cell2_row Tryz.results82 _ _ _ _ _ (0, 0) _ rfl (setRow_heap _ _ _ _ _ _ I.out.z) Tryz.underlying60 rfl infoNode) rfl ⟨.slice none 0 0, rfl, ⟨rfl, .inl ⟨rfl, rfl⟩⟩, below_setRow I.out.below (Nat.le_refl _) _⟩
theorem nodeDecode_any (s : ByteArray) (w : World) (hs : s.size ≤ maxLen) :
    Calls Tryz.prog 82 #[.string s] w fun e w' => ∃ pv, e = .returned (.tuple #[(decN s).v pv, .int .i64 (decE s)]) ∧ StrRow.Reads w' pv (decN s).ps ∧ Below w.heap.size w w' :=
  (nodeDecode_own s w hs).mono fun _ _ ⟨pv, h1, h2, h3⟩ => ⟨pv, h1, .of_own h2, h3⟩
end Go.Proofs.YtkbboddibgfjbaaGreatDoor
