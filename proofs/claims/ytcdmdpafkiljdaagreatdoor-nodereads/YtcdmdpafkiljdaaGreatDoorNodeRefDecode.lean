/- Contract: the node of bytes; the document's. -/
import Derived.Test.YtcdmdpafkiljdaaGreatDoorNodeRefs
import Derived.Test.YtcdmdpafkiljdaaGreatDoorNodeOne
import Derived.Test.YtcdmdpafkiljdaaGreatDoorOpTakes
import Derived.Test.YtcdmdpafkiljdaaGreatDoorWireRefTakes
namespace Go.Nod
open Go.RowKit Go.Wire Go.Opn
def setAll (cs : Array Value) : Nat → List Value → Array Value
  | _, [] => cs
  | o, v :: r => setAll (cs.setIfInBounds o v) (o + 1) r
theorem setCells_row {g : Nat} {T : TypeId} : ∀ (vs : List Value) (o : Nat) (w : World) (cs : Array Value), w.heap[g]? = some (.cells cs T (0, 0)) → (w.setCells g o vs).heap[g]? = some (.cells (setAll cs o vs) T (0, 0))
  | [], _, _, _, h => h
  | v :: r, o, w, cs, h => setCells_row r (o + 1) (w.setCell ⟨g, o, none⟩ v) (cs.setIfInBounds o v) (by rw [heap_setCell_same _ _ _ _ _ _ h])
theorem setCells_other {g k : Nat} (hk : k ≠ g) : ∀ (vs : List Value) (o : Nat) (w : World), (w.setCells g o vs).heap[k]? = w.heap[k]?
  | [], _, _ => rfl
  | v :: r, o, w => (setCells_other hk r (o + 1) (w.setCell ⟨g, o, none⟩ v)).trans (Below.heap_setCell _ ⟨g, o, none⟩ v k hk)
theorem setCells_below {g B : Nat} (hB : B ≤ g) : ∀ (vs : List Value) (o : Nat) (w : World), Below B w (w.setCells g o vs)
  | [], _, _ => Below.refl _ _
  | v :: r, o, w => ((Below.refl B w).setCell (p := ⟨g, o, none⟩) hB v).trans (setCells_below hB r (o + 1) (w.setCell ⟨g, o, none⟩ v))
/-- The reader ahead of the parents. -/
def qq (q : St) : St := if 8 < (n2 q).2 then (n2 q).1.fail 3 else (n2 q).1
theorem qq_s (q : St) : (qq q).s = q.s := by
  unfold qq
  split
  · exact (St.fail_s _ _).trans (n2_s q)
  · exact n2_s q
theorem qq_le (q : St) (h : q.pos ≤ q.s.size) : (qq q).pos ≤ (qq q).s.size := by
  rw [qq_s]
  unfold qq
  split
  · rw [St.fail_pos]; exact n2_le q h
  · exact n2_le q h
theorem loop_end (q : St) (i : Nat) (hi : i ≤ (n2 q).2) (h : i = (n2 q).2 ∨ ((qq q).hashes i).1.err ≠ 0) : ((qq q).hashes i).1 = (n3 q).1 ∧ ((n3 q).1.err = 0 → ((qq q).hashes i).2 = (n3 q).2) := by
  by_cases h8 : 8 < (n2 q).2
  · have e : qq q = (n2 q).1.fail 3 := by unfold qq; rw [if_pos h8]
    have e3 : (n3 q).1 = (n2 q).1.fail 3 := by unfold n3; rw [if_pos h8]
    have he : (qq q).err ≠ 0 := by rw [e]; exact St.fail_ne _ _ (by decide)
    have hs := St.hashes_stuck (qq q) 0 he i
    rw [Nat.zero_add] at hs
    have h1 : ((qq q).hashes i).1 = (n3 q).1 := by rw [hs, e3, ← e]; rfl
    refine ⟨h1, fun h0 => absurd h0 ?_⟩
    rw [e3, ← e]; exact he
  · have e : qq q = (n2 q).1 := by unfold qq; rw [if_neg h8]
    have e3 : n3 q = (n2 q).1.hashes (n2 q).2 := by unfold n3; rw [if_neg h8]
    rw [e] at h ⊢
    rw [e3]
    rcases h with rfl | h
    · exact ⟨rfl, fun _ => rfl⟩
    · have hs := St.hashes_stuck (n2 q).1 i h ((n2 q).2 - i)
      rw [show i + ((n2 q).2 - i) = (n2 q).2 by omega] at hs
      exact ⟨hs.symm, fun h0 => absurd (by rw [← hs]; exact h0) h⟩
theorem there_of_row {w : World} {b o n : Nat} {cs : Array Value} {T : TypeId} (h : w.heap[b]? = some (.cells cs T (0, 0))) (hn : o + n ≤ cs.size) : w.there b o n := fun j hj =>
  ⟨by rw [cell_of_row _ _ _ _ _ _ h, Array.getElem?_eq_getElem (by omega)]; rfl, frozen_of_row _ _ _ _ _ h⟩
/-- A reader's cells. -/
abbrev rdc (q : St) : Array Value := #[.string q.s, .int .i64 q.pos, .int .i64 q.err]
/-- While a node is read: what is answered in block g, the node in the next one, the reader in block rb, its parents' row from base on. -/
structure Dr (S R : TypeId) (w0 : World) (g rb base : Nat) (zs cs : Array Value) (pv : Value) (ds : List ByteArray) (q : St) (w : World) : Prop where
  z : w.heap[g]? = some (.cells zs S (0, 0))
  o : w.heap[g + 1]? = some (.cells cs S (0, 0))
  r : w.heap[rb]? = some (.cells (rdc q) R (0, 0))
  own : w.ownsRow base 9 1 pv ds.length (ds.map Value.string)
  below : Below w0.heap.size w0 w
  hg : w0.heap.size = g
  hr : g + 1 < rb
  hb : rb < base
variable {S R : TypeId} {w0 w w' : World} {g rb base : Nat} {zs cs : Array Value} {pv : Value} {ds : List ByteArray} {q : St}
theorem Dr.step (i : Dr S R w0 g rb base zs cs pv ds q w) (k : Below w.heap.size w w') : Dr S R w0 g rb base zs cs pv ds q w' :=
  ⟨kept_block i.z k, kept_block i.o k, kept_block i.r k, own_kept i.own (Kept.of_below k (row_lt i.r)) i.hb, i.below.trans (k.mono i.below.size), i.hg, i.hr, i.hb⟩
theorem nd_setC {u : Value} {n e j b : Nat} {v : Value} {xs : List Value} (h : w.ownsRow base e 1 v n xs) (hg : b < base) : (w.setCell ⟨b, j, none⟩ u).ownsRow base e 1 v n xs := by
  refine ⟨h.1, ?_⟩
  rcases h.2 with h | ⟨k, cap, cur, h1, h2, h3, h4⟩
  · exact .inl h
  · exact .inr ⟨k, cap, cur, h1, h2, (Below.heap_setCell _ ⟨b, j, none⟩ u k (by show k ≠ b; omega)).trans h3, h4⟩
theorem nd_setR {n e b : Nat} {v : Value} {xs : List Value} (h : w.ownsRow base e 1 v n xs) (hg : b < base) (ds : Array Value) : (w.setRow b ds).ownsRow base e 1 v n xs := by
  refine ⟨h.1, ?_⟩
  rcases h.2 with h | ⟨k, cap, cur, h1, h2, h3, h4⟩
  · exact .inl h
  · exact .inr ⟨k, cap, cur, h1, h2, (setRow_other _ _ _ _ (by omega)).trans h3, h4⟩
theorem nd_setCs {b : Nat} {v : Value} {n e : Nat} {xs : List Value} (hg : b < base) : ∀ (vs : List Value) (o : Nat) (w : World), w.ownsRow base e 1 v n xs → (w.setCells b o vs).ownsRow base e 1 v n xs
  | [], _, _, h => h
  | u :: r, o, w, h => nd_setCs hg r (o + 1) (w.setCell ⟨b, o, none⟩ u) (nd_setC h hg)
theorem Dr.setO (i : Dr S R w0 g rb base zs cs pv ds q w) (j : Nat) (v : Value) (cs' : Array Value) (e : cs.setIfInBounds j v = cs') : Dr S R w0 g rb base zs cs' pv ds q (w.setCell ⟨g + 1, j, none⟩ v) := by
  have h1 := i.hg
  have h2 := i.hr
  have h3 := i.hb
  exact ⟨(Below.heap_setCell _ ⟨g + 1, j, none⟩ v g (by show g ≠ g + 1; omega)).trans i.z, by rw [heap_setCell_same _ _ _ _ _ _ i.o, e], (Below.heap_setCell _ ⟨g + 1, j, none⟩ v rb (by show rb ≠ g + 1; omega)).trans i.r, nd_setC i.own (by omega), i.below.setCell (p := ⟨g + 1, j, none⟩) (by show w0.heap.size ≤ g + 1; omega) v, i.hg, i.hr, i.hb⟩
theorem Dr.setOs (i : Dr S R w0 g rb base zs cs pv ds q w) (j : Nat) (vs : List Value) (cs' : Array Value) (e : setAll cs j vs = cs') : Dr S R w0 g rb base zs cs' pv ds q (w.setCells (g + 1) j vs) := by
  have h1 := i.hg
  have h2 := i.hr
  have h3 := i.hb
  exact ⟨(setCells_other (by omega) _ _ _).trans i.z, by rw [setCells_row _ _ _ _ i.o, e], (setCells_other (by omega) _ _ _).trans i.r, nd_setCs (by omega) _ _ _ i.own, i.below.trans (setCells_below (by omega) _ _ _), i.hg, i.hr, i.hb⟩
theorem Dr.setR (i : Dr S R w0 g rb base zs cs pv ds q w) (q' : St) : Dr S R w0 g rb base zs cs pv ds q' (w.setRow rb (rdc q')) := by
  have h1 := i.hg
  have h2 := i.hr
  exact ⟨(setRow_other _ _ _ _ (by omega)).trans i.z, (setRow_other _ _ _ _ (by omega)).trans i.o, setRow_heap _ _ _ _ _ _ i.r, nd_setR i.own i.hb _, i.below.trans ⟨rfl, rfl, rfl, by simp, fun k hk => setRow_other _ _ _ _ (by omega)⟩, i.hg, i.hr, i.hb⟩
theorem Dr.setE (i : Dr S R w0 g rb base zs cs pv ds q w) (e : Int) : Dr S R w0 g rb base zs cs pv ds ⟨q.s, q.pos, e⟩ (w.setCell ⟨rb, 2, none⟩ (.int .i64 e)) := by
  have h1 := i.hg
  have h2 := i.hr
  exact ⟨(Below.heap_setCell _ ⟨rb, 2, none⟩ _ g (by show g ≠ rb; omega)).trans i.z, (Below.heap_setCell _ ⟨rb, 2, none⟩ _ (g + 1) (by show g + 1 ≠ rb; omega)).trans i.o, by rw [heap_setCell_same _ _ _ _ _ _ i.r]; rfl, nd_setC i.own i.hb, i.below.setCell (p := ⟨rb, 2, none⟩) (by show w0.heap.size ≤ rb; omega) _, i.hg, i.hr, i.hb⟩
theorem Dr.grow {v' : Value} {ds' : List ByteArray} {ob : Obj} (i : Dr S R w0 g rb base zs cs pv ds q w) (hgr : (w.alloc ob).grownBy w' pv.ownBlock) (ho : w'.ownsRow base 9 1 v' ds'.length (ds'.map Value.string)) : Dr S R w0 g rb base zs cs v' ds' q w' := by
  have h1 := i.hg
  have h2 := i.hr
  have h3 := i.hb
  have key : ∀ k, k < base → k < w.heap.size → w'.heap[k]? = w.heap[k]? := fun k hk hl => (hgr.block k (by simp; omega) (fun e => by have := own_base i.own e.symm; omega)).trans (heap_alloc_old _ _ hl)
  have hs := i.below.size
  exact ⟨(key g (by omega) (row_lt i.z)).trans i.z, (key (g + 1) (by omega) (row_lt i.o)).trans i.o, (key rb (by omega) (row_lt i.r)).trans i.r, ho, (i.below.alloc hs _).grown hgr (by simp; omega) (fun k e => by have := own_base i.own e; omega), i.hg, i.hr, i.hb⟩
theorem Dr.rc (i : Dr S R w0 g rb base zs cs pv ds q w) : w.cell? ⟨rb, 0, none⟩ = some (.string q.s) ∧ w.cell? ⟨rb, 1, none⟩ = some (.int .i64 q.pos) ∧ w.cell? ⟨rb, 2, none⟩ = some (.int .i64 q.err) ∧ w.frozen? ⟨rb, 2, none⟩ = false :=
  ⟨cell_of_row _ _ _ _ _ _ i.r, cell_of_row _ _ _ _ _ _ i.r, cell_of_row _ _ _ _ _ _ i.r, frozen_of_row _ _ _ _ _ i.r⟩
end Go.Nod
namespace Go.Proofs.YtcdmdpafkiljdaaGreatDoor
open Go.RowKit Go.Wire Go.Stamp Go.Opn Go.Nod
attribute [local go_sem] Oper.semAt_some
theorem rdInfo9 : (Tryz.prog.info? 9).map (fun i => (i.zero, i.size, i.bytes)) = some (some (.string ⟨#[]⟩), 1, 16) := by kernel_rfl
theorem rdUnder22 : Tryz.prog.underlying 22 = some (.slice 9) := by kernel_rfl
set_option maxHeartbeats 4000000 in
set_option maxRecDepth 100000 in
theorem rdecode_any (s : ByteArray) (w : World) (hs : s.size ≤ maxLen) :
    Calls Tryz.prog 15 #[.string s] w fun e w' => ∃ pv, e = .returned (.tuple #[(decN s).v pv, .int .i64 (decE s)]) ∧ StrRow.Reads w' pv (decN s).ps ∧ Below w.heap.size w w' := by
  have hq : (St.mk s 0 0).pos ≤ (St.mk s 0 0).s.size := Nat.zero_le _
  have H1 : Hid (∀ w, Calls Tryz.prog 35 #[.agg #[.string s, .int .i64 0, .int .i64 0], .int .i64 1] w fun e w' => e = .returned (.tuple #[.agg (rdc (n1 ⟨s, 0, 0⟩).1), .int .u64 ((n1 ⟨s, 0, 0⟩).2 : Nat)]) ∧ Below w.heap.size w w') := fun w => rnumber_any ⟨s, 0, 0⟩ 1 w hq hs
  have H2 : Hid (∀ w, Calls Tryz.prog 35 #[.agg (rdc (n1 ⟨s, 0, 0⟩).1), .int .i64 1] w fun e w' => e = .returned (.tuple #[.agg (rdc (n2 ⟨s, 0, 0⟩).1), .int .u64 ((n2 ⟨s, 0, 0⟩).2 : Nat)]) ∧ Below w.heap.size w w') := fun w => rnumber_any (n1 ⟨s, 0, 0⟩).1 1 w (by rw [n1_s]; exact n1_le _ hq) (by rw [n1_s]; exact hs)
  have H4 : Hid (∀ w, Calls Tryz.prog 37 #[.agg (rdc (n3 ⟨s, 0, 0⟩).1)] w fun e w' => e = .returned (.tuple #[.agg (rdc (n4 ⟨s, 0, 0⟩).1), (n4 ⟨s, 0, 0⟩).2.v]) ∧ Below w.heap.size w w') := fun w => rtakeOp_any (n3 ⟨s, 0, 0⟩).1 w (by rw [n3_s]; exact n3_le _ hq) (by rw [n3_s]; exact hs)
  have H5 : Hid (∀ w, Calls Tryz.prog 36 #[.agg (rdc (n4 ⟨s, 0, 0⟩).1), .int .i64 32] w fun e w' => e = .returned (.tuple #[.agg (rdc (n5 ⟨s, 0, 0⟩).1), .string (n5 ⟨s, 0, 0⟩).2]) ∧ Below w.heap.size w w') := fun w => rbytes_any (n4 ⟨s, 0, 0⟩).1 32 w (by rw [n4_s]; exact n4_le _ hq) (by rw [n4_s]; exact hs)
  have H6 : Hid (∀ w, Calls Tryz.prog 38 #[.agg (rdc (n5 ⟨s, 0, 0⟩).1)] w fun e w' => e = .returned (.agg (rdc (n5 ⟨s, 0, 0⟩).1.fin)) ∧ Below w.heap.size w w') := fun w => rend_any (n5 ⟨s, 0, 0⟩).1 w (by rw [n5_s]; exact hs)
  have HB : Hid (∀ (i : Nat) (w : World), Calls Tryz.prog 36 #[.agg (rdc ((qq ⟨s, 0, 0⟩).hashes i).1), .int .i64 32] w fun e w' => e = .returned (.tuple #[.agg (rdc ((qq ⟨s, 0, 0⟩).hashes (i + 1)).1), .string (((qq ⟨s, 0, 0⟩).hashes i).1.bytes 32).2]) ∧ Below w.heap.size w w') := fun i w => rbytes_any ((qq ⟨s, 0, 0⟩).hashes i).1 32 w (by rw [St.hashes_s]; exact St.hashes_le _ (qq_le _ hq) i) (by rw [St.hashes_s, qq_s]; exact hs)
  have HLE := hide (loop_end ⟨s, 0, 0⟩)
  have hm : (n2 ⟨s, 0, 0⟩).2 < 256 := St.number_lt _ 1 (by decide)
  have hn1 : (n1 ⟨s, 0, 0⟩).2 < 256 := St.number_lt _ 1 (by decide)
  have hqA : 8 < (n2 ⟨s, 0, 0⟩).2 → (n2 ⟨s, 0, 0⟩).1.err = 0 ∧ qq ⟨s, 0, 0⟩ = ⟨(n2 ⟨s, 0, 0⟩).1.s, (n2 ⟨s, 0, 0⟩).1.pos, 3⟩ := fun h => by
    have he : (n2 ⟨s, 0, 0⟩).1.err = 0 := Decidable.byContradiction fun x => by
      have := (St.number_bad (n1 ⟨s, 0, 0⟩).1 1 x).1
      rw [show (n2 ⟨s, 0, 0⟩).2 = 0 from this] at h
      cases h
    refine ⟨he, ?_⟩
    unfold qq
    rw [if_pos h]
    unfold St.fail
    rw [if_pos he]
  have hqB : ¬ 8 < (n2 ⟨s, 0, 0⟩).2 → qq ⟨s, 0, 0⟩ = (n2 ⟨s, 0, 0⟩).1 := fun h => by unfold qq; rw [if_neg h]
  have hdA : (n5 ⟨s, 0, 0⟩).1.fin.err ≠ 0 → decE s = (n5 ⟨s, 0, 0⟩).1.fin.err := fun h => by unfold decE; rw [if_neg h]
  have hdC : (n5 ⟨s, 0, 0⟩).1.fin.err = 0 → decE s = (raw ⟨s, 0, 0⟩).chk := fun h => by unfold decE; rw [if_pos h]
  have hdD : decE s = 0 → decN s = raw ⟨s, 0, 0⟩ := fun h => by unfold decN; rw [if_pos h]
  have hdN : decE s ≠ 0 → decN s = Nd.zero := fun h => by unfold decN; rw [if_neg h]
  have hd3 : (n5 ⟨s, 0, 0⟩).1.fin.err = 0 → (n3 ⟨s, 0, 0⟩).1.err = 0 ∧ (n3 ⟨s, 0, 0⟩).2.length ≤ 8 ∧ 0 ≤ (n4 ⟨s, 0, 0⟩).2.tm.c := fun h => by
    obtain ⟨h5, _⟩ := fin_zero h
    obtain ⟨t5, _⟩ := St.bytes_took (q := (n4 ⟨s, 0, 0⟩).1) (n := 32) (by decide) h5
    obtain ⟨t4, hok, _⟩ := St.op_took (q := (n3 ⟨s, 0, 0⟩).1) (by rw [n3_s]; exact n3_le _ hq) t5.e0
    obtain ⟨_, h8, e3, _⟩ := raw_took h
    refine ⟨t4.e0, by rw [e3, St.hashes_length]; exact h8, ?_⟩
    have : (n3 ⟨s, 0, 0⟩).1.op.2.tm.Ok := hok
    unfold Tm.Ok at this
    show 0 ≤ (n3 ⟨s, 0, 0⟩).1.op.2.tm.c
    omega
  have hall := n3_size ⟨s, 0, 0⟩
  unfold raw at hdC hdD
  clear hq hs
  generalize decE s = DE at *
  generalize decN s = DD at *
  generalize (n5 ⟨s, 0, 0⟩).1.fin = q6 at *
  generalize (n5 ⟨s, 0, 0⟩).1 = q5 at *
  generalize (n5 ⟨s, 0, 0⟩).2 = tg at *
  generalize (n4 ⟨s, 0, 0⟩).1 = q4 at *
  generalize (n4 ⟨s, 0, 0⟩).2 = o at *
  generalize (n3 ⟨s, 0, 0⟩).1 = q3 at *
  generalize (n3 ⟨s, 0, 0⟩).2 = ds at *
  generalize qq ⟨s, 0, 0⟩ = Q at *
  generalize (n2 ⟨s, 0, 0⟩).1 = q2 at *
  generalize (n2 ⟨s, 0, 0⟩).2 = m at *
  generalize (n1 ⟨s, 0, 0⟩).1 = q1 at *
  generalize (n1 ⟨s, 0, 0⟩).2 = au at *
  have hau : IntKind.i64.wrap (au : Int) = au := Sha.wrap_i64 _ (by omega) (by omega)
  have hm2 : (m : Int) < 256 := by omega
  dsimp only [rdc] at H1 H2 H4 H5 H6 HB
  go_enter Tryz.func15, Tryz.ntmps15
  go_upto_region 3 with (go_at_call 35; refine (H1.out _).mono ?_; rintro e w1 ⟨rfl, k1⟩)
  have I := hide (show Dr 38 72 w w.heap.size w1.heap.size (w1.heap.size + 1) #[.int .i64 0, .slice none 0 0, .int .i64 0, .int .u64 0, .int .i64 0, .int .u64 0, .int .u64 0, .string ⟨#[]⟩, .bool false, .string ⟨#[]⟩, .int .i64 0, .string ⟨#[]⟩] #[.int .i64 0, .slice none 0 0, .int .i64 0, .int .u64 0, .int .i64 0, .int .u64 0, .int .u64 0, .string ⟨#[]⟩, .bool false, .string ⟨#[]⟩, .int .i64 0, .string ⟨#[]⟩] (.slice none 0 0) [] q1 (w1.alloc (.cells (rdc q1) 72)) from by
    have b1 : Below w.heap.size w w1 := (((Below.refl _ _).alloc (Nat.le_refl _) _).alloc (by simp) _).trans (k1.mono (by simp; omega))
    have z0 := (Rn.new w #[.int .i64 0, .slice none 0 0, .int .i64 0, .int .u64 0, .int .i64 0, .int .u64 0, .int .u64 0, .string ⟨#[]⟩, .bool false, .string ⟨#[]⟩, .int .i64 0, .string ⟨#[]⟩] 38 #[.int .i64 0, .slice none 0 0, .int .i64 0, .int .u64 0, .int .i64 0, .int .u64 0, .int .u64 0, .string ⟨#[]⟩, .bool false, .string ⟨#[]⟩, .int .i64 0, .string ⟨#[]⟩] 38)
    exact ⟨kept_alloc (kept_block z0.row k1) _, kept_alloc (kept_block z0.z k1) _, heap_alloc_new _ _, World.ownsRow_nil _ _ _ _, b1.alloc b1.size _, rfl, row_lt (kept_block z0.z k1), Nat.lt_succ_self _⟩)
  dsimp only [rdc] at I
  generalize w1.alloc (.cells _ 72) = W at *
  clear k1
  have c0 : W.cell? ⟨w.heap.size + 1, 0, none⟩ = some (.int .i64 0) := cell_of_row _ _ _ _ _ _ I.out.o
  have f0 : W.frozen? ⟨w.heap.size + 1, 0, none⟩ = false := frozen_of_row _ _ _ _ _ I.out.o
  go_upto_region 4 with fail
  replace I := hide (I.out.setO 0 (.int .i64 au) ((Nd.mk (au : Int) [] Ob.zero ⟨#[]⟩).cs (.slice none 0 0)) rfl)
  clear c0 f0
  generalize W.setCell ⟨w.heap.size + 1, 0, none⟩ (.int .i64 au) = W2 at *
  go_upto_region 5 with (first
    | (refine wpList_load_row rfl 72 _ rfl _ rfl _ _ _ _ I.out.r Tryz.underlying72 rfl infoRef ?_)
    | (go_at_call 35; refine (H2.out _).mono ?_; rintro e w2 ⟨rfl, k2⟩; replace I := hide (I.out.step k2); clear k2)
    | (refine wpList_store_row rfl 72 _ _ rfl _ _ rfl rfl 72 _ I.out.r infoRef rfl (by simp [Value.oneCell']) ?_; replace I := hide (I.out.setR q2); obtain ⟨r0, r1, r2, r3⟩ := I.out.rc))
  obtain ⟨E, HE⟩ : ∃ E : Bool, Hid (E = decide (8 < m)) := ⟨_, rfl⟩
  generalize w2.setRow w1.heap.size _ = W3 at *
  go_cut [33] (fun v wx => v = .bool E ∧ wx = W3)
  case first =>
    by_cases h8 : 8 < m
    · have h8' : (8 : Int) < m := by omega
      have he := (hqA h8).1
      rw [decide_eq_true h8] at HE
      obtain rfl : E = true := HE.out
      go_wp2_with fail
      go_meet
      exact ⟨rfl, rfl⟩
    · have h8' : ¬ (8 : Int) < m := by omega
      rw [decide_eq_false h8] at HE
      obtain rfl : E = false := HE.out
      by_cases he : q2.err = 0
      · go_wp2_with fail
        go_meet
        exact ⟨rfl, rfl⟩
      · have he' : (q2.err == 0) = false := beq_eq_false_iff_ne.2 he
        go_wp2_with fail
        go_meet
        exact ⟨rfl, rfl⟩
  obtain ⟨rfl, rfl⟩ := hcut
  go_upto_if 33 with fail
  go_cut [] (fun wx => Hid (Dr 38 72 w w.heap.size w1.heap.size (w1.heap.size + 1) #[.int .i64 0, .slice none 0 0, .int .i64 0, .int .u64 0, .int .i64 0, .int .u64 0, .int .u64 0, .string ⟨#[]⟩, .bool false, .string ⟨#[]⟩, .int .i64 0, .string ⟨#[]⟩] ((Nd.mk (au : Int) [] Ob.zero ⟨#[]⟩).cs (.slice none 0 0)) (.slice none 0 0) [] Q wx))
  case first =>
    by_cases h8 : 8 < m
    · rw [decide_eq_true h8] at HE
      obtain rfl : E = true := HE.out
      go_wp2_with fail
      go_meet
      rw [(hqA h8).2]
      exact I.out.setE 3
    · rw [decide_eq_false h8] at HE
      obtain rfl : E = false := HE.out
      go_wp2_with fail
      go_meet
      rw [hqB h8]
      exact I.out
  clear I r0 r1 r2 r3 HE hqA hqB
  replace I := hcut
  clear hcut
  obtain ⟨i9, hi9, hz0, hz1, hz2⟩ := info_parts rdInfo9
  have HLn : Hid (∀ i, (Q.hashes i).2.length = i) := fun i => St.hashes_length Q i
  have HSt : Hid (∀ i, (Q.hashes (i + 1)).2 = (Q.hashes i).2 ++ [((Q.hashes i).1.bytes 32).2]) := fun i => rfl
  go_wp2_with fail
  go_loopw [8] (fun vi wr => ∃ (i : Nat) (pa : Option Addr) (pc : Nat), i ≤ m ∧ vi = .int .u64 i ∧ Hid (Dr 38 72 w w.heap.size w1.heap.size (w1.heap.size + 1) #[.int .i64 0, .slice none 0 0, .int .i64 0, .int .u64 0, .int .i64 0, .int .u64 0, .int .u64 0, .string ⟨#[]⟩, .bool false, .string ⟨#[]⟩, .int .i64 0, .string ⟨#[]⟩] ((Nd.mk (au : Int) [] Ob.zero ⟨#[]⟩).cs (.slice pa i pc)) (.slice pa i pc) (Q.hashes i).2 (Q.hashes i).1 wr)) (fun vi _ => 1000 - (intOf vi).toNat)
  case atStart => exact ⟨0, none, 0, Nat.zero_le _, rfl, I.out⟩
  case round =>
    clear I
    obtain ⟨i, pa, pc, hi, rfl, I⟩ := hrel
    obtain ⟨r0, r1, r2, r3⟩ := I.out.rc
    obtain ⟨E, HE⟩ : ∃ E : Bool, Hid (E = decide (i < m ∧ (Q.hashes i).1.err = 0)) := ⟨_, rfl⟩
    go_upto_region 8 with fail
    go_cut [42] (fun v wx => v = .bool E ∧ wx = wr)
    case first =>
      by_cases hlt : i < m
      · have hlt' : (i : Int) < m := by omega
        by_cases he : (Q.hashes i).1.err = 0
        · rw [decide_eq_true ⟨hlt, he⟩] at HE
          obtain rfl : E = true := HE.out
          go_wp2_with fail
          go_meet
          exact ⟨rfl, rfl⟩
        · have he' : ((Q.hashes i).1.err == 0) = false := beq_eq_false_iff_ne.2 he
          rw [decide_eq_false (fun h => he h.2)] at HE
          obtain rfl : E = false := HE.out
          go_wp2_with fail
          go_meet
          exact ⟨rfl, rfl⟩
      · have hlt' : ¬ (i : Int) < m := by omega
        rw [decide_eq_false (fun h => hlt h.1)] at HE
        obtain rfl : E = false := HE.out
        go_wp2_with fail
        go_meet
        exact ⟨rfl, rfl⟩
    obtain ⟨rfl, rfl⟩ := hcut
    cases E with
    | true =>
      obtain ⟨hlt, he⟩ := of_decide_eq_true HE.out.symm
      have hlt' : (i : Int) < m := by omega
      clear HE r0 r1 r2 r3 H1 H2 H4 H5 H6 hdA hdC hdD hdN hd3 hall HLE
      have hBi := hide (HB.out i)
      have hSi := hide (HSt.out i)
      have hLi := hide (HLn.out i)
      have hLi2 := hide (HLn.out (i + 1))
      clear HB HSt HLn he
      generalize ((Q.hashes i).1.bytes 32).2 = X at *
      go_upto_region 12 with (first
        | (refine wpList_load_row rfl 72 _ rfl _ rfl _ _ _ _ I.out.r Tryz.underlying72 rfl infoRef ?_)
        | (go_at_call 36; refine (hBi.out _).mono ?_; rintro e w3 ⟨rfl, k3⟩; replace I := hide (I.out.step k3); clear k3)
        | (refine wpList_load_row rfl 72 _ rfl _ rfl _ _ _ _ (heap_alloc_new w3 (.cells (rdc (Q.hashes (i + 1)).1) 72)) Tryz.underlying72 rfl infoRef ?_; replace I := hide (I.out.step ((Below.refl _ w3).alloc (Nat.le_refl _) (.cells (rdc (Q.hashes (i + 1)).1) 72))))
        | (refine wpList_store_row rfl 72 _ _ rfl _ _ rfl rfl 72 _ I.out.r infoRef rfl (by simp [Value.oneCell']) ?_; replace I := hide (I.out.setR (Q.hashes (i + 1)).1)))
      generalize (w3.alloc (.cells _ 72)).setRow w1.heap.size _ = W5 at *
      have c1 : W5.cell? ⟨w.heap.size + 1, 1, none⟩ = some (.slice pa i pc) := (cells12 I.out.o).2.1
      have hlt1 : w.heap.size + 1 < W5.heap.size := row_lt I.out.o
      have HO := hide I.out.own
      rw [hLi.out] at HO
      go_wp2_with (at_builtin; refine wpList_append_own _ rfl _ _ 22 rfl (w1.heap.size + 1) 9 i9 (.string ⟨#[]⟩) 1 16 rdUnder22 hi9 hz0 hz1 hz2 rfl (by decide) _ _ _ rfl (HO.out.alloc _) ⟨W5.heap.size, 0, none⟩ 1 1 [.string X] rfl rfl (cell_one_new _ _ _) ?a2 ?a3 ?a4 ?a5 ?_)
      case a2 => intro u hu; simp at hu; subst hu; rfl
      case a3 => unfold maxLen; omega
      case a4 => omega
      case a5 => have h1 := row_lt I.out.r; simp; omega
      intro v' w6 hown hgrow _
      have ho2 : w6.ownsRow (w1.heap.size + 1) 9 1 v' (Q.hashes (i + 1)).2.length ((Q.hashes (i + 1)).2.map Value.string) := by
        rw [hLi2.out, hSi.out, List.map_append]
        exact hown
      have I2 := hide (I.out.grow hgrow ho2)
      have ho3 := ho2
      rw [hLi2.out] at ho3
      obtain ⟨va, vc, rfl⟩ := own_slice ho3
      clear hown hgrow ho2 ho3 I HO c1 hlt1
      have c1 : w6.cell? ⟨w.heap.size + 1, 1, none⟩ = some (.slice pa i pc) := (cells12 I2.out.o).2.1
      have f1 : w6.frozen? ⟨w.heap.size + 1, 1, none⟩ = false := frozen_of_row _ _ _ _ _ I2.out.o
      go_wp2
      have I3 := hide (I2.out.setO 1 (.slice va (i + 1) vc) ((Nd.mk (au : Int) [] Ob.zero ⟨#[]⟩).cs (.slice va (i + 1) vc)) rfl)
      go_roundw
      case rel => exact ⟨i + 1, va, vc, by omega, by go_num, I3.out⟩
      case measure => simp [intOf]; omega
    | false =>
      have hend := HLE.out i hi (by
        have hh := of_decide_eq_false HE.out.symm
        by_cases hlt : i < m
        · exact .inr fun he => hh ⟨hlt, he⟩
        · exact .inl (by omega))
      have hl := HLn.out i
      rw [hend.1] at I
      have hds := hend.2
      clear hend HE r0 r1 r2 r3 H1 H2 HB HLE HSt HLn
      generalize (Q.hashes i).2 = ds' at *
      obtain ⟨kd, ⟨c, k⟩, th, p, nm, d, g, z⟩ := o
      unfold Ob.v at H4
      dsimp only at H4
      have HOC : Hid ((#[.int .i64 kd, .int .u64 c, .int .i64 k, .int .u64 th, .int .u64 p, .string nm, .bool d, .string g, .int .i64 z] : Array Value).all (·.oneCell') = true) := (by show _ = _; simp [Value.oneCell'])
      have HSA : Hid (setAll ((Nd.mk (au : Int) [] Ob.zero ⟨#[]⟩).cs (.slice pa i pc)) 2 [.int .i64 kd, .int .u64 c, .int .i64 k, .int .u64 th, .int .u64 p, .string nm, .bool d, .string g, .int .i64 z] = (Nd.mk (au : Int) [] ⟨kd, ⟨c, k⟩, th, p, nm, d, g, z⟩ ⟨#[]⟩).cs (.slice pa i pc)) := (by show _ = _; simp [setAll, Nd.cs, Ob.zero])
      go_upto_region 14 with (first
        | (refine wpList_load_row rfl 72 _ rfl _ rfl _ _ _ _ I.out.r Tryz.underlying72 rfl infoRef ?_)
        | (go_at_call 37; refine (H4.out _).mono ?_; rintro e w3 ⟨rfl, k3⟩; replace I := hide (I.out.step k3); clear k3)
        | (refine wpList_store_row rfl 72 _ _ rfl _ _ rfl rfl 72 _ I.out.r infoRef rfl (by simp [Value.oneCell']) ?_; replace I := hide (I.out.setR q4))
        | (refine wpList_store_mid rfl 36 _ _ rfl (w.heap.size + 1) 2 #[.int .i64 kd, .int .u64 c, .int .i64 k, .int .u64 th, .int .u64 p, .string nm, .bool d, .string g, .int .i64 z] rfl rfl (there_of_row (n := 9) I.out.o (by simp)) infoROp HOC.out ?_; replace I := hide (I.out.setOs 2 [.int .i64 kd, .int .u64 c, .int .i64 k, .int .u64 th, .int .u64 p, .string nm, .bool d, .string g, .int .i64 z] ((Nd.mk (au : Int) [] ⟨kd, ⟨c, k⟩, th, p, nm, d, g, z⟩ ⟨#[]⟩).cs (.slice pa i pc)) HSA.out)))
      clear H4 HOC HSA
      generalize (w3.setRow w1.heap.size _).setCells (w.heap.size + 1) 2 _ = W3 at *
      go_upto_region 15 with (first
        | (refine wpList_load_row rfl 72 _ rfl _ rfl _ _ _ _ I.out.r Tryz.underlying72 rfl infoRef ?_)
        | (go_at_call 36; refine (H5.out _).mono ?_; rintro e w4 ⟨rfl, k4⟩; replace I := hide (I.out.step k4); clear k4)
        | (refine wpList_store_row rfl 72 _ _ rfl _ _ rfl rfl 72 _ I.out.r infoRef rfl (by simp [Value.oneCell']) ?_; replace I := hide (I.out.setR q5); have c11 : (w4.setRow w1.heap.size (rdc q5)).cell? ⟨w.heap.size + 1, 11, none⟩ = some (.string ⟨#[]⟩) := cell_of_row _ _ _ _ _ _ I.out.o; have f11 : (w4.setRow w1.heap.size (rdc q5)).frozen? ⟨w.heap.size + 1, 11, none⟩ = false := frozen_of_row _ _ _ _ _ I.out.o; dsimp only [rdc] at c11 f11))
      replace I := hide (I.out.setO 11 (.string tg) ((Nd.mk (au : Int) [] ⟨kd, ⟨c, k⟩, th, p, nm, d, g, z⟩ tg).cs (.slice pa i pc)) rfl)
      clear c11 f11 H5
      dsimp only [rdc] at I
      generalize (w4.setRow w1.heap.size _).setCell ⟨w.heap.size + 1, 11, none⟩ (.string tg) = W4 at *
      go_upto_region 16 with (first
        | (refine wpList_load_row rfl 72 _ rfl _ rfl _ _ _ _ I.out.r Tryz.underlying72 rfl infoRef ?_)
        | (go_at_call 38; refine (H6.out _).mono ?_; rintro e w5 ⟨rfl, k5⟩; replace I := hide (I.out.step k5); clear k5)
        | (refine wpList_store_row rfl 72 _ _ rfl _ _ rfl rfl 72 _ I.out.r infoRef rfl (by simp [Value.oneCell']) ?_; replace I := hide (I.out.setR q6)))
      clear H6
      dsimp only [rdc] at I
      generalize w5.setRow w1.heap.size _ = W5 at *
      obtain ⟨r0, r1, r2, r3⟩ := I.out.rc
      by_cases h6 : q6.err = 0
      · obtain ⟨h3, hfew, hc0⟩ := hd3 h6
        obtain rfl := hds h3
        have hC := hdC h6
        have HC : Hid (∀ w', StrRow.Reads w' (.slice pa i pc) ds' → Calls Tryz.prog 6 #[(Nd.mk (au : Int) ds' ⟨kd, ⟨c, k⟩, th, p, nm, d, g, z⟩ tg).v (.slice pa i pc)] w' fun e w2 => e = .returned (.int .i64 DE) ∧ Below w'.heap.size w' w2) := fun w' hr => by
          have := rcheck11_any (Nd.mk (au : Int) ds' ⟨kd, ⟨c, k⟩, th, p, nm, d, g, z⟩ tg) (.slice pa i pc) w' hr (by show ds'.length ≤ _; unfold maxLen; omega) (fun x hx => by have := hall x hx; unfold maxLen; omega) hc0
          rwa [← hC] at this
        rw [h6] at r2
        unfold Nd.v Nd.cs at HC
        dsimp only at HC
        have hlt := I.out.hb
        have hlt2 := I.out.hr
        clear hdA hdC hd3 hds hall hC h6 h3 hfew hc0 r0 r1 r3 hl
        by_cases hD : DE = 0
        · have hdd := hdD hD
          subst hD hdd
          clear hdD hdN
          go_wp2_with (first
            | (refine wpList_load_row rfl 38 _ rfl _ rfl _ _ _ _ I.out.o Tryz.underlying38 rfl infoRNode ?_)
            | (go_at_call 6; refine (HC.out _ (StrRow.Reads.of_own I.out.own)).mono ?_; rintro e w7 ⟨rfl, k7⟩; replace I := hide (I.out.step k7); clear k7 r2)
            | (refine wpList_store_row rfl 38 _ _ rfl _ _ rfl rfl 38 _ I.out.z infoRNode rfl (by simp [Value.oneCell']) ?_))
          exact bodyPost_ret (results_cell2_row Tryz.results15 _ _ _ _ _ (0, 0) _ rfl (setRow_heap _ _ _ _ _ _ I.out.z) Tryz.underlying38 rfl infoRNode) rfl ⟨_, rfl, StrRow.Reads.of_own (nd_setR I.out.own (by omega) _), below_setRow I.out.below (Nat.le_refl _) _⟩
        · have hdd := hdN hD
          subst hdd
          have hD2 : (DE == 0) = false := beq_eq_false_iff_ne.2 hD
          clear hdD hdN
          go_wp2_with (first
            | (refine wpList_load_row rfl 38 _ rfl _ rfl _ _ _ _ I.out.o Tryz.underlying38 rfl infoRNode ?_)
            | (go_at_call 6; refine (HC.out _ (StrRow.Reads.of_own I.out.own)).mono ?_; rintro e w7 ⟨rfl, k7⟩; replace I := hide (I.out.step k7); clear k7 r2)
            | (refine wpList_store_row rfl 38 _ _ rfl _ _ rfl rfl 38 _ I.out.z infoRNode rfl (by simp [Value.oneCell']) ?_))
          exact bodyPost_ret (results_cell2_row Tryz.results15 _ _ _ _ _ (0, 0) _ rfl (setRow_heap _ _ _ _ _ _ I.out.z) Tryz.underlying38 rfl infoRNode) rfl ⟨.slice none 0 0, rfl, .inl ⟨⟨_, _, rfl⟩, rfl⟩, below_setRow I.out.below (Nat.le_refl _) _⟩
      · have h6' : ¬ q6.err = 0 := h6
        have h6b : (q6.err == 0) = false := beq_eq_false_iff_ne.2 h6
        have hE := hdA h6
        have hN := hdN (by rw [hE]; exact h6)
        subst hE hN
        clear hdA hdC hdD hdN hd3 hds hall
        have e2 := cell_regrown r2
        clear r0 r1 r3
        go_upto_region 17 with fail
        refine QuietCalls.region (by kernel_rfl) (by kernel_rfl) ?_
        iterate 3 (first | go_big_quiet_step (fail) | quiet_step (fail))
        refine QuietCalls.storeSame rfl 38 _ _ rfl _ _ rfl rfl _ I.out.z infoRNode (by simp [Value.oneCell']) ?_; simp only [Act.put]
        first | go_big_quiet_step (fail) | quiet_step (fail)
        refine wpQuiet_nil ?_
        intro V k2
        replace I := hide (I.out.step k2)
        clear k2 e2
        go_wp2_with fail
        exact bodyPost_ret (results_cell2_row Tryz.results15 _ _ _ _ _ (0, 0) _ rfl I.out.z Tryz.underlying38 rfl infoRNode) rfl ⟨.slice none 0 0, rfl, .inl ⟨⟨_, _, rfl⟩, rfl⟩, I.out.below⟩
end Go.Proofs.YtcdmdpafkiljdaaGreatDoor
