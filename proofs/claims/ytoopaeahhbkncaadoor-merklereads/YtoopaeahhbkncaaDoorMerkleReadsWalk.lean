/- The walk of MerkleReads. -/
import Derived.Test.YtoopaeahhbkncaaDoorMerkleTake
import Derived.Test.YtoopaeahhbkncaaDoorMerkleAwake
namespace Go.Mk
open Go.RowKit Go.Wire
theorem took_cut {s : ByteArray} {l : List UInt8} {r : St} (h : Took ⟨s, 0, 0⟩ l r) : (⟨l.toArray⟩ : ByteArray) = s.extract 0 r.pos := by
  apply ext_list
  have h1 := h.l
  have h2 := h.pos
  dsimp only at h1 h2
  rw [extract_list, h2, Nat.zero_add, Nat.sub_zero]
  show l = _
  rw [h1]
/-- A reader, a share in its block, its digests. -/
structure Rk (R S b g : Nat) (q : St) (cs : Array Value) (pv : Value) (xs : List ByteArray) (W w : World) : Prop where
  rd : Rd R b q w
  row : w.heap[g]? = some (.cells cs S (0, 0))
  own : StrRow.Reads w pv xs
  below : Below W.heap.size W w
theorem Rk.step {R S b g : Nat} {q : St} {cs : Array Value} {pv : Value} {xs : List ByteArray} {W w w' : World} (i : Rk R S b g q cs pv xs W w) (k : Below w.heap.size w w') : Rk R S b g q cs pv xs W w' :=
  ⟨i.rd.of_heap (k.block _ i.rd.lt), kept_block i.row k, i.own.below k (Nat.le_refl _), i.below.trans (k.mono i.below.size)⟩
end Go.Mk
namespace Go.Proofs.YtoopaeahhbkncaaDoor
open Go.RowKit Go.Shelf Go.Wire Go.Mk Go.Chunk
attribute [local go_sem] Oper.semAt_some
set_option maxRecDepth 100000 in
set_option maxHeartbeats 2000000 in
theorem merkleReads_any (s : ByteArray) (W : World) (hs : s.size ≤ maxLen) (hst : Steps W) :
    Calls Tryd.prog 6 #[.string s] W fun e w' => e = .returned (.bool true) ∧ Below W.heap.size W w' := by
  have HST := hide hst
  have HA := hide (fun (w' : World) (h : Below W.heap.size W w') => awake9_any w' (HST.out.kept h))
  have HT := hide (fun (w' : World) (h : Rd 85 W.heap.size ⟨s, 0, 0⟩ w') => take9_any W.heap.size ⟨s, 0, 0⟩ w' h (Nat.zero_le _) hs)
  have HX := hide (fun h0 : (share ⟨s, 0, 0⟩).1.err = 0 => share_took (Nat.zero_le _) h0)
  have hz : (share ⟨s, 0, 0⟩).1.err ≠ 0 → (share ⟨s, 0, 0⟩).2 = Sh.zero := fun h => by unfold share at h ⊢; dsimp only at h ⊢; rw [if_neg h]
  have hps : (share ⟨s, 0, 0⟩).1.pos ≤ s.size := t7_le ⟨s, 0, 0⟩ (Nat.zero_le _)
  clear hst hs
  generalize (share ⟨s, 0, 0⟩).1 = q at *
  generalize (share ⟨s, 0, 0⟩).2 = x at *
  have HE := hide (fun (w' : World) (hr : Rd 85 W.heap.size q w') => err_any W.heap.size q w' hr)
  have HAT := hide (fun (w' : World) (hr : Rd 85 W.heap.size q w') => at_any W.heap.size q w' hr)
  obtain ⟨dg, sz, mn, at_, ck, pa⟩ := x
  dsimp only [Sh.v] at HT
  by_cases he : q.err = 0
  · rw [he] at HE
    obtain ⟨tk, tl⟩ := HX.out he
    have HEQ := hide (took_cut tk)
    obtain ⟨P, hP⟩ : ∃ P : Nat, P = q.pos := ⟨_, rfl⟩
    rw [← hP] at HAT HEQ hps
    have hP2 : (P : Int) ≤ s.size := by omega
    have HPU : Hid (∀ (pv : Value) (B : Nat) (w' : World), Wr 93 B B [] w' → B ≤ w'.heap.size → (∀ w'', Below B w' w'' → StrRow.Reads w'' pv pa) → Calls Tryd.prog 31 #[.pointer (some ⟨B, 0, none⟩), .agg #[.string dg, .int .i64 sz, .int .i64 mn, .int .i64 at_, .string ck, pv]] w' fun e w2 => e = .returned (.tuple #[]) ∧ Wr 93 B B (shBytes ⟨dg, sz, mn, at_, ck, pa⟩) w2 ∧ Below B w' w2) := fun pv B w' h hB hR =>
      (put9_any B (.pointer (some ⟨B, 0, none⟩)) pv [] ⟨dg, sz, mn, at_, ck, pa⟩ w' (.inr ⟨B, rfl, h⟩) (by decide) hB tl hR).mono fun e w2 ⟨a, b, c⟩ => ⟨a, by
        rcases b with b | ⟨b', b, hr⟩
        · cases b
        · obtain rfl : B = b' := by simpa using b
          exact hr, c⟩
    have HAll : Hid (∀ (B : Nat) (w' : World), B ≤ w'.heap.size → Wr 93 B B (shBytes ⟨dg, sz, mn, at_, ck, pa⟩) w' → Calls Tryd.prog 32 #[.pointer (some ⟨B, 0, none⟩)] w' fun e w2 => e = .returned (.string (s.extract 0 P)) ∧ Below B w' w2) := fun B w' hB h => (wall_any B B _ w' hB h).mono fun e w2 ⟨a, _, c⟩ => ⟨by rw [a, HEQ.out], c⟩
    generalize shBytes ⟨dg, sz, mn, at_, ck, pa⟩ = BY at *
    clear tk tl HX hz HEQ hP
    go_enter Tryd.func6, Tryd.ntmps6
    go_wp2_with (first
      | (go_at_call 27; refine (newReader_any s _).mono ?_; rintro e w1 ⟨rfl, h1, k1⟩)
      | (go_at_call 28; refine (HT.out _ h1).mono ?_; rintro e w2 ⟨pv, rfl, ho, h2, k2⟩
         obtain ⟨va, vc, rfl⟩ := own_slice ho
         have J := hide (show Rk 85 45 W.heap.size w2.heap.size q #[.string dg, .int .i64 sz, .int .i64 mn, .int .i64 at_, .string ck, .slice va pa.length vc] (.slice va pa.length vc) pa W (w2.alloc (.cells #[.string dg, .int .i64 sz, .int .i64 mn, .int .i64 at_, .string ck, .slice va pa.length vc] 45)) from
           ⟨h2.of_heap (heap_alloc_old w2 _ h2.lt), heap_alloc_new _ _, (StrRow.Reads.of_own ho).below ((Below.refl _ w2).alloc (Nat.le_refl _) _) (Nat.le_refl _), (k1.trans k2.below).alloc (k1.trans k2.below).size _⟩)
         clear ho h1 h2 k1 k2)
      | (go_at_call 10; refine (HA.out _ J.out.below).mono ?_; rintro e w3 ⟨rfl, k3⟩; replace J := hide (J.out.step k3); clear k3)
      | (go_at_call 29; refine (HE.out _ J.out.rd).mono ?_; rintro e w4 ⟨rfl, hw⟩; subst hw)
      | (go_at_call 30; refine (newWriter_any _).mono ?_; rintro e w5 ⟨rfl, h5, k5⟩; have K := hide (And.intro h5 k5); clear h5 k5)
      | (refine wpList_load_row rfl 45 _ rfl _ rfl _ _ _ _ (J.out.step K.out.2).row Tryd.underlying45 rfl infoShare ?_)
      | (go_at_call 31; refine (HPU.out _ _ _ K.out.1 K.out.2.size (fun w'' k => (J.out.step (K.out.2.trans k)).own)).mono ?_; rintro e w6 ⟨rfl, h6, k6⟩; replace K := hide (And.intro h6 (K.out.2.trans k6)); clear h6 k6)
      | (go_at_call 32; refine (HAll.out _ _ K.out.2.size K.out.1).mono ?_; rintro e w7 ⟨rfl, k7⟩; have L := hide (J.out.step (K.out.2.trans k7)); clear k7)
      | (go_at_call 33; refine (HAT.out _ L.out.rd).mono ?_; rintro e w8 ⟨rfl, hw⟩; subst hw))
    go_ret
    exact ⟨by simp, L.out.below⟩
  · obtain hx := hz he
    unfold Sh.zero at hx
    simp only [Sh.mk.injEq] at hx
    obtain ⟨rfl, rfl, rfl, rfl, rfl, rfl⟩ := hx
    have g0 : (q.err == 0) = false := beq_eq_false_iff_ne.2 he
    clear he HX hz hps HAT
    go_enter Tryd.func6, Tryd.ntmps6
    go_wp2_with (first
      | (go_at_call 27; refine (newReader_any s _).mono ?_; rintro e w1 ⟨rfl, h1, k1⟩)
      | (go_at_call 28; refine (HT.out _ h1).mono ?_; rintro e w2 ⟨pv, rfl, ho, h2, k2⟩
         obtain ⟨va, vc, rfl⟩ := own_slice ho
         have J := hide (show Rk 85 45 W.heap.size w2.heap.size q #[.string ⟨#[]⟩, .int .i64 0, .int .i64 0, .int .i64 0, .string ⟨#[]⟩, .slice va 0 vc] (.slice va 0 vc) [] W (w2.alloc (.cells #[.string ⟨#[]⟩, .int .i64 0, .int .i64 0, .int .i64 0, .string ⟨#[]⟩, .slice va 0 vc] 45)) from
           ⟨h2.of_heap (heap_alloc_old w2 _ h2.lt), heap_alloc_new _ _, (StrRow.Reads.of_own ho).below ((Below.refl _ w2).alloc (Nat.le_refl _) _) (Nat.le_refl _), (k1.trans k2.below).alloc (k1.trans k2.below).size _⟩)
         clear ho h1 h2 k1 k2)
      | (go_at_call 10; refine (HA.out _ J.out.below).mono ?_; rintro e w3 ⟨rfl, k3⟩; replace J := hide (J.out.step k3); clear k3; obtain ⟨c0, c1, c2, c3, c4, c5⟩ := cells6 J.out.row)
      | (go_at_call 29; refine (HE.out _ J.out.rd).mono ?_; rintro e w4 ⟨rfl, hw⟩; subst hw))
    go_ret
    exact ⟨rfl, J.out.below⟩
end Go.Proofs.YtoopaeahhbkncaaDoor
