/- Contracts: where a list is cut, digests, roots, the program's and the document's. -/
import Derived.Test.YtoopaeahhbkncaaDoorShaThree
import Derived.Test.YtoopaeahhbkncaaDoorMerkleMath
import Derived.Test.YtoopaeahhbkncaaDoorWireNumber
import Derived.Test.YtoopaeahhbkncaaDoorWireRefDigits
import Derived.Test.YtoopaeahhbkncaaDoorQuietCalls
import Derived.Test.YtoopaeahhbkncaaDoorQuietClass
import Derived.Test.YtoopaeahhbkncaaDoorOpenRows
import Derived.Test.YtoopaeahhbkncaaDoorChunkIter
namespace Go.QuietCalls
open Go.RowKit Go.Sort
/-- The first n operations of a region that draws: quiet, or calls that leave all that was there; the rest in its order. -/
theorem tail {P : Program} {id : Nat} {Q : Exit → Act → World → Prop} {a : Act} {w : World} {l : List Oper} (n : Nat) (hm : P.follows .mixedOrders = true) (hB : Region.lexTailB .any l.toArray n = true)
    (h : wpQuiet P l.toArray (fun w' => ∃ p : Regrown, w' = grow (redrawn w p.d) p.os) (fun a' => ∀ w', Below w.heap.size w w' → wpList P l.toArray Q (l.drop n) a' w') (l.take n) a) : (Code.region id l.toArray true).wp P Q a w := by
  have e : (fun a' : Act => ∀ w', Below w.heap.size w w' → wpList P l.toArray Q (l.drop n) a' w') = (fun a' : Act => ∀ w', (∃ p : Regrown, w' = grow (redrawn w p.d) p.os) → wpList P l.toArray Q (l.drop n) a' w') := by
    funext a'
    apply propext
    constructor
    · rintro h w' ⟨p, rfl⟩; exact h _ (below_regrown _ _ _)
    · intro h w' k; exact h _ (regrown_of_below k)
  rw [e] at h
  exact QTail.wp_region_tail _ n hm hB ⟨⟨w.drawn + 1, #[]⟩, by rw [grow_empty]; rfl⟩ h
theorem call3 {P : Program} {ops : Array Oper} {W : World} {Q : Act → Prop} {rest : List Oper} {o : Oper} {a : Act} {f : FuncId} {x0 x1 x2 : Operand} {ts : Array TypeId} {u0 u1 u2 v : Value} (hgd : Region.wanted o (yielded ops a.tmps) = true)
    (ho : o.op = .call { callee := .value (.func f), args := #[x0, x1, x2], argTypes := ts }) (hf : ∀ args w, (callFunc f args).run P w = .ok (.enter f args) w)
    (hc : ∀ w, Below W.heap.size W w → Calls P f #[u0, u1, u2] w fun e w' => e = .returned v ∧ Below w.heap.size w w') (h0 : a.eval x0 = u0) (h1 : a.eval x1 = u1) (h2 : a.eval x2 = u2)
    (h : wpQuiet P ops (fun w' => ∃ p : Regrown, w' = grow (redrawn W p.d) p.os) Q rest (a.put o.dst v)) : wpQuiet P ops (fun w' => ∃ p : Regrown, w' = grow (redrawn W p.d) p.os) Q (o :: rest) a :=
  call hgd f _ v hc (fun w => by
    subst h0 h1 h2
    rw [← hf]
    obtain ⟨dst, op, ty, pos, after, gd⟩ := o
    dsimp only at ho
    subst ho
    show (callFunc f (#[] ++ #[x0, x1, x2].map a.eval ++ #[])).run P w = _
    simp) h
theorem call4 {P : Program} {ops : Array Oper} {W : World} {Q : Act → Prop} {rest : List Oper} {o : Oper} {a : Act} {f : FuncId} {x0 x1 x2 x3 : Operand} {ts : Array TypeId} {u0 u1 u2 u3 v : Value} (hgd : Region.wanted o (yielded ops a.tmps) = true)
    (ho : o.op = .call { callee := .value (.func f), args := #[x0, x1, x2, x3], argTypes := ts }) (hf : ∀ args w, (callFunc f args).run P w = .ok (.enter f args) w)
    (hc : ∀ w, Below W.heap.size W w → Calls P f #[u0, u1, u2, u3] w fun e w' => e = .returned v ∧ Below w.heap.size w w') (h0 : a.eval x0 = u0) (h1 : a.eval x1 = u1) (h2 : a.eval x2 = u2) (h3 : a.eval x3 = u3)
    (h : wpQuiet P ops (fun w' => ∃ p : Regrown, w' = grow (redrawn W p.d) p.os) Q rest (a.put o.dst v)) : wpQuiet P ops (fun w' => ∃ p : Regrown, w' = grow (redrawn W p.d) p.os) Q (o :: rest) a :=
  call hgd f _ v hc (fun w => by
    subst h0 h1 h2 h3
    rw [← hf]
    obtain ⟨dst, op, ty, pos, after, gd⟩ := o
    dsimp only at ho
    subst ho
    show (callFunc f (#[] ++ #[x0, x1, x2, x3].map a.eval ++ #[])).run P w = _
    simp) h
end Go.QuietCalls
namespace Go.Proofs.YtoopaeahhbkncaaDoor
open Go.RowKit Go.Mk Go.Chunk
attribute [local go_sem] Oper.semAt_some
theorem byte_wraps (b : UInt8) : wrap64 (wrap64 ((b.toNat : Nat) : Int)) = ((b.toNat : Nat) : Int) := by
  have := b.toNat_lt
  unfold wrap64; omega
theorem len_of (S : ByteArray) (x : Nat) (h : x < S.size) (hx : 1 ≤ x) (hS : ∀ n, (h : n < S.size) → 1 ≤ n → (S[n]).toNat = Nat.log2 n + 1) : wrap64 (wrap64 ((((S[x]).toNat : Nat)) : Int)) = ((Nat.log2 x + 1 : Nat) : Int) := by
  rw [byte_wraps, hS x h hx]
set_option maxRecDepth 100000 in
theorem len64_any (x : Nat) (w : World) (hx : 1 ≤ x) (hx2 : x < 256) :
    Calls Tryd.prog 96 #[.int .u64 x] w fun e w' => e = .returned (.int .i64 (Nat.log2 x + 1 : Nat)) ∧ w' = w := by
  have hx3 : (x : Int) < 256 := by omega
  have hx0 : (0 : Int) ≤ x := by omega
  go_enter Tryd.func96, Tryd.ntmps96
  have hc1 : ¬ ((4294967296 : Int) ≤ x) := by omega
  have hc2 : ¬ ((65536 : Int) ≤ x) := by omega
  have hc3 : ¬ ((256 : Int) ≤ x) := by omega
  iterate 21 go_step
  refine wp_cond_split rfl (fun h => (by cases h)) (fun _ => ?_)
  iterate 62 go_step
  go_ret
  refine ⟨?_, rfl⟩
  refine congrArg (fun z => Ending.returned (Value.int .i64 z)) ?_
  exact len_of _ x _ hx (by decide +kernel)
theorem len_any (x : Nat) (w : World) (hx : 1 ≤ x) (hx2 : x < 256) :
    Calls Tryd.prog 72 #[.int .u64 x] w fun e w' => e = .returned (.int .i64 (Nat.log2 x + 1 : Nat)) ∧ w' = w := by
  have H := hide (len64_any x w hx hx2)
  go_enter Tryd.func72, Tryd.ntmps72
  go_wp2_with (go_at_call 96; refine H.out.mono ?_; rintro e w' ⟨rfl, hw⟩; subst hw)
  go_ret
  exact ⟨rfl, rfl⟩
theorem first_any (n : Nat) (w : World) (hn : 2 ≤ n) (hn2 : n ≤ 256) :
    Calls Tryd.prog 41 #[.int .i64 n] w fun e w' => e = .returned (.int .i64 (kc n)) ∧ w' = w := by
  have H := hide (len_any (n - 1) w (by omega) (by omega))
  have e1 : ((n - 1 : Nat) : Int) = n - 1 := by omega
  rw [e1] at H
  have hk : Nat.log2 (n - 1) < 8 := by
    refine (Nat.log2_lt (by omega)).2 ?_
    show n - 1 < 2 ^ 8
    omega
  have HK : Hid (kc n = 2 ^ Nat.log2 (n - 1)) := rfl
  generalize Nat.log2 (n - 1) = j at *
  generalize kc n = K at *
  have hn3 : (n : Int) ≤ 256 := by omega
  have hn4 : (2 : Int) ≤ n := by omega
  have hj : (j : Int) < 8 := by omega
  go_enter Tryd.func41, Tryd.ntmps41
  go_wp2_with (go_at_call 72; refine H.out.mono ?_; rintro e w' ⟨rfl, hw⟩; subst hw)
  go_ret
  refine ⟨congrArg (fun z => Ending.returned (Value.int .i64 z)) ?_, rfl⟩
  have h2 : 2 ^ j ≤ 2 ^ 7 := Nat.pow_le_pow_right (by omega) (by omega)
  have h3 : ((2 ^ j : Nat) : Int) = (2 : Int) ^ j := by simp
  rw [HK.out, ← h3]
  clear h3 HK H
  generalize 2 ^ j = X at h2 ⊢
  unfold wrap64
  omega
theorem rcutk_any (n : Nat) (w : World) (hn : 2 ≤ n) (hn2 : n ≤ 256) :
    Calls Tryd.prog 44 #[.int .i64 n] w fun e w' => e = .returned (.int .i64 (kc n)) ∧ w' = w := by
  have hn3 : (n : Int) ≤ 256 := by omega
  have hn4 : (2 : Int) ≤ n := by omega
  go_enter Tryd.func44, Tryd.ntmps44
  go_wp2_with fail
  go_loopw [3] (fun v wr => ∃ (j K : Nat), v = .int .i64 K ∧ K < n ∧ Hid (K = 2 ^ j ∧ wr = w)) (fun v _ => n - (intOf v).toNat)
  case atStart => exact ⟨0, 1, rfl, by omega, rfl, rfl⟩
  case round =>
    obtain ⟨j, K, rfl, hK, HJ⟩ := hrel
    have h1 : 1 ≤ K := by rw [HJ.out.1]; exact Nat.one_le_two_pow
    by_cases hlt : K + K < n
    · have hlt2 : (K : Int) + K < n := by omega
      go_wp2_with fail
      go_roundw
      case rel => exact ⟨j + 1, K + K, by go_num, hlt, by rw [Nat.pow_succ, ← HJ.out.1]; omega, HJ.out.2⟩
      case measure => simp [intOf]; omega
    · have hlt2 : ¬ ((K : Int) + K < n) := by omega
      go_wp2_with fail
      go_ret
      refine ⟨?_, HJ.out.2⟩
      rw [HJ.out.1, kc_is hn (by rw [← HJ.out.1]; exact hK) (by rw [← HJ.out.1]; omega)]
      rfl
/-- Slices of strings, cut. -/
theorem reads_take {w : World} {b off n c : Nat} {xs : List ByteArray} (h : StrRow.Reads w (.slice (some ⟨b, off, none⟩) n c) xs) (k : Nat) (hk : k ≤ xs.length) : StrRow.Reads w (.slice (some ⟨b, off, none⟩) k c) (xs.take k) := by
  rcases h with ⟨⟨_, _, _⟩, rfl⟩ | ⟨_, _, _, h1, h2, h3, h4⟩
  · simp at hk; subst hk; exact .inl ⟨⟨_, _, rfl⟩, rfl⟩
  · cases h1
    have hl : (xs.take k).length = k := by rw [List.length_take]; omega
    refine .inr ⟨b, off, c, by rw [hl], h2, by omega, fun j s hj => ?_⟩
    have hjk : j < k := by rw [← hl]; exact (List.getElem?_eq_some_iff.1 hj).1
    rw [List.getElem?_take_of_lt hjk] at hj
    exact h4 j s hj
theorem reads_drop {w : World} {b off n c : Nat} {xs : List ByteArray} (h : StrRow.Reads w (.slice (some ⟨b, off, none⟩) n c) xs) (k : Nat) (hk : k < xs.length) : StrRow.Reads w (.slice (some ⟨b, off + k, none⟩) (xs.length - k) (c - k)) (xs.drop k) := by
  rcases h with ⟨⟨_, _, _⟩, rfl⟩ | ⟨_, _, _, h1, h2, h3, h4⟩
  · simp at hk
  · cases h1
    refine .inr ⟨b, off + k, c - k, by rw [List.length_drop], h2, by rw [List.length_drop]; omega, fun j s hj => ?_⟩
    rw [List.getElem?_drop] at hj
    have := h4 (k + j) s hj
    rw [Nat.add_assoc]; exact this
theorem reads_lit1 (w : World) (s : ByteArray) (t : TypeId) : StrRow.Reads (w.alloc (.cells #[.string s] t)) (.slice (some ⟨w.heap.size, 0, none⟩) 1 1) [s] :=
  .inr ⟨w.heap.size, 0, 1, rfl, by simp, Nat.le_refl _, fun j x hj => by
    match j, hj with
    | 0, hj => simp at hj; subst hj; simp⟩
theorem reads_lit2 (w : World) (s r : ByteArray) (t : TypeId) : StrRow.Reads (w.alloc (.cells #[.string s, .string r] t)) (.slice (some ⟨w.heap.size, 0, none⟩) 2 2) [s, r] :=
  .inr ⟨w.heap.size, 0, 2, rfl, by simp, Nat.le_refl _, fun j x hj => by
    match j, hj with
    | 0, hj => simp at hj; subst hj; simp
    | 1, hj => simp at hj; subst hj; simp⟩
theorem reads_lit3 (w : World) (s r u : ByteArray) (t : TypeId) : StrRow.Reads (w.alloc (.cells #[.string s, .string r, .string u] t)) (.slice (some ⟨w.heap.size, 0, none⟩) 3 3) [s, r, u] :=
  .inr ⟨w.heap.size, 0, 3, rfl, by simp, Nat.le_refl _, fun j x hj => by
    match j, hj with
    | 0, hj => simp at hj; subst hj; simp
    | 1, hj => simp at hj; subst hj; simp
    | 2, hj => simp at hj; subst hj; simp⟩
theorem Steps.kept {w w' : World} (h : Steps w) (hb : Below w.heap.size w w') : Steps w' := Steps.by hb h.pos h
theorem digest_any (s : ByteArray) (w : World) (hs : s.size ≤ 2000000) (hst : Steps w) :
    Calls Tryd.prog 18 #[.string s] w fun e w' => e = .returned (.string (digest s)) ∧ Below w.heap.size w w' := by
  have HT := hide (tagged_any 75 (.slice (some ⟨w.heap.size, 0, none⟩) 1 1) [s] (w.alloc (.cells #[.string s] 9)) (reads_lit1 w s 9) (by simp) (by simpa using hs) (hst.kept ((Below.refl _ w).alloc (Nat.le_refl _) _)))
  clear hst
  go_enter Tryd.func18, Tryd.ntmps18
  go_wp2_with (go_at_call 40; refine HT.out.mono ?_; rintro e w' ⟨rfl, hb⟩)
  go_ret
  exact ⟨rfl, ((Below.refl _ w).alloc (Nat.le_refl _) _).trans (hb.mono (by simp))⟩
theorem rdigest_any (s : ByteArray) (w : World) (hs : s.size ≤ 2000000) :
    Calls Tryd.prog 19 #[.string s] w fun e w' => e = .returned (.string (digest s)) ∧ Below w.heap.size w w' := by
  have HT := hide (rtagged_any 75 (.slice (some ⟨w.heap.size, 0, none⟩) 1 1) [s] (w.alloc (.cells #[.string s] 9)) (reads_lit1 w s 9) (by simp) (by simpa using hs))
  go_enter Tryd.func19, Tryd.ntmps19
  go_wp2_with (go_at_call 43; refine HT.out.mono ?_; rintro e w' ⟨rfl, hb⟩)
  go_ret
  exact ⟨rfl, ((Below.refl _ w).alloc (Nat.le_refl _) _).trans (hb.mono (by simp))⟩
theorem join_any (s r : ByteArray) (w : World) (hs : s.size ≤ 2000000) (hr : r.size ≤ 2000000) (hst : Steps w) :
    Calls Tryd.prog 42 #[.string s, .string r] w fun e w' => e = .returned (.string (tag 74 [s, r])) ∧ Below w.heap.size w w' := by
  have HT := hide (tagged_any 74 (.slice (some ⟨w.heap.size, 0, none⟩) 2 2) [s, r] (w.alloc (.cells #[.string s, .string r] 9)) (reads_lit2 w s r 9) (by simp) (by simp; exact ⟨hs, hr⟩) (hst.kept ((Below.refl _ w).alloc (Nat.le_refl _) _)))
  clear hst
  go_enter Tryd.func42, Tryd.ntmps42
  go_wp2_with (go_at_call 40; refine HT.out.mono ?_; rintro e w' ⟨rfl, hb⟩)
  go_ret
  exact ⟨rfl, ((Below.refl _ w).alloc (Nat.le_refl _) _).trans (hb.mono (by simp))⟩
end Go.Proofs.YtoopaeahhbkncaaDoor
