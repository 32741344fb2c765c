/- Several texts in one: MerkleFirst, MerkleFile, TailIn. -/
import Derived.Test.YtigkemkebceacaaDoorShaTwo
import Derived.Test.YtigkemkebceacaaDoorWirePure
import Derived.Test.YtigkemkebceacaaDoorWireMid
import Derived.Test.YtigkemkebceacaaDoorQuietAll
import Derived.Test.YtigkemkebceacaaDoorRowsAll
import Derived.Test.YtigkemkebceacaaDoorChunkAll
import Derived.OrdersIn
import Derived.TacticsInMore
import Derived.RangeFuncCalls
/- Contracts: where a list is cut, digests, roots, the program's and the document's. -/
namespace Go.Proofs.YtigkemkebceacaaDoor
open Go.RowKit Go.Mk Go.Chunk
attribute [local go_sem] Oper.semAt_some
theorem byte_wraps (b : UInt8) : wrap64 (wrap64 ((b.toNat : Nat) : Int)) = ((b.toNat : Nat) : Int) := by
  have := b.toNat_lt
  unfold wrap64; omega
theorem len_of (S : ByteArray) (x : Nat) (h : x < S.size) (hx : 1 ≤ x) (hS : ∀ n, (h : n < S.size) → 1 ≤ n → (S[n]).toNat = Nat.log2 n + 1) : wrap64 (wrap64 ((((S[x]).toNat : Nat)) : Int)) = ((Nat.log2 x + 1 : Nat) : Int) := by
  rw [byte_wraps, hS x h hx]
set_option maxRecDepth 100000 in
theorem len64_any (x : Nat) (w : World) (hx : 1 ≤ x) (hx2 : x < 256) :
    Calls Tryd.prog 78 #[.int .u64 x] w fun e w' => e = .returned (.int .i64 (Nat.log2 x + 1 : Nat)) ∧ w' = w := by
  have hx3 : (x : Int) < 256 := by omega
  have hx0 : (0 : Int) ≤ x := by omega
  go_enter Tryd.func78, Tryd.ntmps78
  have hc1 : ¬ ((4294967296 : Int) ≤ x) := by omega
  have hc2 : ¬ ((65536 : Int) ≤ x) := by omega
  have hc3 : ¬ ((256 : Int) ≤ x) := by omega
  iterate 21 go_step
  refine wp_cond_split rfl (fun h => (by cases h)) (fun _ => ?_)
  iterate 62 go_step
  go_ret
  refine ⟨?_, rfl⟩
  refine congrArg (fun z => Ending.returned (Value.int .i64 z)) ?_
  exact len_of _ x _ hx (by decide +kernel)
theorem len_any (x : Nat) (w : World) (hx : 1 ≤ x) (hx2 : x < 256) :
    Calls Tryd.prog 68 #[.int .u64 x] w fun e w' => e = .returned (.int .i64 (Nat.log2 x + 1 : Nat)) ∧ w' = w := by
  have H := hide (len64_any x w hx hx2)
  go_enter Tryd.func68, Tryd.ntmps68
  go_wp2_with (go_at_call 78; refine H.out.mono ?_; rintro e w' ⟨rfl, hw⟩; subst hw)
  go_ret
  exact ⟨rfl, rfl⟩
theorem first_any (n : Nat) (w : World) (hn : 2 ≤ n) (hn2 : n ≤ 256) :
    Calls Tryd.prog 53 #[.int .i64 n] w fun e w' => e = .returned (.int .i64 (kc n)) ∧ w' = w := by
  have H := hide (len_any (n - 1) w (by omega) (by omega))
  have e1 : ((n - 1 : Nat) : Int) = n - 1 := by omega
  rw [e1] at H
  have hk : Nat.log2 (n - 1) < 8 := by
    refine (Nat.log2_lt (by omega)).2 ?_
    show n - 1 < 2 ^ 8
    omega
  have HK : Hid (kc n = 2 ^ Nat.log2 (n - 1)) := rfl
  generalize Nat.log2 (n - 1) = j at *
  generalize kc n = K at *
  have hn3 : (n : Int) ≤ 256 := by omega
  have hn4 : (2 : Int) ≤ n := by omega
  have hj : (j : Int) < 8 := by omega
  go_enter Tryd.func53, Tryd.ntmps53
  go_wp2_with (go_at_call 68; refine H.out.mono ?_; rintro e w' ⟨rfl, hw⟩; subst hw)
  go_ret
  refine ⟨congrArg (fun z => Ending.returned (Value.int .i64 z)) ?_, rfl⟩
  have h2 : 2 ^ j ≤ 2 ^ 7 := Nat.pow_le_pow_right (by omega) (by omega)
  have h3 : ((2 ^ j : Nat) : Int) = (2 : Int) ^ j := by simp
  rw [HK.out, ← h3]
  clear h3 HK H
  generalize 2 ^ j = X at h2 ⊢
  unfold wrap64
  omega
/-- Slices of strings, cut. -/
theorem reads_take {w : World} {b off n c : Nat} {xs : List ByteArray} (h : StrRow.Reads w (.slice (some ⟨b, off, none⟩) n c) xs) (k : Nat) (hk : k ≤ xs.length) : StrRow.Reads w (.slice (some ⟨b, off, none⟩) k c) (xs.take k) := by
  rcases h with ⟨⟨_, _, _⟩, rfl⟩ | ⟨_, _, _, h1, h2, h3, h4⟩
  · simp at hk; subst hk; exact .inl ⟨⟨_, _, rfl⟩, rfl⟩
  · cases h1
    have hl : (xs.take k).length = k := by rw [List.length_take]; omega
    refine .inr ⟨b, off, c, by rw [hl], h2, by omega, fun j s hj => ?_⟩
    have hjk : j < k := by rw [← hl]; exact (List.getElem?_eq_some_iff.1 hj).1
    rw [List.getElem?_take_of_lt hjk] at hj
    exact h4 j s hj
theorem reads_drop {w : World} {b off n c : Nat} {xs : List ByteArray} (h : StrRow.Reads w (.slice (some ⟨b, off, none⟩) n c) xs) (k : Nat) (hk : k < xs.length) : StrRow.Reads w (.slice (some ⟨b, off + k, none⟩) (xs.length - k) (c - k)) (xs.drop k) := by
  rcases h with ⟨⟨_, _, _⟩, rfl⟩ | ⟨_, _, _, h1, h2, h3, h4⟩
  · simp at hk
  · cases h1
    refine .inr ⟨b, off + k, c - k, by rw [List.length_drop], h2, by rw [List.length_drop]; omega, fun j s hj => ?_⟩
    rw [List.getElem?_drop] at hj
    have := h4 (k + j) s hj
    rw [Nat.add_assoc]; exact this
theorem reads_lit1 (w : World) (s : ByteArray) (t : TypeId) : StrRow.Reads (w.alloc (.cells #[.string s] t)) (.slice (some ⟨w.heap.size, 0, none⟩) 1 1) [s] :=
  .inr ⟨w.heap.size, 0, 1, rfl, by simp, Nat.le_refl _, fun j x hj => by
    match j, hj with
    | 0, hj => simp at hj; subst hj; simp⟩
theorem reads_lit2 (w : World) (s r : ByteArray) (t : TypeId) : StrRow.Reads (w.alloc (.cells #[.string s, .string r] t)) (.slice (some ⟨w.heap.size, 0, none⟩) 2 2) [s, r] :=
  .inr ⟨w.heap.size, 0, 2, rfl, by simp, Nat.le_refl _, fun j x hj => by
    match j, hj with
    | 0, hj => simp at hj; subst hj; simp
    | 1, hj => simp at hj; subst hj; simp⟩
theorem reads_lit3 (w : World) (s r u : ByteArray) (t : TypeId) : StrRow.Reads (w.alloc (.cells #[.string s, .string r, .string u] t)) (.slice (some ⟨w.heap.size, 0, none⟩) 3 3) [s, r, u] :=
  .inr ⟨w.heap.size, 0, 3, rfl, by simp, Nat.le_refl _, fun j x hj => by
    match j, hj with
    | 0, hj => simp at hj; subst hj; simp
    | 1, hj => simp at hj; subst hj; simp
    | 2, hj => simp at hj; subst hj; simp⟩
theorem Steps.kept {w w' : World} (h : Steps w) (hb : Below w.heap.size w w') : Steps w' := Steps.by hb h.pos h
theorem digest_any (s : ByteArray) (w : World) (hs : s.size ≤ 2000000) (hst : Steps w) :
    Calls Tryd.prog 30 #[.string s] w fun e w' => e = .returned (.string (digest s)) ∧ Below w.heap.size w w' := by
  have HT := hide (tagged_any 75 (.slice (some ⟨w.heap.size, 0, none⟩) 1 1) [s] (w.alloc (.cells #[.string s] 9)) (reads_lit1 w s 9) (by simp) (by simpa using hs) (hst.kept ((Below.refl _ w).alloc (Nat.le_refl _) _)))
  clear hst
  go_enter Tryd.func30, Tryd.ntmps30
  go_wp2_with (go_at_call 45; refine HT.out.mono ?_; rintro e w' ⟨rfl, hb⟩)
  go_ret
  exact ⟨rfl, ((Below.refl _ w).alloc (Nat.le_refl _) _).trans (hb.mono (by simp))⟩
theorem join_any (s r : ByteArray) (w : World) (hs : s.size ≤ 2000000) (hr : r.size ≤ 2000000) (hst : Steps w) :
    Calls Tryd.prog 54 #[.string s, .string r] w fun e w' => e = .returned (.string (tag 74 [s, r])) ∧ Below w.heap.size w w' := by
  have HT := hide (tagged_any 74 (.slice (some ⟨w.heap.size, 0, none⟩) 2 2) [s, r] (w.alloc (.cells #[.string s, .string r] 9)) (reads_lit2 w s r 9) (by simp) (by simp; exact ⟨hs, hr⟩) (hst.kept ((Below.refl _ w).alloc (Nat.le_refl _) _)))
  clear hst
  go_enter Tryd.func54, Tryd.ntmps54
  go_wp2_with (go_at_call 45; refine HT.out.mono ?_; rintro e w' ⟨rfl, hb⟩)
  go_ret
  exact ⟨rfl, ((Below.refl _ w).alloc (Nat.le_refl _) _).trans (hb.mono (by simp))⟩
end Go.Proofs.YtigkemkebceacaaDoor
/- Contracts: a file's digest of its root, the program's and the document's. -/
namespace Go.Proofs.YtigkemkebceacaaDoor
open Go.RowKit Go.Mk Go.Chunk
attribute [local go_sem] Oper.semAt_some
theorem fileOf_any (size many : Nat) (r : ByteArray) (w : World) (h1 : size ≤ 100000) (h2 : many ≤ 100000) (hr : r.size ≤ 2000000) (hst : Steps w) :
    Calls Tryd.prog 40 #[.int .i64 size, .int .i64 many, .string r] w fun e w' => e = .returned (.string (named size many r)) ∧ Below w.heap.size w w' := by
  have H1 := hide (fun (w : World) => number_any size 4 w (by omega))
  have H2 := hide (fun (w : World) => number_any many 4 w (by omega))
  rw [show 2 * (min (max (4 : Int) 0) 8).toNat = 8 by decide] at H1 H2
  have HS := hide hst
  clear hst
  have h1' : (size : Int) ≤ 100000 := by omega
  have h2' : (many : Int) ≤ 100000 := by omega
  have z1 : (Wire.numB 8 size).size = 8 := Wire.numB_size _ _
  have z2 : (Wire.numB 8 many).size = 8 := Wire.numB_size _ _
  unfold named
  generalize Wire.numB 8 size = A at *
  generalize Wire.numB 8 many = B at *
  go_enter Tryd.func40, Tryd.ntmps40
  go_wp2_with fail
  refine (H1.out _).mono ?_
  rintro e w1 ⟨rfl, hb1⟩
  have HB := hide hb1
  clear hb1
  go_wp2_with fail
  refine (H2.out _).mono ?_
  rintro e w2 ⟨rfl, hb2⟩
  have HB2 := hide (HB.out.trans (hb2.mono HB.out.size))
  clear hb2 HB
  have HT := hide (tagged_any 70 (.slice (some ⟨w2.heap.size, 0, none⟩) 3 3) [A, B, r] (w2.alloc (.cells #[.string A, .string B, .string r] 9)) (reads_lit3 w2 A B r 9) (by simp) (by simp; omega) ((HS.out.kept HB2.out).kept ((Below.refl _ w2).alloc (Nat.le_refl _) _)))
  go_wp2_with (go_at_call 45; refine HT.out.mono ?_; rintro e w' ⟨rfl, hb⟩)
  go_ret
  exact ⟨rfl, HB2.out.trans (((Below.refl _ w2).alloc (Nat.le_refl _) _).trans (hb.mono (by simp)) |>.mono HB2.out.size)⟩
/-- The root, the program's. -/
theorem root_any (xs : List ByteArray) : ∀ (v : Value) (w : World) (_ : StrRow.Reads w v xs) (_ : xs.length ≤ 256) (_ : ∀ s ∈ xs, s.size = 32) (_ : Steps w),
    Calls Tryd.prog 41 #[v] w fun e w' => e = .returned (.string (root xs)) ∧ Below w.heap.size w w' := by
  generalize hn : xs.length = n
  induction n using Nat.strongRecOn generalizing xs with
  | _ n ih =>
    subst hn
    intro v w hr hn hx hst
    by_cases h0 : xs.length = 0
    · have e0 : xs = [] := List.length_eq_zero_iff.1 h0
      subst e0
      obtain ⟨a, c, rfl⟩ := hr.form
      rw [root_nil]
      have HT := hide (tagged_any 69 (.slice none 0 0) [] w (.inl ⟨⟨_, _, rfl⟩, rfl⟩) (by simp) (by simp) hst)
      clear hst hr ih
      go_enter Tryd.func41, Tryd.ntmps41
      go_wp2_with (go_at_call 45; refine HT.out.mono ?_; rintro e w' ⟨rfl, hb⟩)
      go_ret
      exact ⟨rfl, hb⟩
    · by_cases h1 : xs.length = 1
      · obtain ⟨x, rfl⟩ := List.length_eq_one_iff.1 h1
        obtain ⟨b, off, cap, rfl, hcap, hb⟩ := hr.at (by simp)
        have hc := hr.cell (j := 0) (s := x) rfl
        rw [root_one]
        clear hst hr ih
        simp only [List.length_cons, List.length_nil, Nat.zero_add, Nat.add_zero] at hc ⊢
        go_enter Tryd.func41, Tryd.ntmps41
        go_wp2_with fail
        go_ret
        exact ⟨rfl, Below.refl _ _⟩
      · have h2 : 2 ≤ xs.length := by omega
        obtain ⟨b, off, cap, rfl, hcap, hb⟩ := hr.at (by intro e; subst e; exact h0 rfl)
        have k1 := kc_pos xs.length
        have k2 := kc_lt h2
        have HF := hide (fun (w : World) => first_any xs.length w h2 hn)
        have lt : (xs.take (kc xs.length)).length = kc xs.length := by rw [List.length_take]; omega
        have ld : (xs.drop (kc xs.length)).length = xs.length - kc xs.length := by rw [List.length_drop]
        have HA := hide (fun (w' : World) (h : Below w.heap.size w w') => ih _ (by rw [lt]; exact k2) (xs.take (kc xs.length)) rfl (.slice (some ⟨b, off, none⟩) (kc xs.length) cap) w' ((reads_take hr _ (by omega)).below h (Nat.le_refl _)) (by omega) (fun s hs => hx s (List.mem_of_mem_take hs)) (hst.kept h))
        have HB := hide (fun (w' : World) (h : Below w.heap.size w w') => ih _ (by rw [ld]; omega) (xs.drop (kc xs.length)) rfl (.slice (some ⟨b, off + kc xs.length, none⟩) (xs.length - kc xs.length) (cap - kc xs.length)) w' ((reads_drop hr _ (by omega)).below h (Nat.le_refl _)) (by omega) (fun s hs => hx s (List.mem_of_mem_drop hs)) (hst.kept h))
        have zA : (root (xs.take (kc xs.length))).size ≤ 2000000 := by rw [root_size _ (fun s hs => hx s (List.mem_of_mem_take hs))]; omega
        have zB : (root (xs.drop (kc xs.length))).size ≤ 2000000 := by rw [root_size _ (fun s hs => hx s (List.mem_of_mem_drop hs))]; omega
        have HJ := hide (fun (w' : World) (h : Below w.heap.size w w') => join_any _ _ w' zA zB (hst.kept h))
        rw [root_more xs h2]
        clear hr hst ih hx lt ld
        generalize root (xs.take (kc xs.length)) = A at *
        generalize root (xs.drop (kc xs.length)) = B at *
        generalize kc xs.length = k at *
        generalize xs.length = n at *
        have k3 : (k : Int) < n := by omega
        have k4 : (k : Int) ≤ cap := by omega
        have k5 : (n : Int) ≤ cap := by omega
        have n0 : ¬ ((n : Int) = 0) := by omega
        have n1 : ¬ ((n : Int) = 1) := by omega
        go_enter Tryd.func41, Tryd.ntmps41
        go_wp2_with (go_at_call 53; refine (HF.out _).mono ?_; rintro e w' ⟨rfl, hw⟩; subst hw)
        refine QuietCalls.region (by kernel_rfl) (by kernel_rfl) ?_
        iterate 3 first | go_big_quiet_step (fail) | quiet_step (fail)
        refine QuietCalls.call1 rfl rfl Tryd.call41 (fun w h => HA.out w h) rfl ?_; simp only [Act.put, List.setIfInBounds_toArray, List.set_cons_succ, List.set_cons_zero]
        iterate 3 first | go_big_quiet_step (fail) | quiet_step (fail)
        refine QuietCalls.call1 rfl rfl Tryd.call41 (fun w h => HB.out w h) rfl ?_; simp only [Act.put, List.setIfInBounds_toArray, List.set_cons_succ, List.set_cons_zero]
        refine QuietCalls.call2 rfl rfl Tryd.call54 (fun w h => HJ.out w h) rfl rfl ?_; simp only [Act.put, List.setIfInBounds_toArray, List.set_cons_succ, List.set_cons_zero]
        refine QuietCalls.assign rfl rfl rfl ?_; simp only [Act.put, List.setIfInBounds_toArray, List.set_cons_succ, List.set_cons_zero]
        refine wpQuiet_nil ?_
        intro w2 hb2
        go_wp2_with fail
        go_ret
        exact ⟨rfl, hb2⟩
end Go.Proofs.YtigkemkebceacaaDoor
/- As Tail, inside a round of a loop that goes over a function: the first n operations quiet, the rest in its order; of no program. -/
namespace Go.QTail
variable {P : Program} {ops : Array Oper} {md : Region.Mode} {C : World → Prop} {n : Nat} {l : Nat}
theorem wpOpIn_of_qOp {i : Nat} {a : Act} {K : Act → Prop} {K' : Act → World → Prop} {Q' : Exit → Act → World → Prop} {w : World} (hd : ∀ o, ops[i]? = some o → ∀ c, o.op ≠ .defer c) (hC : C w) (h : ∀ a w', C w' → K a → K' a w') (hh : qOp P ops C i K a) :
    wpOpIn (Fence.wide.inRound l) n P ops Q' i K' a w := by
  unfold qOp at hh
  unfold wpOpIn
  cases ho : ops[i]? with
  | none => simp only [ho] at hh ⊢; exact h _ _ hC hh
  | some o =>
    simp only [ho] at hh ⊢
    split
    · rename_i hw
      simp only [hw, if_true] at hh
      obtain ⟨v, hv, hK⟩ := hh
      have hq := hv w hC
      refine ⟨fun _ _ => trivial, ?_⟩
      rw [Fence.inRound_round, Oper.semAt_some l a.eval o (hd o ho)]
      unfold Oper.quietAt at hq
      generalize (execOp a.eval o).run P w = r at hq
      cases r with
      | halt x w' => simp [Oper.quietUpon] at hq
      | ok x w' =>
        cases x with
        | value u => simp only [Oper.quietUpon] at hq; obtain ⟨rfl, rfl⟩ := hq; exact h _ _ hC hK
        | skip => simp only [Oper.quietUpon] at hq; obtain ⟨rfl, rfl⟩ := hq; exact h _ _ hC hK
        | enter f args =>
          simp only [Oper.quietUpon] at hq
          obtain ⟨rfl, hc⟩ := hq
          refine ⟨fun h => (by cases h), (CallsIn.inRound l (callsIn_wide.2 hc)).mono ?_⟩
          rintro e w'' ⟨rfl, hw''⟩
          exact h _ _ hw'' hK
        | _ => exact False.elim hq
    · rename_i hw
      simp only [hw] at hh
      exact ⟨fun _ _ => trivial, h _ _ hC hh⟩
theorem Head.anyIn {k g : Nat} {L : Array Bool → Act → Prop} {Q : Exit → Act → World → Prop} (hd : ∀ (i : Nat) (o : Oper), ops[i]? = some o → ∀ c, o.op ≠ .defer c) (hL : ∀ listed a w, C w → L listed a → wpAnyIn (Fence.wide.inRound l) n P md ops Q g listed a w) :
    ∀ (f : Nat) (listed : Array Bool) (a : Act) (w : World), C w → Head P md ops C k L f listed a → wpAnyIn (Fence.wide.inRound l) n P md ops Q (f + g) listed a w := by
  intro f
  induction f with
  | zero => intro listed a w hw h; rw [Nat.zero_add]; exact hL _ _ _ hw h
  | succ f ih =>
    intro listed a w hw h
    have e : f + 1 + g = (f + g) + 1 := by omega
    rw [e]
    exact ⟨fun h0 => absurd h0 h.1, fun i hi => wpOpIn_of_qOp (hd i) hw (fun a' w' hw' h' => ih _ a' w' hw' h') (h.2 i hi).2⟩
theorem wpAnyIn_of_seq {F : Fence} {Q' : Exit → Act → World → Prop} : ∀ (l : List Oper) (k : Nat) (listed : Array Bool) (a : Act) (w : World), (∀ j, l[j]? = ops[k + j]?) →
    Region.seqB md ops l.length k listed = true → wpListIn F n P ops Q' l a w → wpAnyIn F n P md ops Q' l.length listed a w
  | [], _, _, _, _, _, hB, h => ⟨by simpa [Region.seqB] using hB, h⟩
  | o :: l, k, listed, a, w, hl, hB, h => by
    have h0 : ops[k]? = some o := by simpa using (hl 0).symm
    simp only [List.length_cons, Region.seqB, Bool.and_eq_true, decide_eq_true_eq] at hB
    refine ⟨fun h1 => (by rw [hB.1] at h1; cases h1), fun i hi => ?_⟩
    rw [hB.1] at hi
    have hik : i = k := by simpa using hi
    subst hik
    have hw : wpOpIn F n P ops Q' i (wpListIn F n P ops Q' l) a w := by unfold wpOpIn; simp only [h0]; exact h
    exact wpOpIn_mono (fun a' w' h' => wpAnyIn_of_seq l (i + 1) _ a' w' (fun j => by have := hl (j + 1); simpa [Nat.add_assoc, Nat.add_comm 1 j] using this) hB.2 h') hw
theorem wpIn_region_tail {id : Nat} {Q : Exit → Act → World → Prop} {a : Act} {w : World} {ls : List Oper} (C : World → Prop) (k : Nat) (hm : P.follows .mixedOrders = true) (hd : ls.all (fun o => match o.op with | .defer _ => false | _ => true) = true) (hB : Region.lexTailB .any ls.toArray k = true)
    (hC : C { w with drawn := w.drawn + 1 })
    (h : wpQuiet P ls.toArray C (fun a' => ∀ w', C w' → wpListIn (Fence.wide.inRound l) n P ls.toArray Q (ls.drop k) a' w') (ls.take k) a) : (Code.region id ls.toArray true).wpIn (Fence.wide.inRound l) n P Q a w := by
  simp only [Region.lexTailB, Bool.and_eq_true, decide_eq_true_eq] at hB
  obtain ⟨⟨⟨⟨hsel, hn⟩, hs⟩, hc⟩, hlex⟩ := hB
  have hdf : ∀ (i : Nat) (o : Oper), ls.toArray[i]? = some o → ∀ c, o.op ≠ .defer c := fun i o ho c e => by
    have := List.all_eq_true.1 hd o (by rw [List.getElem?_toArray] at ho; exact List.mem_of_getElem? ho)
    rw [e] at this; cases this
  have htl : (ls.take k).length = k := by simp at hn ⊢; omega
  have hdl : (ls.drop k).length = ls.toArray.size - k := by simp
  have inv0 : HeadInv .any ls.toArray k (Array.replicate ls.toArray.size false) :=
    ⟨by simp, fun j oj _ hl => (by rw [getD_replicate_false] at hl; cases hl), fun t _ ht => getD_in (by simpa using ht) (getD_replicate_false _ _)⟩
  have H := Head.lex (md := .any) (g := ls.toArray.size - k) hsel hs hc hn (ls.take k) 0 _ a (fun j hj => by
    have hj' : j < k := by rw [htl] at hj; exact hj
    simp [hj']) (by simpa using htl) inv0 (by rw [htl]; exact hlex) h
  refine wpIn_region_any hm ?_
  have K := Head.anyIn (l := l) (n := n) (Q := Q) (g := ls.toArray.size - k) hdf (fun listed a' w' hw' hL => by
    have := wpAnyIn_of_seq (md := .any) (Q' := Q) (ls.drop k) k listed a' w' (fun j => by simp [List.getElem?_drop]) (by rw [hdl]; exact hL.1) (hL.2 w' hw')
    rwa [hdl] at this) _ _ _ _ hC H
  rw [htl, show k + (ls.toArray.size - k) = ls.toArray.size by omega] at K
  exact K
end Go.QTail
namespace Go.QuietCalls
open Go.RowKit Go.Sort
/-- The first k operations quiet, or calls that leave all that was there. -/
theorem tailIn {P : Program} {id n r : Nat} {Q : Exit → Act → World → Prop} {a : Act} {w : World} {l : List Oper} (k : Nat) (hm : P.follows .mixedOrders = true) (hd : l.all (fun o => match o.op with | .defer _ => false | _ => true) = true) (hB : Region.lexTailB .any l.toArray k = true)
    (h : wpQuiet P l.toArray (fun w' => ∃ p : Regrown, w' = grow (redrawn w p.d) p.os) (fun a' => ∀ w', Below w.heap.size w w' → wpListIn (Fence.wide.inRound r) n P l.toArray Q (l.drop k) a' w') (l.take k) a) : (Code.region id l.toArray true).wpIn (Fence.wide.inRound r) n P Q a w := by
  have e : (fun a' : Act => ∀ w', Below w.heap.size w w' → wpListIn (Fence.wide.inRound r) n P l.toArray Q (l.drop k) a' w') = (fun a' : Act => ∀ w', (∃ p : Regrown, w' = grow (redrawn w p.d) p.os) → wpListIn (Fence.wide.inRound r) n P l.toArray Q (l.drop k) a' w') := by
    funext a'
    apply propext
    constructor
    · rintro h w' ⟨p, rfl⟩; exact h _ (below_regrown _ _ _)
    · intro h w' k; exact h _ (regrown_of_below k)
  rw [e] at h
  exact QTail.wpIn_region_tail _ k hm hd hB ⟨⟨w.drawn + 1, #[]⟩, by rw [grow_empty]; rfl⟩ h
end Go.QuietCalls
