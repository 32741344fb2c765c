/- Several texts in one: NodeSignedAll. -/
import Derived.Test.YtcdmdpafkiljdaaDoorNodeOne
import Derived.Test.YtcdmdpafkiljdaaDoorNodePuts
import Derived.Test.YtcdmdpafkiljdaaDoorShaFour
/- Contracts: any node's bytes without its tag, and its digest, whether it may be or not; the program's. -/
namespace Go.Proofs.YtcdmdpafkiljdaaDoor
open Go.RowKit Go.Wire Go.Stamp Go.Opn Go.Nod
attribute [local go_sem] Oper.semAt_some
theorem wrap_nat (k : Int) : ∃ m : Nat, IntKind.u64.wrap k = m ∧ m < 18446744073709551616 := by
  refine ⟨(IntKind.u64.wrap k).toNat, ?_, ?_⟩ <;> rw [wrap_u64] <;> omega
theorem putOp_all (o : Ob) (hf : o.Fits) (hn : o.name.size ≤ 2000000) : ∃ P : List UInt8, P.length ≤ 2000200 ∧ ∀ (B : Nat) (v : Value) (l : List UInt8) (w : World), WAt 104 B v l w → l.length + 9000000 ≤ 140737488355328 → B ≤ w.heap.size →
    Calls Tryd.prog 49 #[v, o.v] w fun e w' => e = .returned (.tuple #[]) ∧ WAt 104 B v (l ++ P) w' ∧ Wrote B v w w' := by
  obtain ⟨f1, f2, f3, f4, f5, f6, f7⟩ := hf
  obtain ⟨t1, t2, t3, t4⟩ := f2
  obtain ⟨kd, ⟨c, k⟩, th, p, n, d, g, z⟩ := o
  dsimp only at f1 f3 f4 f7 t1 t2 hn
  obtain ⟨c, rfl⟩ : ∃ c' : Nat, c = c' := ⟨c.toNat, by omega⟩
  obtain ⟨th, rfl⟩ : ∃ c' : Nat, th = c' := ⟨th.toNat, by omega⟩
  obtain ⟨p, rfl⟩ : ∃ c' : Nat, p = c' := ⟨p.toNat, by omega⟩
  obtain ⟨kk, hkk, hk⟩ := wrap_nat k
  obtain ⟨Kd, hkd, hKD⟩ := wrap_nat kd
  have hnl : n.data.toList.length ≤ 2000000 := by rw [← size_list]; exact hn
  by_cases h1 : kd = 1
  · subst h1
    exact ⟨_, by simp only [List.length_append, num_length, List.length_singleton]; omega, fun B v l w h hl hB => putOp_mk c k kk th p n d g z B v l w (by omega) hkk hk (by omega) (by omega) hn f7.2 h hl hB⟩
  · by_cases h2 : kd = 2
    · subst h2
      exact ⟨_, by simp only [List.length_append, num_length]; omega, fun B v l w h hl hB => putOp_mv c k kk th p n d g z B v l w (by omega) hkk hk (by omega) (by omega) hn f7.2 h hl hB⟩
    · by_cases h4 : kd = 4
      · subst h4
        exact ⟨_, by simp only [List.length_append, num_length, pad_length]; omega, fun B v l w h hl hB => putOp_ct c k kk th p n d g z B v l w (by omega) hkk hk (by omega) (by omega) hn f7.2 h hl hB⟩
      · exact ⟨_, by simp only [List.length_append, num_length]; omega, fun B v l w h hl hB => putOp_el kd Kd c k kk th p n d g z B v l w hKD hkd h1 h2 h4 (by omega) hkk hk (by omega) (by omega) hn f7.2 h hl hB⟩
set_option maxRecDepth 100000 in
set_option maxHeartbeats 1000000 in
theorem signed_all (n : Nd) (hf : n.op.Fits) (hn : n.op.name.size ≤ 2000000) (hps : n.ps.length ≤ 2000000) : ∃ X : ByteArray, X.size ≤ 80000000 ∧ ∀ (pv : Value) (w : World), StrRow.Reads w pv n.ps →
    Calls Tryd.prog 28 #[n.v pv] w fun e w' => e = .returned (.string X) ∧ Below w.heap.size w w' := by
  obtain ⟨P, hP, HPut⟩ := putOp_all n.op hf hn
  obtain ⟨ai, ps, o, tg⟩ := n
  dsimp only at hps HPut
  obtain ⟨au, hw2, hau1⟩ := wrap_nat ai
  refine ⟨⟨(num 2 au ++ num 2 ps.length ++ (ps.map fun s => pad s.data.toList).flatten ++ P).toArray⟩, ?_, fun pv w hR => ?_⟩
  · rw [size_list]
    simp only [List.length_append, num_length]
    have := flat32 ps
    omega
  clear hf hn
  dsimp only at hR
  obtain ⟨a, c, rfl⟩ := hR.form
  obtain ⟨kd, ⟨tc, tk⟩, th, p, nm, d, g, z⟩ := o
  have HN : Hid (∀ (n : Nat) (L : List UInt8) (w1 : World), Sg 104 29 (w.heap.size + 1) w.heap.size ((Nd.mk ai ps ⟨kd, ⟨tc, tk⟩, th, p, nm, d, g, z⟩ tg).cs (.slice a ps.length c)) w L w1 → L.length ≤ 10 → n < 18446744073709551616 → Calls Tryd.prog 47 #[.pointer (some ⟨w.heap.size + 1, 0, none⟩), .int .u64 n, .int .i64 1] w1 fun e w' => e = .returned (.tuple #[]) ∧ Sg 104 29 (w.heap.size + 1) w.heap.size ((Nd.mk ai ps ⟨kd, ⟨tc, tk⟩, th, p, nm, d, g, z⟩ tg).cs (.slice a ps.length c)) w (L ++ num 2 n) w') := fun n L w1 j hL hn =>
    (wnumber_any _ _ L n 1 w1 j.hw (.inr (by omega)) j.hB hn).mono fun e w' ⟨a, b, c⟩ => ⟨a, j.step b c⟩
  have HH : Hid (∀ (x : ByteArray) (L : List UInt8) (w1 : World), Sg 104 29 (w.heap.size + 1) w.heap.size ((Nd.mk ai ps ⟨kd, ⟨tc, tk⟩, th, p, nm, d, g, z⟩ tg).cs (.slice a ps.length c)) w L w1 → L.length ≤ 70000000 → Calls Tryd.prog 48 #[.pointer (some ⟨w.heap.size + 1, 0, none⟩), .string x] w1 fun e w' => e = .returned (.tuple #[]) ∧ Sg 104 29 (w.heap.size + 1) w.heap.size ((Nd.mk ai ps ⟨kd, ⟨tc, tk⟩, th, p, nm, d, g, z⟩ tg).cs (.slice a ps.length c)) w (L ++ pad x.data.toList) w') := fun x L w1 j hL =>
    (whash_any _ _ L x w1 j.hw (.inr (by omega)) j.hB).mono fun e w' ⟨a, b, c⟩ => ⟨a, j.step b c⟩
  have HP : Hid (∀ (L : List UInt8) (w1 : World), Sg 104 29 (w.heap.size + 1) w.heap.size ((Nd.mk ai ps ⟨kd, ⟨tc, tk⟩, th, p, nm, d, g, z⟩ tg).cs (.slice a ps.length c)) w L w1 → L.length ≤ 70000000 → Calls Tryd.prog 49 #[.pointer (some ⟨w.heap.size + 1, 0, none⟩), (Ob.mk kd ⟨tc, tk⟩ th p nm d g z).v] w1 fun e w' => e = .returned (.tuple #[]) ∧ Sg 104 29 (w.heap.size + 1) w.heap.size ((Nd.mk ai ps ⟨kd, ⟨tc, tk⟩, th, p, nm, d, g, z⟩ tg).cs (.slice a ps.length c)) w (L ++ P) w') := fun L w1 j hL =>
    (HPut _ _ L w1 j.hw (by omega) j.hB).mono fun e w' ⟨a, b, c⟩ => ⟨a, j.step b c.below⟩
  have HA : Hid (∀ (L : List UInt8) (w1 : World), Sg 104 29 (w.heap.size + 1) w.heap.size ((Nd.mk ai ps ⟨kd, ⟨tc, tk⟩, th, p, nm, d, g, z⟩ tg).cs (.slice a ps.length c)) w L w1 → Calls Tryd.prog 50 #[.pointer (some ⟨w.heap.size + 1, 0, none⟩)] w1 fun e w' => e = .returned (.string ⟨L.toArray⟩) ∧ Below w.heap.size w w') := fun L w1 j =>
    (all_told _ _ _ w1 j.hB j.told).mono fun e w' ⟨h1, _, h3⟩ => ⟨h1, j.below.trans (h3.below.mono (Nat.le_succ _))⟩
  have HR : Hid (∀ (L : List UInt8) (w1 : World), Sg 104 29 (w.heap.size + 1) w.heap.size ((Nd.mk ai ps ⟨kd, ⟨tc, tk⟩, th, p, nm, d, g, z⟩ tg).cs (.slice a ps.length c)) w L w1 → StrRow.Reads w1 (.slice a ps.length c) ps) := fun L w1 j => hR.below j.below (Nat.le_refl _)
  clear hR HPut
  unfold Ob.v at HP
  dsimp only at HP
  have h8' : (ps.length : Int) ≤ 2000000 := by omega
  have hw1 : IntKind.u64.wrap (ps.length : Int) = ps.length := by rw [wrap_u64]; omega
  unfold Nd.v
  dsimp only [Nd.cs]
  go_enter Tryd.func28, Tryd.ntmps28
  go_wp2_with (first
    | (go_at_call 46; refine (newWriter_any _).mono ?_; rintro e w1 ⟨rfl, h1, k1⟩
       have I : Hid (Sg 104 29 (w.heap.size + 1) w.heap.size ((Nd.mk ai ps ⟨kd, ⟨tc, tk⟩, th, p, nm, d, g, z⟩ tg).cs (.slice a ps.length c)) w [] w1) := (by
         have h1 : Wr 104 (w.heap.size + 1) (w.heap.size + 1) [] w1 := (by simpa using h1)
         have s1 : w.heap.size + 1 ≤ w1.heap.size := (by simpa using k1.size)
         exact ⟨.inr ⟨_, rfl, h1⟩, kept_block (heap_alloc_new _ _) k1, below_alloc_call k1, s1, Nat.lt_succ_self _, Nat.le_succ _⟩)
       clear h1 k1; obtain ⟨c0, c1, c2, c3, c4, c5, c6, c7, c8, c9, c10, c11⟩ := cells12 I.out.box)
    | (go_at_call_of 47 (Value.int IntKind.u64 (au : Int)); refine (HN.out au _ _ I.out (by simp) hau1).mono ?_; rintro e w1 ⟨rfl, i⟩; replace I : Hid _ := i; clear i c0 c1 c2 c3 c4 c5 c6 c7 c8 c9 c10 c11; obtain ⟨c0, c1, c2, c3, c4, c5, c6, c7, c8, c9, c10, c11⟩ := cells12 I.out.box)
    | (go_at_call_of 47 (Value.int IntKind.u64 (ps.length : Int)); refine (HN.out ps.length _ _ I.out (by simp [num_length]) (by omega)).mono ?_; rintro e w1 ⟨rfl, i⟩; replace I : Hid _ := i; clear i c0 c1 c2 c3 c4 c5 c6 c7 c8 c9 c10 c11; obtain ⟨c0, c1, c2, c3, c4, c5, c6, c7, c8, c9, c10, c11⟩ := cells12 I.out.box))
  clear c0 c1 c2 c3 c4 c5 c6 c7 c8 c9 c10 c11
  go_loopw [21] (fun vi wr => ∃ i : Nat, i ≤ ps.length ∧ vi = .int .i64 i ∧ Hid (Sg 104 29 (w.heap.size + 1) w.heap.size ((Nd.mk ai ps ⟨kd, ⟨tc, tk⟩, th, p, nm, d, g, z⟩ tg).cs (.slice a ps.length c)) w (num 2 au ++ num 2 ps.length ++ ((ps.take i).map fun s => pad s.data.toList).flatten) wr)) (fun vi _ => 3000000 - (intOf vi).toNat)
  case atStart => exact ⟨0, Nat.zero_le _, rfl, by show Sg _ _ _ _ _ _ _ _; simpa using I.out⟩
  case round =>
    clear I
    obtain ⟨i, hi, rfl, I⟩ := hrel
    by_cases hlt : i < ps.length
    · have hlt' : (i : Int) < ps.length := by omega
      have hrd := HR.out _ _ I.out
      obtain ⟨b, off, cap, hv, hcap, hbl⟩ := hrd.at (by intro h; rw [h] at hlt; simp at hlt)
      simp only [Value.slice.injEq, true_and] at hv
      obtain ⟨rfl, rfl⟩ := hv
      obtain ⟨x, hx⟩ : ∃ x, ps[i]? = some x := ⟨_, List.getElem?_eq_getElem hlt⟩
      have hcell := hrd.cell hx
      have HT : Hid (((ps.take (i + 1)).map fun s => pad s.data.toList).flatten = ((ps.take i).map fun s => pad s.data.toList).flatten ++ pad x.data.toList) := by show _ = _; rw [List.take_add_one, hx]; simp
      have HC := hide (HH.out x _ _ I.out (by rw [List.length_append, List.length_append, num_length, num_length, flat32, List.length_take_of_le hi]; omega))
      clear hx hrd
      go_wp2_with (go_at_call 48; refine HC.out.mono ?_; rintro e w2 ⟨rfl, i2⟩; have I2 := hide i2; clear i2)
      go_roundw
      case rel => exact ⟨i + 1, by omega, by go_num, by rw [HT.out, ← List.append_assoc]; exact I2.out⟩
      case measure => simp [intOf]; omega
    · have hlt' : ¬ ((i : Int) < ps.length) := by omega
      have hin : i = ps.length := by omega
      subst hin
      rw [List.take_of_length_le (Nat.le_refl _)] at I
      have hfl := flat32 ps
      obtain ⟨c0, c1, c2, c3, c4, c5, c6, c7, c8, c9, c10, c11⟩ := cells12 I.out.box
      go_wp2_with (first
        | (go_at_call 49; refine (HP.out _ _ I.out (by simp only [List.length_append, num_length]; omega)).mono ?_; rintro e w2 ⟨rfl, i2⟩; have I2 := hide i2; clear i2)
        | (go_at_call 50; refine (HA.out _ _ I2.out).mono ?_; rintro e w3 ⟨rfl, k3⟩))
      go_ret
      exact ⟨rfl, k3⟩
set_option maxRecDepth 100000 in
set_option maxHeartbeats 1000000 in
theorem nodeHash_all (n : Nd) (hf : n.op.Fits) (hn : n.op.name.size ≤ 2000000) (hps : n.ps.length ≤ 2000000) : ∃ D : ByteArray, D.size = 32 ∧ ∀ (pv : Value) (w : World), StrRow.Reads w pv n.ps → Steps w →
    Calls Tryd.prog 15 #[n.v pv] w fun e w' => e = .returned (.string D) ∧ Below w.heap.size w w' := by
  obtain ⟨X, hX, HX⟩ := signed_all n hf hn hps
  refine ⟨tagD X.data.toList, by show (Sha.sum (Sha.parts 68 [X.data.toList])).toArray.size = 32; rw [List.size_toArray, Sha.sum_length], fun pv w hR hst => ?_⟩
  have HA : Hid (∀ w', Below w.heap.size w w' → Calls Tryd.prog 28 #[n.v pv] w' fun e w2 => e = .returned (.string X) ∧ Below w'.heap.size w' w2) := fun w' k => HX pv w' (hR.below k (Nat.le_refl _))
  have HT : Hid (∀ w, Steps w → Calls Tryd.prog 14 #[.int .u8 68, .slice (some ⟨w.heap.size, 0, none⟩) 1 1] (w.alloc (.cells #[.string X] 9)) fun e w' => e = .returned (.string (tagD X.data.toList)) ∧ Below (w.alloc (.cells #[.string X] 9)).heap.size (w.alloc (.cells #[.string X] 9)) w') := fun w h =>
    tagged_big 68 _ [X] _ (one_reads w X 9) (by simp) (fun s hs => by rw [List.mem_singleton.1 hs]; omega) (h.alloc _)
  clear HX hR hf hn hps hX
  generalize tagD X.data.toList = D at HT ⊢
  have HS : Hid (Steps w) := hst
  clear hst
  obtain ⟨au, ps, ⟨kd, ⟨c, k⟩, th, p, nm, d, g, z⟩, tg⟩ := n
  unfold Nd.v Nd.cs at HA ⊢
  dsimp only at HA ⊢
  go_enter Tryd.func15, Tryd.ntmps15
  go_wp2_with (first
    | (go_at_call 28; refine (HA.out _ ((Below.refl _ _).alloc (Nat.le_refl _) _)).mono ?_; rintro e w1 ⟨rfl, k1⟩)
    | (go_at_call 14; refine (HT.out w1 (HS.out.below (below_alloc_call k1) HS.out.pos)).mono ?_; rintro e w2 ⟨rfl, k2⟩))
  go_ret
  exact ⟨rfl, (below_alloc_call k1).trans ((below_alloc_call k2).mono (below_alloc_call k1).size)⟩
end Go.Proofs.YtcdmdpafkiljdaaDoor
