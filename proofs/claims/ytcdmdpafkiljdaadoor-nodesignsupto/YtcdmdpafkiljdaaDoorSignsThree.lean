/- Several texts in one: NodeSignsAll. -/
import Derived.Test.YtcdmdpafkiljdaaDoorSignsTwo
/- The walk of NodeSigns, all cases. -/
namespace Go.Nod
open Go.RowKit Go.Wire Go.Opn
theorem chk_tag (n : Nd) (s t : ByteArray) (hs : s.size = 32) (ht : t.size = 32) : (Nd.mk n.au n.ps n.op s).chk = (Nd.mk n.au n.ps n.op t).chk := by
  unfold Nd.chk
  dsimp only
  rw [hs, ht]
theorem Nd.Good.tagged {n : Nd} (h : n.Good) (t : ByteArray) (ht : t.size = 32) : (Nd.mk n.au n.ps n.op t).Good := ⟨h.rise, ht, h.ok, h.good, h.who⟩
theorem sgTag_size : sgTag.size = 32 := rfl
theorem tag_beq (k s t : ByteArray) : ((tagOf k s).toList == t.toList) = decide (t.data.toList = Sha.tag k.data.toList s.data.toList) := by
  have e : (tagOf k s).data.toList = Sha.tag k.data.toList s.data.toList := by simp [tagOf]
  rw [Bool.eq_iff_iff, beq_iff_eq, decide_eq_true_eq, toList_iff, ← e]
  constructor
  · intro h; rw [h]
  · intro h; exact (ext_list h).symm
end Go.Nod
namespace Go.Proofs.YtcdmdpafkiljdaaDoor
open Go.RowKit Go.Wire Go.Stamp Go.Opn Go.Nod
theorem sg_keys (K : Nat) : ∀ k ∈ Mac.keysOf sgSeed K, k.size ≤ 1000000 := fun k hk => by
  simp only [Mac.keysOf, List.mem_map] at hk
  obtain ⟨i, _, rfl⟩ := hk
  rw [Mac.keyOf_size]; decide
theorem nodeSigns_any (n : Nd) (pv : Value) (m : Nd) (pw : Value) (key : Int) (w : World) (hR : StrRow.Reads w pv n.ps) (hn : n.ps.length ≤ maxLen) (hx : ∀ x ∈ n.ps, x.size ≤ maxLen) (hf : n.op.Fits) (_ : -9223372036854775808 ≤ n.au ∧ n.au ≤ 9223372036854775807) (hR' : StrRow.Reads w pw m.ps) (hn' : m.ps.length ≤ maxLen) (hx' : ∀ x ∈ m.ps, x.size ≤ maxLen) (hf' : m.op.Fits) (_ : -9223372036854775808 ≤ m.au ∧ m.au ≤ 9223372036854775807)
    (hname : n.op.name.size ≤ 2000000) (hps : n.ps.length ≤ 2000000) (hst : Steps w) :
    Calls Tryd.prog 3 #[n.v pv, m.v pw, .int .i64 key] w fun e w' => e = .returned (.bool true) ∧ Below w.heap.size w w' := by
  obtain ⟨K, hK, hkey⟩ := Wire.and_small key 15 (by decide)
  obtain ⟨qa, qc, rfl⟩ := hR.form
  obtain ⟨ra, rc, rfl⟩ := hR'.form
  obtain ⟨D, hD, HHD⟩ := nodeHash_all n hf hname hps
  have hc := hf.tm.1
  by_cases ho : n.au < 0 ∨ (K : Int) ≤ n.au
  · refine nodeSigns_core n m Nd.zero _ qa qc key K 2 w hK hkey hR hn hx hc (fun v w' kb hv => ?_) hst (.inl ⟨ho, rfl, rfl⟩)
    exact (nodeSign_out n v _ (Mac.keysOf sgSeed K) D w' (fun w2 k2 => HHD _ w2 ((hR.below kb (Nat.le_refl _)).below k2 (Nat.le_refl _)) ((hst.below kb hst.pos).below k2 (hst.below kb hst.pos).pos)) hv (by rw [Mac.keysOf_length]; exact ho)).mono fun _ _ ⟨h1, h2⟩ => ⟨_, h1, World.ownsRow_nil _ _ _ _, h2⟩
  · have hau : 0 ≤ n.au ∧ n.au < K := by omega
    have hi : (Mac.keysOf sgSeed K)[n.au.toNat]? = some (Mac.keyOf sgSeed n.au.toNat) := Mac.keysOf_at _ _ _ (by omega)
    by_cases hC : (Nd.mk n.au n.ps n.op sgTag).chk = 0
    · have hgs := Nd.chk_zero hC
      have hsig : n.Sig := ⟨hgs.sig.au, hgs.sig.few, hgs.sig.all, hgs.sig.ok, hgs.sig.good⟩
      obtain ⟨T, hT⟩ : ∃ T, T = tagOf (Mac.keyOf sgSeed n.au.toNat) (tagD n.body) := ⟨_, rfl⟩
      have hTz : T.size = 32 := by rw [hT]; exact tagOf_size _ _
      have hgT : (Nd.mk n.au n.ps n.op T).Good := hgs.tagged T hTz
      have hrT : (Nd.mk n.au n.ps n.op T).right (Mac.keysOf sgSeed K) = true := by
        rw [Nd.right_some (n := Nd.mk n.au n.ps n.op T) hi]
        refine decide_eq_true ?_
        show T.data.toList = Sha.tag _ (tagD n.body).data.toList
        rw [hT]
        simp [tagOf]
      have hrA : (Nd.mk n.au n.ps n.op T).right (Mac.keysOf sgSeed n.au.toNat) = false := Nd.right_none (n := Nd.mk n.au n.ps n.op T) (List.getElem?_eq_none_iff.2 (by rw [Mac.keysOf_length]; exact Nat.le_refl _))
      have few := hgs.few
      obtain ⟨RM, hRM, HGM⟩ : ∃ RM : Bool, ((Nd.mk m.au m.ps m.op T).chk = 0 → RM = (Nd.mk m.au m.ps m.op T).right (Mac.keysOf sgSeed K)) ∧ ((Nd.mk m.au m.ps m.op T).chk ≠ 0 → RM = false) := ⟨if (Nd.mk m.au m.ps m.op T).chk = 0 then (Nd.mk m.au m.ps m.op T).right (Mac.keysOf sgSeed K) else false, fun h => if_pos h, fun h => if_neg h⟩
      have stp : ∀ {w'}, Below w.heap.size w w' → Steps w' := fun kb => hst.below kb hst.pos
      refine nodeSigns_ok n m T ra qa rc qc key K RM w hK hkey hau (fun v w' kb hv => ?_) (fun w' kb => ?_) (fun w' kb => ?_) (fun w' kb => awake11_any w' (stp kb)) (fun w' kb => ring11_any sgSeed K w' (by omega) (by decide) (stp kb)) (fun w' kb => ?_) (fun w' kb => ?_) (fun w' kb => ?_) (fun v px w' kb hv hr => ?_) (fun v px w' kb hv hr => ?_) (fun v w' kb hv => ?_) ?_
      · exact nodeSign_own n v _ (Mac.keysOf sgSeed K) (Mac.keyOf sgSeed n.au.toNat) (tagD n.body) T w' (fun w2 k2 => nodeHash_any n _ w2 ((hR.below kb (Nat.le_refl _)).below k2 (Nat.le_refl _)) hsig ((stp kb).below k2 (stp kb).pos)) (by rw [tagD_size]; decide) hv (stp kb) hi (by rw [Mac.keyOf_size]; decide) hT.symm (hR.below kb (Nat.le_refl _)) hgT
      · have := ref11_any (Nd.mk n.au n.ps n.op sgTag) _ w' (hR.below kb (Nat.le_refl _)) hn
        rw [sg_cut hR few] at this
        dsimp only at this
        rwa [sg_take few] at this
      · have := rcheck11_any (Nd.mk n.au n.ps n.op sgTag) _ w' (hR.below kb (Nat.le_refl _)) hn hx hc
        rwa [hC] at this
      · have := ring11_any sgSeed n.au.toNat w' (by omega) (by decide) (stp kb)
        rwa [show ((n.au.toNat : Nat) : Int) = n.au by omega] at this
      · have := ref11_any n _ w' (hR.below kb (Nat.le_refl _)) hn
        rw [sg_cut hR few, sg_take few] at this
        exact this
      · have := rnodeTag_any sgSeed n _ w' (by decide) (hR.below kb (Nat.le_refl _)) hsig
        rwa [← hT] at this
      · have := nodeGood_ok (Nd.mk n.au n.ps n.op T) v px (Mac.keysOf sgSeed K) w' hr hv (sg_keys K) hgT (stp kb)
        rwa [hrT] at this
      · have := nodeGood_ok (Nd.mk n.au n.ps n.op T) v px (Mac.keysOf sgSeed n.au.toNat) w' hr hv (sg_keys _) hgT (stp kb)
        rwa [hrA] at this
      · by_cases hCm : (Nd.mk m.au m.ps m.op T).chk = 0
        · rw [hRM hCm]
          exact nodeGood_ok (Nd.mk m.au m.ps m.op T) v _ (Mac.keysOf sgSeed K) w' (hR'.below kb (Nat.le_refl _)) hv (sg_keys K) (Nd.chk_zero hCm) (stp kb)
        · rw [HGM hCm]
          exact nodeGood_no (Nd.mk m.au m.ps m.op T) v _ w' (hR'.below kb (Nat.le_refl _)) hn' hx' hCm
      · by_cases hCm : (Nd.mk m.au m.ps m.op T).chk = 0
        · have hgm := Nd.chk_zero hCm
          have fewm : m.ps.length ≤ 8 := hgm.few
          refine .inr ⟨fun w' kb => ?_, fun w' kb => ?_, hgm.au.1, ?_⟩
          · have := ref11_any (Nd.mk m.au m.ps m.op T) _ w' (hR'.below kb (Nat.le_refl _)) hn'
            rw [sg_cut hR' fewm] at this
            dsimp only at this
            rwa [sg_take fewm] at this
          · have := rcheck11_any (Nd.mk m.au m.ps m.op T) _ w' (hR'.below kb (Nat.le_refl _)) hn' hx' hf'.tm.1
            rwa [hCm] at this
          · have h0 := hgm.au
            dsimp only at h0
            by_cases hm : m.au < K
            · refine .inr ⟨hm, tagOf (Mac.keyOf sgSeed m.au.toNat) (tagD (Nd.mk m.au m.ps m.op T).body), fun w' kb => rnodeTag_any sgSeed (Nd.mk m.au m.ps m.op T) _ w' (by decide) (hR'.below kb (Nat.le_refl _)) hgm.sig, ?_⟩
              have hm2 : (Mac.keysOf sgSeed K)[(Nd.mk m.au m.ps m.op T).au.toNat]? = some (Mac.keyOf sgSeed m.au.toNat) := Mac.keysOf_at _ _ _ (by show m.au.toNat < K; omega)
              rw [hRM hCm, Nd.right_some hm2, tag_beq]
            · refine .inl ⟨by omega, ?_⟩
              rw [hRM hCm]
              exact Nd.right_none (n := Nd.mk m.au m.ps m.op T) (List.getElem?_eq_none_iff.2 (by rw [Mac.keysOf_length]; show K ≤ m.au.toNat; omega))
        · refine .inl ⟨(Nd.mk m.au m.ps m.op T).chk, _, beq_eq_false_iff_ne.2 hCm, HGM hCm, fun w' kb => ref11_any (Nd.mk m.au m.ps m.op T) _ w' (hR'.below kb (Nat.le_refl _)) hn', fun w' kb => ?_⟩
          have := rcheck11_any (Nd.mk m.au (m.ps.take 9) m.op T) (cut9 (.slice ra m.ps.length rc)) w' (cut9_reads (hR'.below kb (Nat.le_refl _))) (by show (m.ps.take 9).length ≤ _; rw [List.length_take]; unfold maxLen; omega) (fun x hm => hx' x (List.mem_of_mem_take hm)) hf'.tm.1
          rwa [chk_cut9 (Nd.mk m.au m.ps m.op T)] at this
    · have hTz := tagOf_size (Mac.keyOf sgSeed n.au.toNat) D
      have hCT : (Nd.mk n.au n.ps n.op (tagOf (Mac.keyOf sgSeed n.au.toNat) D)).chk = (Nd.mk n.au n.ps n.op sgTag).chk := chk_tag n _ _ hTz sgTag_size
      refine nodeSigns_core n m Nd.zero _ qa qc key K _ w hK hkey hR hn hx hc (fun v w' kb hv => ?_) hst (.inr ⟨ho, hC, rfl, rfl⟩)
      have := nodeSign_no n v _ (Mac.keysOf sgSeed K) (Mac.keyOf sgSeed n.au.toNat) D _ w' (fun w2 k2 => HHD _ w2 ((hR.below kb (Nat.le_refl _)).below k2 (Nat.le_refl _)) ((hst.below kb hst.pos).below k2 (hst.below kb hst.pos).pos)) (by rw [hD]; decide) hv (hst.below kb hst.pos) hau.1 hi (by rw [Mac.keyOf_size]; decide) rfl (hR.below kb (Nat.le_refl _)) hn hx (by rw [hCT]; exact hC)
      rw [hCT] at this
      exact this.mono fun _ _ ⟨h1, h2⟩ => ⟨_, h1, World.ownsRow_nil _ _ _ _, h2⟩
end Go.Proofs.YtcdmdpafkiljdaaDoor
