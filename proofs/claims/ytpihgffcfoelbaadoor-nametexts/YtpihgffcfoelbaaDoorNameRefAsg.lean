/- Contract: the document's Assign. -/
import Derived.Test.YtpihgffcfoelbaaDoorNameRef
namespace Go.Names
theorem nth_zero (own : Bs) : nth own 0 = own := rfl
end Go.Names
namespace Go.Proofs.YtpihgffcfoelbaaDoor
open Go.RowKit Go.Names
/-- A row of texts of one's own. -/
structure Ar (W : World) (vo : Value) (outs : List Bs) (w : World) : Prop where
  own : w.ownsRow W.heap.size 9 1 vo outs.length (strV outs)
  below : Below W.heap.size W w
theorem Ar.step {W w w' : World} {vo : Value} {outs : List Bs} (h : Ar W vo outs w) (k : Below w.heap.size w w') : Ar W vo outs w' := by
  refine ⟨own_stays h.own (fun j hj => ?_), h.below.trans (k.mono h.below.size)⟩
  obtain ⟨_, cur, z, hc⟩ := own_at h.own hj
  exact k.block j (lt_of_block hc)
theorem strs_txts (outs : List Bs) : txts (outs.map fun x => (⟨x.toArray⟩ : ByteArray)) = outs := by
  unfold txts
  rw [List.map_map]
  conv => rhs; rw [← List.map_id outs]
  exact List.map_congr_left fun x _ => rfl
theorem Ar.reads {W w : World} {vo : Value} {outs : List Bs} (h : Ar W vo outs w) : StrRow.Reads w vo (outs.map fun x => (⟨x.toArray⟩ : ByteArray)) := by
  refine StrRow.Reads.of_own (base := W.heap.size) (e := 9) (n := outs.length) ?_
  have := h.own
  unfold strV at this
  rw [List.map_map]
  exact this
theorem Ar.append {W w : World} {a0 : Option Addr} {n0 c0 : Nat} {outs : List Bs} (h : Ar W (.slice a0 n0 c0) outs w) (x : Bs) (hlen : outs.length ≤ 1000)
    {ops : Array Oper} {rest : List Oper} {o : Oper} {a : Act} {Q : Exit → Act → World → Prop} (hg : o.guard = none) (s y : Operand)
    (ho : o.op = .call { callee := .builtin .append, args := #[s, y], argTypes := #[27, 27] }) (hs : a.eval s = .slice a0 n0 c0) (hy : a.eval y = .slice (some ⟨w.heap.size, 0, none⟩) 1 1) {tt : TypeId} {u : Value} (hu : u = .string ⟨x.toArray⟩)
    (k : ∀ a1 c1 w1, Ar W (.slice a1 (outs.length + 1) c1) (outs ++ [x]) w1 → wpList Tryd.prog ops Q rest (a.put o.dst (.slice a1 (outs.length + 1) c1)) w1) : wpList Tryd.prog ops Q (o :: rest) a (w.alloc (.cells #[u] tt)) := by
  subst hu
  obtain ⟨i9, hi9, hz0, hz1, hz2⟩ := info_parts nInfo9
  have hsz := h.below.size
  refine wpList_append_own _ hg s y 27 ho W.heap.size 9 i9 (.string ⟨#[]⟩) 1 16 nUnderS hi9 hz0 hz1 hz2 rfl (by decide) _ _ _ hs (h.own.alloc _) ⟨w.heap.size, 0, none⟩ 1 1 [.string ⟨x.toArray⟩] hy rfl (cell_new _ _ _) (fun u hu => by simp at hu; subst hu; rfl) (by unfold maxLen; omega) (by omega) (by simp; omega) ?_
  intro v' w1 hown hgrow _
  obtain ⟨a1, c1, rfl⟩ := own_slice hown
  refine k a1 c1 w1 ⟨?_, (h.below.alloc hsz _).grown hgrow (by simp; omega) fun j e => (own_at h.own e).1⟩
  rw [List.length_append]
  unfold strV at hown ⊢
  rw [List.map_append]
  exact hown
theorem used_is (outs : List Bs) (s : ByteArray) : usedB (outs.map fun x => (⟨x.toArray⟩ : ByteArray)) s = decide (fold s.data.toList ∈ outs.map fold) := by
  unfold usedB
  rw [strs_txts]
set_option maxRecDepth 100000 in
set_option maxHeartbeats 2000000 in
theorem rassign_any (v : Value) (xs : List ByteArray) (W : World) (hr : StrRow.Reads W v xs) (hl : xs.length ≤ 130) (hs : ∀ x ∈ xs, x.size ≤ 1000000) :
    Calls Tryd.prog 20 #[v] W fun e w' => ∃ a c, e = .returned (.slice a xs.length c) ∧ w'.ownsRow W.heap.size 9 1 (.slice a xs.length c) xs.length (strV (asg (txts xs))) ∧ Below W.heap.size W w' := by
  obtain ⟨va, vc, rfl⟩ := hr.form
  have hnl := hide (show (txts xs).length = xs.length from List.length_map _)
  have HS := hide hs
  have HG := hide hr
  clear hr hs
  go_enter Tryd.func20, Tryd.ntmps20
  go_wp2
  go_loopw [3, 4] (fun vo vi wr => ∃ (i : Nat) (oa : Option Addr) (oc : Nat), i ≤ xs.length ∧ vo = .slice oa i oc ∧ vi = .int .i64 i ∧ Hid (Ar W (.slice oa i oc) (asg ((txts xs).take i)) wr)) (fun _ vi _ => 1000 - (intOf vi).toNat)
  case atStart => exact ⟨0, _, _, Nat.zero_le _, rfl, rfl, World.ownsRow_made W #[] 0 (Nat.le_refl _) (Nat.zero_le _) rfl, (Below.refl _ W).alloc (Nat.le_refl _) _⟩
  case round =>
    obtain ⟨i, oa, oc, hi, rfl, rfl, HH⟩ := hrel
    by_cases hlt : i < xs.length
    · have hlt' : (i : Int) < xs.length := by omega
      obtain ⟨nm, hgi⟩ : ∃ g, xs[i]? = some g := ⟨_, List.getElem?_eq_getElem hlt⟩
      have hns := HS.out _ (List.mem_of_getElem? hgi)
      have hti : (txts xs)[i]? = some nm.data.toList := by unfold txts; rw [List.getElem?_map, hgi]; rfl
      have hnext := hide (asg_take_succ (txts xs) hti)
      have hR2 := HG.out.below HH.out.below (Nat.le_refl _)
      obtain ⟨b, off, cp, hvv, hcp, hb⟩ := hR2.at (fun e => by subst e; simp at hlt)
      cases hvv
      have hcell := hR2.cell hgi
      have hcp' : (xs.length : Int) ≤ vc := by omega
      clear hR2 hb hti
      have hLn : Hid ((asg ((txts xs).take i)).length = i) := by
        show _ = _
        rw [asg_length, List.length_take, hnl.out]
        omega
      have hLg := hide (asg_legal ((txts xs).take i) (by rw [List.length_take, hnl.out]; omega))
      generalize asg ((txts xs).take i) = outs at HH hnext hLn hLg
      obtain ⟨X, hX⟩ : ∃ X : ByteArray, X = ⟨(fix nm.data.toList).toArray⟩ := ⟨_, rfl⟩
      have hXd : fix nm.data.toList = X.data.toList := by rw [hX]
      have hXs : X.size ≤ 32 := by rw [hX, ba_size]; exact (fix_length _).2
      have HF := hide (fun w1 => rfix_any nm w1 hns)
      rw [← hX] at HF
      rw [hXd] at hnext
      have hTl : (outs.map fold).length ≤ 130 := by rw [List.length_map, hLn.out]; omega
      have hpl := pickN_le (outs.map fold) X.data.toList
      have hps := hide (pickN_spec (outs.map fold) X.data.toList)
      have hpk : Hid (pick (outs.map fold) X.data.toList = nth X.data.toList (pickN (outs.map fold) X.data.toList)) := rfl
      generalize pickN (outs.map fold) X.data.toList = p at hpl hps hpk
      have hp : p ≤ 131 := by omega
      have hos : Hid (∀ x ∈ outs.map (fun x => (⟨x.toArray⟩ : ByteArray)), x.size ≤ 1000) := by
        intro x hx
        obtain ⟨y, hy, rfl⟩ := List.mem_map.1 hx
        have := hLg.out y hy
        simp only [legal, Bool.and_eq_true, decide_eq_true_eq] at this
        rw [ba_size]
        omega
      clear hX hXd hgi HG hTl hpl hLg
      go_wp2_with (go_at_call 16; refine (HF.out _).mono ?_; rintro e w1 ⟨rfl, k1⟩
                   have H1 := hide (HH.out.step k1)
                   clear k1 HH)
      go_loopw [5, 7] (fun vs vn wr => ∃ (n : Nat) (S : ByteArray), 1 ≤ n ∧ n ≤ p + 1 ∧ S.size ≤ 32 ∧ vs = .string S ∧ vn = .int .i64 n ∧ Hid (S.data.toList = nth X.data.toList (n - 1) ∧ Ar W (.slice oa i oc) outs wr)) (fun _ vn _ => 1000 - (intOf vn).toNat)
      case atStart => exact ⟨1, X, Nat.le_refl _, by omega, hXs, rfl, rfl, rfl, H1.out⟩
      case round =>
        clear H1
        obtain ⟨n, S, hn1, hn2, hSs, rfl, rfl, HI⟩ := hrel
        have HU := hide (rused_any _ _ S _ HI.out.2.reads hos.out (by omega) (by rw [List.length_map, hLn.out]; omega))
        rw [used_is] at HU
        by_cases hnp : n = p + 1
        · have hno : decide (fold S.data.toList ∈ outs.map fold) = false := by
            rw [decide_eq_false_iff_not, HI.out.1, hnp]
            exact hps.out.1
          rw [hno] at HU
          have hSe : Hid (S = ⟨(pick (outs.map fold) X.data.toList).toArray⟩) := by
            show _ = _
            apply ByteArray.ext
            rw [← Array.toList_inj, HI.out.1, hpk.out, hnp]
            rfl
          clear hno
          go_wp2_with (first
            | (go_at_call 27; refine HU.out.mono ?_; rintro e w2 ⟨rfl, k2⟩
               have H2 := hide (HI.out.2.step k2)
               clear k2 HU)
            | (at_builtin; refine H2.out.append (pick (outs.map fold) X.data.toList) (by rw [hLn.out]; omega) rfl _ _ rfl rfl rfl (by rw [← hSe.out]) ?_
               intro a1 c1 w3 h3
               have H3 := hide h3
               clear h3))
          go_roundw
          case rel =>
            refine ⟨i + 1, a1, c1, by omega, by rw [hLn.out], by go_num, ?_⟩
            show Ar _ _ _ _
            rw [hnext.out]
            have := H3.out
            rw [hLn.out] at this
            exact this
          case measure => simp [intOf]; omega
        · have hyes : decide (fold S.data.toList ∈ outs.map fold) = true := by
            rw [decide_eq_true_iff, HI.out.1]
            exact hps.out.2 (n - 1) (by omega)
          rw [hyes] at HU
          clear hyes
          obtain ⟨D, hD⟩ : ∃ D : ByteArray, D = ⟨(dig n).toArray⟩ := ⟨_, rfl⟩
          have hDn : D.size = nd n := by rw [hD, ba_size, dig_length]
          have hDs : D.size ≤ 3 := by rw [hDn]; exact nd_le n (by omega)
          have HDg := hide (fun w1 => rdigits_any n w1 (by omega))
          rw [← hD] at HDg
          have hEs : (⟨#[126]⟩ ++ D : ByteArray).size = 1 + D.size := by rw [ByteArray.size_append]; rfl
          have hcand : ∀ Z : ByteArray, Z.data.toList = X.data.toList.take (31 - D.size) → (Z ++ (⟨#[126]⟩ ++ D)).data.toList = cand X.data.toList n := fun Z hZ => by
            rw [ByteArray.data_append, ByteArray.data_append, hD, Array.toList_append, hZ, hDn]
            unfold cand
            simp
          have hnth : nth X.data.toList (n + 1 - 1) = cand X.data.toList n := by rw [Nat.add_sub_cancel, nth_pos _ hn1]
          have hZs : ∀ Z : ByteArray, Z.data.toList = X.data.toList.take (31 - D.size) → (Z ++ (⟨#[126]⟩ ++ D)).size ≤ 32 := fun Z hZ => by
            have h1 : Z.size = (X.data.toList.take (31 - D.size)).length := by rw [← hZ]; simp
            rw [ByteArray.size_append, hEs, h1, List.length_take]
            omega
          replace hcand := hide (And.intro hcand (And.intro hnth hZs))
          clear hnth hZs hD hDn
          replace hEs := hide hEs
          by_cases hcut : 31 - D.size < X.size
          · have hc1 : (32 : Int) - (1 + D.size) < X.size := by omega
            go_wp2_with (first
              | (go_at_call 27; refine HU.out.mono ?_; rintro e w2 ⟨rfl, k2⟩
                 have H2 := hide (HI.out.2.step k2)
                 clear k2 HU)
              | (go_at_call 28; refine (HDg.out _).mono ?_; rintro e w3 ⟨rfl, k3⟩
                 have H3 := hide (H2.out.step k3)
                 clear k3 H2))
            go_roundw
            case rel =>
              have hZ : (X.extract 0 (32 - (1 + D.size))).data.toList = X.data.toList.take (31 - D.size) := by rw [cut_data, show 32 - (1 + D.size) = 31 - D.size by omega]
              exact ⟨n + 1, _, by omega, by omega, hcand.out.2.2 _ hZ, rfl, by go_num, by rw [hcand.out.1 _ hZ, hcand.out.2.1], H3.out⟩
            case measure => simp [intOf]; omega
          · have hc1 : ¬ (32 : Int) - (1 + D.size) < X.size := by omega
            go_wp2_with (first
              | (go_at_call 27; refine HU.out.mono ?_; rintro e w2 ⟨rfl, k2⟩
                 have H2 := hide (HI.out.2.step k2)
                 clear k2 HU)
              | (go_at_call 28; refine (HDg.out _).mono ?_; rintro e w3 ⟨rfl, k3⟩
                 have H3 := hide (H2.out.step k3)
                 clear k3 H2))
            go_roundw
            case rel =>
              have hZ : X.data.toList = X.data.toList.take (31 - D.size) := by rw [List.take_of_length_le (by simp; omega)]
              exact ⟨n + 1, _, by omega, by omega, hcand.out.2.2 _ hZ, rfl, by go_num, by rw [hcand.out.1 _ hZ, hcand.out.2.1], H3.out⟩
            case measure => simp [intOf]; omega
    · have hlt' : ¬ (i : Int) < xs.length := by omega
      have hig : i = xs.length := by omega
      subst hig
      go_wp2
      go_ret
      have h9 := HH.out
      rw [List.take_of_length_le (by rw [hnl.out]; exact Nat.le_refl _)] at h9
      have h8 := h9.own
      rw [asg_length, hnl.out] at h8
      exact ⟨_, _, rfl, h8, h9.below⟩
end Go.Proofs.YtpihgffcfoelbaaDoor
