/- Several texts in one: ImageBefDoc, ImageAlike, ImageEqual. -/
import Derived.Test.YtmnenamdjkjlaaaGreatDoorRunAR
import Derived.Test.YtmnenamdjkjlaaaGreatDoorRunAT
import Derived.Test.YtmnenamdjkjlaaaGreatDoorRunAU
/- Contract: whether a path is ahead of another one, by the document. -/
namespace Go.Img
open Go.RowKit
theorem pts_parts : ∀ l : List UInt8, pts l = Names.parts l
  | [] => rfl
  | c :: l => by
    unfold pts Names.parts
    rw [pts_parts l]
    rfl
theorem ltB_iff : ∀ p q : List UInt8, ltB p q = decide (p < q)
  | [], [] => by simp [ltB]
  | [], _ :: _ => by simp [ltB]
  | _ :: _, [] => by simp [ltB]
  | a :: x, b :: y => by
    unfold ltB
    by_cases e : a = b
    · rw [if_pos e, ltB_iff x y, decide_eq_decide, e]
      simp
    · rw [if_neg e, decide_eq_decide, List.cons_lt_cons_iff]
      constructor
      · intro h; exact .inl h
      · rintro (h | ⟨h, _⟩)
        · exact h
        · exact absurd h e
theorem befP_app : ∀ (p x y : List (List UInt8)), befP (p ++ x) (p ++ y) = befP x y
  | [], _, _ => rfl
  | a :: p, x, y => by
    show (if a = a then befP (p ++ x) (p ++ y) else _) = _
    rw [if_pos rfl, befP_app p]
theorem befP_drop {x y : List (List UInt8)} {i : Nat} (h : x.take i = y.take i) : befP x y = befP (x.drop i) (y.drop i) := by
  conv => lhs; rw [← List.take_append_drop i x, ← List.take_append_drop i y]
  rw [h, befP_app]
theorem befP_in {x y : List (List UInt8)} {i : Nat} {p q : List UInt8} (h : x.take i = y.take i) (hx : x[i]? = some p) (hy : y[i]? = some q) (hne : p ≠ q) : befP x y = ltB p q := by
  rw [befP_drop h]
  obtain ⟨hl, rfl⟩ := List.getElem?_eq_some_iff.1 hx
  obtain ⟨hm, rfl⟩ := List.getElem?_eq_some_iff.1 hy
  rw [List.drop_eq_getElem_cons hl, List.drop_eq_getElem_cons hm]
  show (if x[i] = y[i] then _ else _) = _
  rw [if_neg hne]
theorem befP_end {x y : List (List UInt8)} {i : Nat} (h : x.take i = y.take i) (hx : i ≤ x.length) (hy : i ≤ y.length) (he : i = x.length ∨ i = y.length) : befP x y = decide (x.length < y.length) := by
  rw [befP_drop h]
  rcases he with e | e
  · subst e
    rw [List.drop_length]
    cases hd : y.drop x.length with
    | nil =>
      have := congrArg List.length hd
      rw [List.length_drop] at this
      simp at this
      rw [decide_eq_false (by omega)]
      rfl
    | cons c r =>
      have := congrArg List.length hd
      rw [List.length_drop] at this
      simp at this
      rw [decide_eq_true (by omega)]
      rfl
  · subst e
    rw [List.drop_length, decide_eq_false (by omega)]
    cases x.drop y.length <;> rfl
theorem take_same2 {a b : List (List UInt8)} {i : Nat} {c : List UInt8} (h : a.take i = b.take i) (ha : a[i]? = some c) (hb : b[i]? = some c) : a.take (i + 1) = b.take (i + 1) := by
  rw [List.take_add_one, List.take_add_one, h, ha, hb]
end Go.Img
namespace Go.Proofs.YtmnenamdjkjlaaaGreatDoor
open Go.RowKit Go.Img Go.Shelf Go.Rws Go.Names
open Go.Mov hiding fold
attribute [local go_sem] Oper.semAt_some
set_option maxHeartbeats 4000000 in
set_option maxRecDepth 100000 in
theorem rbefore15_any (a b : List UInt8) (w : World) (ha : a.length ≤ 400) (hb : b.length ≤ 400) :
    Calls Tryz.prog 18 #[.string ⟨a.toArray⟩, .string ⟨b.toArray⟩] w fun e w' => e = .returned (.bool (decide (cmpP a b < 0))) ∧ Below w.heap.size w w' := by
  have HE := hide (befP_cmp a b)
  obtain ⟨A, hA⟩ : ∃ A : ByteArray, A = ⟨a.toArray⟩ := ⟨_, rfl⟩
  obtain ⟨B, hB⟩ : ∃ B : ByteArray, B = ⟨b.toArray⟩ := ⟨_, rfl⟩
  have hAl : A.data.toList = a := by rw [hA]
  have hBl : B.data.toList = b := by rw [hB]
  have HA := hide (fun v => rparts_any A v (by rw [hA]; show a.toArray.size ≤ 500; simp; omega))
  have HB := hide (fun v => rparts_any B v (by rw [hB]; show b.toArray.size ≤ 500; simp; omega))
  rw [← hA, ← hB]
  rw [hAl] at HA
  rw [hBl] at HB
  rw [pts_parts, pts_parts] at HE
  have hx : (parts a).length ≤ 401 := Nat.le_trans (parts_length a) (by omega)
  have hy : (parts b).length ≤ 401 := Nat.le_trans (parts_length b) (by omega)
  obtain ⟨R, hR⟩ : ∃ R, R = decide (cmpP a b < 0) := ⟨_, rfl⟩
  rw [← hR] at HE ⊢
  obtain ⟨x, hxx⟩ : ∃ x, x = parts a := ⟨_, rfl⟩
  obtain ⟨y, hyy⟩ : ∃ y, y = parts b := ⟨_, rfl⟩
  rw [← hxx] at HA HE hx
  rw [← hyy] at HB HE hy
  clear hA hB hAl hBl hxx hyy hR
  go_enter Tryz.func18, Tryz.ntmps18
  go_wp2_with (first
    | (go_at_call 32; refine (HA.out _).mono ?_; rintro e w1 ⟨xa, xc, rfl, h1⟩; have H1 := hide h1; clear h1 HA)
    | (go_at_call 32; refine (HB.out _).mono ?_; rintro e w2 ⟨ya, yc, rfl, h2⟩; have H2 := hide h2; clear h2 HB))
  have k2 : Below w.heap.size w w2 := H1.out.below.trans (H2.out.below.mono H1.out.below.size)
  have hRx : RowsAt sCs 1 w2 (.slice xa x.length xc) x := (RowsAt.of_own (cs := sCs) (z := 1) (fun _ => rfl) (by rw [strV_flat]; exact H1.out.own)).below H2.out.below
  have hRy : RowsAt sCs 1 w2 (.slice ya y.length yc) y := RowsAt.of_own (cs := sCs) (z := 1) (fun _ => rfl) (by rw [strV_flat]; exact H2.out.own)
  have HK := hide (And.intro k2 (And.intro hRx hRy))
  clear H1 H2 k2 hRx hRy
  obtain ⟨N, hN⟩ : ∃ N, N = x.length := ⟨_, rfl⟩
  obtain ⟨M, hM⟩ : ∃ M, M = y.length := ⟨_, rfl⟩
  rw [← hN] at HK hx
  rw [← hM] at HK hy
  try simp only [← hN, ← hM]
  have HNM := hide (And.intro hN hM)
  clear hN hM
  go_loopw [7] (fun v7 wr => ∃ i : Nat, v7 = .int .i64 i ∧ i ≤ N ∧ i ≤ M ∧ Hid (x.take i = y.take i ∧ Below w2.heap.size w2 wr)) (fun v7 _ => 1000 - (intOf v7).toNat)
  case atStart => exact ⟨0, rfl, Nat.zero_le _, Nat.zero_le _, rfl, Below.refl _ _⟩
  case round =>
    obtain ⟨i, rfl, hiN, hiM, HI⟩ := hrel
    have h0 : (0 : Int) ≤ i := by omega
    by_cases hgo : i < N ∧ i < M
    · obtain ⟨h1, h2⟩ := hgo
      have hI1 : (i : Int) < N := by omega
      have hI2 : (i : Int) < M := by omega
      obtain ⟨p, hp⟩ : ∃ p, x[i]? = some p := ⟨_, List.getElem?_eq_getElem (by rw [← HNM.out.1]; exact h1)⟩
      obtain ⟨q, hq⟩ : ∃ q, y[i]? = some q := ⟨_, List.getElem?_eq_getElem (by rw [← HNM.out.2]; exact h2)⟩
      obtain ⟨g1, o1, e1, q1, cx, l1, r1⟩ := (HK.out.2.1.below HI.out.2).at (fun e => by rw [e] at hp; cases hp)
      obtain ⟨g2, o2, e2, q2, cy, l2, r2⟩ := (HK.out.2.2.below HI.out.2).at (fun e => by rw [e] at hq; cases hq)
      subst e1 e2
      have c1 := r1 i p hp 0 _ rfl
      have c2 := r2 i q hq 0 _ rfl
      rw [Nat.mul_one, Nat.add_zero] at c1 c2
      have hc1 : (N : Int) ≤ xc := by rw [q1]; omega
      have hc2 : (M : Int) ≤ yc := by rw [q2]; omega
      obtain ⟨P, hP⟩ : ∃ P : ByteArray, P = ⟨p.toArray⟩ := ⟨_, rfl⟩
      obtain ⟨Q, hQ⟩ : ∃ Q : ByteArray, Q = ⟨q.toArray⟩ := ⟨_, rfl⟩
      rw [← hP] at c1
      rw [← hQ] at c2
      by_cases hpq : p = q
      · have heq : (P.toList == Q.toList) = true := by rw [hP, hQ, hpq]; simp
        have HN2 := hide (take_same2 HI.out.1 hp (by rw [hpq]; exact hq))
        clear hpq hP hQ hp hq r1 r2 q1 q2 l1 l2 cx cy
        go_upto_region 5 with fail
        go_region
        go_wp2
        go_roundw
        case rel => exact ⟨i + 1, by simp, by omega, by omega, HN2.out, HI.out.2.drew⟩
        case measure => simp [intOf]; omega
      · have heq : (P.toList == Q.toList) = false := by
          rw [beq_eq_false_iff_ne, hP, hQ, ByteArray.toList_eq, ByteArray.toList_eq]
          simpa using hpq
        obtain ⟨L, hL⟩ : ∃ L, L = ltB p q := ⟨_, rfl⟩
        have hlt : Op.bytesLess P.toList Q.toList = L := by
          rw [hL, ltB_iff, bytesLess_eq, hP, hQ, ByteArray.toList_eq, ByteArray.toList_eq]
        have HR : Hid (R = L) := by
          show _ = _
          rw [hL, ← HE.out]
          exact befP_in HI.out.1 hp hq hpq
        clear hpq hP hQ hp hq r1 r2 q1 q2 l1 l2 cx cy hL
        go_upto_region 5 with fail
        go_region
        go_upto_region 6 with fail
        go_region
        go_wp2
        go_ret
        exact ⟨by rw [HR.out]; rfl, HK.out.1.trans ((HI.out.2.drew).drew.mono HK.out.1.size)⟩
    · have HR : Hid (R = decide (N < M)) := by
        show _ = _
        rw [← HE.out, HNM.out.1, HNM.out.2]
        exact befP_end HI.out.1 (by rw [← HNM.out.1]; exact hiN) (by rw [← HNM.out.2]; exact hiM) (by rw [← HNM.out.1, ← HNM.out.2]; omega)
      by_cases hI1 : (i : Int) < N
      · have hI2 : ¬ (i : Int) < M := by omega
        have e1 : decide ((N : Int) < M) = decide (N < M) := by rw [decide_eq_decide]; omega
        clear hgo
        go_wp2
        go_ret
        exact ⟨by rw [HR.out, ← e1]; rfl, HK.out.1.trans (HI.out.2.mono HK.out.1.size)⟩
      · have e1 : decide ((N : Int) < M) = decide (N < M) := by rw [decide_eq_decide]; omega
        clear hgo
        go_wp2
        go_ret
        exact ⟨by rw [HR.out, ← e1]; rfl, HK.out.1.trans (HI.out.2.mono HK.out.1.size)⟩
end Go.Proofs.YtmnenamdjkjlaaaGreatDoor
/- Contract: whether two images are the same. -/
namespace Go.Img
open Go.RowKit
/-- The same but for numbers and sizes. -/
def alikeB (a b : Fi) : Bool := (a.path == b.path) && (a.dir == b.dir) && (a.dg.toList == b.dg.toList)
def sameB (l r : List Fi) : Bool := decide (l.length = r.length) && (l.zip r).all fun p => alikeB p.1 p.2
theorem sameB_no {l r : List Fi} {i : Nat} {f g : Fi} (hf : l[i]? = some f) (hg : r[i]? = some g) (h : alikeB f g = false) : sameB l r = false := by
  unfold sameB
  have : ((l.zip r).all fun p => alikeB p.1 p.2) = false := by
    rw [List.all_eq_false]
    exact ⟨(f, g), List.mem_iff_getElem?.2 ⟨i, List.getElem?_zip_eq_some.2 ⟨hf, hg⟩⟩, by rw [h]; decide⟩
  rw [this, Bool.and_false]
theorem sameB_yes {l r : List Fi} (hl : l.length = r.length) (h : ∀ (i : Nat) (f g : Fi), l[i]? = some f → r[i]? = some g → alikeB f g = true) : sameB l r = true := by
  unfold sameB
  rw [decide_eq_true hl, Bool.true_and, List.all_eq_true]
  rintro ⟨f, g⟩ hp
  obtain ⟨i, hi⟩ := List.mem_iff_getElem?.1 hp
  obtain ⟨h1, h2⟩ := List.getElem?_zip_eq_some.1 hi
  exact h i f g h1 h2
end Go.Img
namespace Go.Proofs.YtmnenamdjkjlaaaGreatDoor
open Go.RowKit Go.Img Go.Shelf Go.Rws
attribute [local go_sem] Oper.semAt_some
set_option maxRecDepth 100000 in
theorem infoFi5 : (Tryz.prog.info? 36).map (·.size) = some 5 := by kernel_rfl
set_option maxHeartbeats 4000000 in
set_option maxRecDepth 100000 in
theorem alike_any (a b : Fi) (w : World) : Calls Tryz.prog 39 #[.agg a.cs.toArray, .agg b.cs.toArray] w fun e w' => e = .returned (.bool (alikeB a b)) ∧ Below w.heap.size w w' := by
  obtain ⟨ap, ad, ai, ag, az⟩ := a
  obtain ⟨bp, bd, bi, bg, bz⟩ := b
  unfold alikeB Fi.cs
  dsimp only
  obtain ⟨A, hA⟩ : ∃ A : ByteArray, A = ⟨ap.toArray⟩ := ⟨_, rfl⟩
  obtain ⟨B, hB⟩ : ∃ B : ByteArray, B = ⟨bp.toArray⟩ := ⟨_, rfl⟩
  have hpp : (ap == bp) = (A.toList == B.toList) := by rw [hA, hB, ByteArray.toList_eq, ByteArray.toList_eq]
  rw [← hA, ← hB, hpp]
  clear hA hB hpp
  obtain ⟨p, hp⟩ : ∃ p, (A.toList == B.toList) = p := ⟨_, rfl⟩
  obtain ⟨q, hq⟩ : ∃ q, (ad == bd) = q := ⟨_, rfl⟩
  obtain ⟨r, hr⟩ : ∃ r, (ag.toList == bg.toList) = r := ⟨_, rfl⟩
  have HK := hide (((Below.refl _ w).alloc (Nat.le_refl _) (.cells #[.string A, .bool ad, .int .u64 ai, .string ag, .int .i64 az] 36)).alloc (by simp) (.cells #[.string B, .bool bd, .int .u64 bi, .string bg, .int .i64 bz] 36))
  go_enter Tryz.func39, Tryz.ntmps39
  rw [hp, hq, hr]
  cases p
  · go_wp2
    go_ret
    exact ⟨rfl, HK.out⟩
  · cases q
    · go_wp2
      go_ret
      exact ⟨rfl, HK.out⟩
    · cases r
      · go_wp2
        go_ret
        exact ⟨rfl, HK.out⟩
      · go_wp2
        go_ret
        exact ⟨rfl, HK.out⟩
end Go.Proofs.YtmnenamdjkjlaaaGreatDoor
/- Contract: whether two images are the same, file by file. -/
namespace Go.Proofs.YtmnenamdjkjlaaaGreatDoor
open Go.RowKit Go.Img Go.Shelf Go.Rws
attribute [local go_sem] Oper.semAt_some
set_option maxHeartbeats 4000000 in
set_option maxRecDepth 100000 in
theorem equal_any (l r : List Fi) (u v : Value) (w : World) (hl : RowsAt Fi.cs 5 w u l) (hr : RowsAt Fi.cs 5 w v r) (hn : l.length ≤ 100000) :
    Calls Tryz.prog 38 #[u, v, .func (.func 39) #[] #[]] w fun e w' => e = .returned (.bool (sameB l r)) ∧ Below w.heap.size w w' := by
  obtain ⟨ua, uc, rfl⟩ := hl.form
  obtain ⟨va, vc, rfl⟩ := hr.form
  by_cases hlen : l.length = r.length
  · obtain ⟨N, hN⟩ : ∃ N, N = l.length := ⟨_, rfl⟩
    rw [← hlen, ← hN]
    rw [← hlen, ← hN] at hr
    rw [← hN] at hl hn
    have HL := hide (And.intro hl hr)
    have HN := hide (And.intro hN (hN.trans hlen))
    obtain ⟨R, hR⟩ : ∃ R, R = sameB l r := ⟨_, rfl⟩
    have HR := hide hR
    rw [← hR]
    clear hl hr hlen hN hR
    go_enter Tryz.func38, Tryz.ntmps38
    go_wp2_with fail
    go_loopw [17] (fun v17 wr => ∃ i : Nat, v17 = .int .i64 i ∧ i ≤ N ∧ Hid ((∀ (j : Nat) (f g : Fi), j < i → l[j]? = some f → r[j]? = some g → alikeB f g = true) ∧ Below w.heap.size w wr)) (fun v17 _ => N - (intOf v17).toNat)
    case atStart => exact ⟨0, rfl, Nat.zero_le _, fun j f g h => absurd h (Nat.not_lt_zero _), Below.refl _ _⟩
    case round =>
      obtain ⟨i, rfl, hi, HI⟩ := hrel
      have h0 : (0 : Int) ≤ i := by omega
      by_cases hil : i < N
      · obtain ⟨f, hf⟩ : ∃ f, l[i]? = some f := ⟨_, List.getElem?_eq_getElem (by rw [← HN.out.1]; exact hil)⟩
        obtain ⟨g, hg⟩ : ∃ g, r[i]? = some g := ⟨_, List.getElem?_eq_getElem (by rw [← HN.out.2]; exact hil)⟩
        obtain ⟨g1, o1, e1, q1, cx, l1, r1⟩ := (HL.out.1.below HI.out.2).at (fun e => by rw [e] at hf; cases hf)
        obtain ⟨g2, o2, e2, q2, cy, l2, r2⟩ := (HL.out.2.below HI.out.2).at (fun e => by rw [e] at hg; cases hg)
        subst e1 e2
        have hc1 : (N : Int) ≤ uc := by rw [q1]; omega
        have hc2 : (N : Int) ≤ vc := by rw [q2]; omega
        have hiI : (i : Int) < N := by omega
        have HF := hide (And.intro (r1 i f hf) (And.intro l1 (And.intro (r2 i g hg) l2)))
        have HFG := hide (And.intro hf hg)
        have kA : Below wr.heap.size wr (wr.alloc (.cells f.cs.toArray 36)) := (Below.refl _ wr).alloc (Nat.le_refl _) _
        have hmid : Hid ((wr.alloc (.cells f.cs.toArray 36)).rangeAt g2 (o2 + i * 5) g.cs) := fun q u hu => (kA.cell (p := ⟨g2, o2 + i * 5 + q, none⟩) HF.out.2.2.2).trans (HF.out.2.2.1 q u hu)
        have HA := hide (fun v => alike_any f g v)
        obtain ⟨b, hb⟩ : ∃ b, b = alikeB f g := ⟨_, rfl⟩
        rw [← hb] at HA
        have HB := hide hb
        have hr1 : Hid (((wr.alloc (.cells f.cs.toArray 36)).alloc (.cells g.cs.toArray 36)).heap[wr.heap.size]? = some (.cells f.cs.toArray 36 (0, 0)) ∧ ((wr.alloc (.cells f.cs.toArray 36)).alloc (.cells g.cs.toArray 36)).heap[wr.heap.size + 1]? = some (.cells g.cs.toArray 36 (0, 0))) := ⟨(heap_alloc_old _ _ (by simp)).trans (heap_alloc_new wr _), new_at (by simp) _⟩
        have HK2 := hide (kA.alloc kA.size (.cells g.cs.toArray 36))
        clear hf hg hb r1 r2 l1 l2 q1 q2 cx cy kA
        have hm2 := hmid.out
        simp only [Fi.cs] at hm2
        have HM2 := hide hm2
        have HA2 := HA.out
        simp only [Fi.cs] at HA2
        replace HA := hide HA2
        have hr2 := hr1.out
        simp only [Fi.cs] at hr2
        have HK3 := HK2.out
        simp only [Fi.cs] at HK3
        replace HK2 := hide HK3
        clear HA2 hm2 hr2 HK3
        cases b with
        | true =>
          go_wp2_with (first
            | (refine wpList_load_mid rfl 36 _ rfl g1 (o1 + i * 5) rfl f.cs _ HF.out.1 Tryz.underlying36 rfl infoFi5 ?_; simp only [Fi.cs])
            | (refine wpList_load_mid rfl 36 _ rfl g2 (o2 + i * 5) rfl g.cs _ HM2.out Tryz.underlying36 rfl infoFi5 ?_; simp only [Fi.cs])
            | (go_at_call 39; refine (HA.out _).mono ?_; rintro e w5 ⟨rfl, k5⟩; have K5 := hide (HK2.out.trans (k5.mono HK2.out.size)); clear k5 HA))
          go_roundw
          case rel =>
            refine ⟨i + 1, by simp, by omega, fun j f' g' hj h1 h2 => ?_, HI.out.2.trans (K5.out.mono HI.out.2.size)⟩
            by_cases e : j = i
            · subst e
              rw [HFG.out.1] at h1
              rw [HFG.out.2] at h2
              cases h1
              cases h2
              exact HB.out.symm
            · exact HI.out.1 j f' g' (by omega) h1 h2
          case measure => simp [intOf]; omega
        | false =>
          have HRf : Hid (R = false) := by
            show _ = _
            rw [HR.out]
            exact sameB_no HFG.out.1 HFG.out.2 HB.out.symm
          go_wp2_with (first
            | (refine wpList_load_mid rfl 36 _ rfl g1 (o1 + i * 5) rfl f.cs _ HF.out.1 Tryz.underlying36 rfl infoFi5 ?_; simp only [Fi.cs])
            | (refine wpList_load_mid rfl 36 _ rfl g2 (o2 + i * 5) rfl g.cs _ HM2.out Tryz.underlying36 rfl infoFi5 ?_; simp only [Fi.cs])
            | (go_at_call 39; refine (HA.out _).mono ?_; rintro e w5 ⟨rfl, k5⟩; have K5 := hide (HK2.out.trans (k5.mono HK2.out.size)); clear k5 HA))
          go_ret
          exact ⟨by rw [HRf.out]; rfl, HI.out.2.trans (K5.out.mono HI.out.2.size)⟩
      · obtain rfl : i = N := by omega
        have hiI : ¬ (i : Int) < i := by omega
        have HRt : Hid (R = true) := by
          show _ = _
          rw [HR.out]
          refine sameB_yes (by rw [← HN.out.1, ← HN.out.2]) fun j f g h1 h2 => HI.out.1 j f g ?_ h1 h2
          rw [HN.out.1]
          exact (List.getElem?_eq_some_iff.1 h1).1
        go_wp2_with fail
        go_ret
        exact ⟨by rw [HRt.out]; rfl, HI.out.2⟩
  · have hne : ¬ (l.length : Int) = r.length := by omega
    have hneb : ((l.length : Int) == r.length) = false := by rw [beq_eq_false_iff_ne]; exact hne
    have HR : Hid (sameB l r = false) := by show _ = _; unfold sameB; rw [decide_eq_false hlen, Bool.false_and]
    rw [HR.out]
    clear hl hr hlen
    go_enter Tryz.func38, Tryz.ntmps38
    go_wp2_with fail
    go_ret
    exact ⟨rfl, Below.refl _ _⟩
set_option maxRecDepth 100000 in
theorem same15_any (l r : List Fi) (u v : Value) (w : World) (hl : RowsAt Fi.cs 5 w u l) (hr : RowsAt Fi.cs 5 w v r) (hn : l.length ≤ 100000) :
    Calls Tryz.prog 19 #[u, v] w fun e w' => e = .returned (.bool (sameB l r)) ∧ Below w.heap.size w w' := by
  have H := hide (equal_any l r u v w hl hr hn)
  obtain ⟨R, hR⟩ : ∃ R, R = sameB l r := ⟨_, rfl⟩
  rw [← hR] at H ⊢
  clear hR hl hr hn
  go_enter Tryz.func19, Tryz.ntmps19
  go_wp2_with (go_at_call 38; refine H.out.mono ?_; rintro e w' ⟨rfl, k⟩; have K := hide k; clear k)
  go_ret
  exact ⟨rfl, K.out⟩
end Go.Proofs.YtmnenamdjkjlaaaGreatDoor
