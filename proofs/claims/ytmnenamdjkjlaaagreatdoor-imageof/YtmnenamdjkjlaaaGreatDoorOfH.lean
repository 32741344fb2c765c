/- Several texts in one: NameRefPath, ImageBefDoc, ImagePut, ImageROf. -/
import Derived.Test.YtmnenamdjkjlaaaGreatDoorOfA
import Derived.Test.YtmnenamdjkjlaaaGreatDoorRunAQ
import Derived.Laws.OwnMore
import Derived.Test.YtmnenamdjkjlaaaGreatDoorRunAR
import Derived.Test.YtmnenamdjkjlaaaGreatDoorRunAT
import Derived.Test.YtmnenamdjkjlaaaGreatDoorOfB
import Derived.Test.YtmnenamdjkjlaaaGreatDoorRunAH
import Derived.Test.YtmnenamdjkjlaaaGreatDoorOfE
import Derived.Test.YtmnenamdjkjlaaaGreatDoorOfG
import Derived.Test.YtmnenamdjkjlaaaGreatDoorImageOf
/- Contracts: the document's parts of a path, and what may be one. -/
namespace Go.Proofs.YtmnenamdjkjlaaaGreatDoor
open Go.RowKit Go.Names
set_option maxRecDepth 100000 in
theorem Ar.stored {W w : World} {g m c : Nat} {outs : List Bs} (h : Ar W (.slice (some ⟨g, 0, none⟩) m c) outs w) (hm : m = outs.length) (j : Nat) (x : Bs) : Ar W (.slice (some ⟨g, 0, none⟩) m c) (outs.set j x) (w.drew.setCell ⟨g, j, none⟩ (.string ⟨x.toArray⟩)) := by
  subst hm
  have h1 : w.drew.ownsRow W.heap.size 9 1 (.slice (some ⟨g, 0, none⟩) outs.length c) outs.length (strV outs) := h.own
  obtain ⟨h2, h3⟩ := h1.stored j (.string ⟨x.toArray⟩)
  refine ⟨?_, h.below.drew.grown h3 h.below.size fun k e => by cases e; exact (own_at h.own rfl).1⟩
  rw [List.length_set]
  unfold strV at h2 ⊢
  rw [List.map_set]
  exact h2
set_option maxRecDepth 100000 in
theorem Ar.some {W w : World} {a : Option Addr} {m c : Nat} {outs : List Bs} (h : Ar W (.slice a m c) outs w) (hm : 0 < outs.length) : ∃ g, a = .some ⟨g, 0, none⟩ := by
  rcases h.own.2 with ⟨_, h0⟩ | ⟨j, cap, cur, h1, _⟩
  · omega
  · cases h1; exact ⟨j, rfl⟩
set_option maxRecDepth 100000 in
set_option maxHeartbeats 2000000 in
theorem rparts_any (s : ByteArray) (w : World) (hs : s.size ≤ 500) :
    Calls Tryz.prog 32 #[.string s] w fun e w' => ∃ a c, e = .returned (.slice a (parts s.data.toList).length c) ∧ Ar w (.slice a (parts s.data.toList).length c) (parts s.data.toList) w' := by
  have hsz : s.data.toList.length = s.size := by simp
  go_enter Tryz.func32, Tryz.ntmps32
  go_wp2
  go_loopw [3, 4] (fun vo vi wr => ∃ (i g m c : Nat), i ≤ s.size ∧ vo = .slice (some ⟨g, 0, none⟩) m c ∧ vi = .int .i64 i ∧ Hid (m = (parts (s.data.toList.take i)).length ∧ Ar w (.slice (some ⟨g, 0, none⟩) m c) (parts (s.data.toList.take i)) wr)) (fun _ vi _ => 1000 - (intOf vi).toNat)
  case atStart =>
    refine ⟨0, w.heap.size, 1, 1, Nat.zero_le _, rfl, rfl, rfl, ?_, (Below.refl _ w).alloc (Nat.le_refl _) _⟩
    exact RegionOwn.made_one w w.heap.size 9 1 #[.string ⟨#[]⟩] (Nat.le_refl _) rfl
  case round =>
    obtain ⟨i, g, m, c, hi, rfl, rfl, HH⟩ := hrel
    have hm1 : 1 ≤ m := by
      rw [HH.out.1]
      exact List.length_pos_iff.2 (parts_ne _)
    have hm2 : m ≤ 501 := by
      rw [HH.out.1]
      have := parts_length (s.data.toList.take i)
      rw [List.length_take] at this
      omega
    by_cases hlt : i < s.size
    · have hlt' : (i : Int) < s.size := by omega
      have hi1 : (i : Int) + 1 ≤ s.size := by omega
      have hi0 : (i : Int) ≤ i + 1 := by omega
      have htk : s.data.toList.take (i + 1) = s.data.toList.take i ++ [s[i]] := by rw [List.take_add_one, data_get s i hlt]; rfl
      by_cases hc : s[i] = 47
      · have hcn : (s[i].toNat : Int) = 47 := by rw [hc]; rfl
        have hcb : ((s[i].toNat : Int) == 47) = true := by simp [hcn]
        have hnx := parts_snoc_cut (s.data.toList.take i)
        rw [← hc, ← htk] at hnx
        have HN := hide hnx
        clear hnx htk hc
        go_wp2_with (at_builtin; refine HH.out.2.append [] (by rw [← HH.out.1]; omega) rfl _ _ rfl rfl rfl rfl ?_
                     intro a1 c1 w1 h1
                     rw [← HN.out, ← HH.out.1] at h1
                     rw [← HH.out.1]
                     obtain ⟨g1, rfl⟩ := h1.some (List.length_pos_iff.2 (parts_ne _))
                     have H1 := hide h1
                     clear h1)
        go_roundw
        case rel => exact ⟨i + 1, g1, m + 1, c1, by omega, rfl, by go_num, by rw [HN.out, List.length_append, ← HH.out.1]; rfl, H1.out⟩
        case measure => simp [intOf]; omega
      · have hcn : ¬ (s[i].toNat : Int) = 47 := by
          intro e
          have h2 : s[i].toNat = 47 := by omega
          exact hc (UInt8.toNat_inj.1 (h2.trans rfl))
        have hcb : ((s[i].toNat : Int) == 47) = false := beq_eq_false_iff_ne.2 hcn
        have hnx := parts_snoc (s.data.toList.take i) hc
        rw [← htk] at hnx
        obtain ⟨q, rfl⟩ : ∃ q, m = q + 1 := ⟨m - 1, by omega⟩
        obtain ⟨p, hp⟩ : ∃ p, (parts (s.data.toList.take i))[q]? = some p := ⟨_, List.getElem?_eq_getElem (by rw [← HH.out.1]; omega)⟩
        rw [more1_at (k := q) HH.out.1.symm hp] at hnx
        have HN := hide hnx
        have hpr := HH.out.2.reads
        obtain ⟨P, hP⟩ : ∃ P : ByteArray, P = ⟨p.toArray⟩ := ⟨_, rfl⟩
        have hcell : wr.cell? ⟨g, 0 + q, none⟩ = some (.string P) := by
          refine hpr.cell (j := q) ?_
          rw [List.getElem?_map, hp, hP]
          rfl
        rw [Nat.zero_add] at hcell
        have hfz : wr.frozen? ⟨g, q, none⟩ = false := (HH.out.1 ▸ HH.out.2.own).frozenAt q
        have hcellD : wr.drew.cell? ⟨g, q, none⟩ = some (.string P) := hcell
        have hfzD : wr.drew.frozen? ⟨g, q, none⟩ = false := hfz
        have hmc : (q : Int) + 1 ≤ c := by
          have : q + 1 ≤ c := by
            have ho := HH.out.2.own
            rw [← HH.out.1] at ho
            rcases ho.2 with ⟨h1, _⟩ | ⟨_, cap, cur, h1, _, _, h4, _⟩
            · cases h1
            · cases h1; exact h4
          omega
        have hPs : P.size ≤ 500 := by
          rw [hP, ba_size]
          have := parts_le _ p (List.mem_of_getElem? hp)
          rw [List.length_take] at this
          omega
        have hnew : P ++ s.extract i (i + 1) = ⟨(p ++ [s[i]]).toArray⟩ := by
          apply ByteArray.ext
          rw [← Array.toList_inj, hP]
          simp [ByteArray.data_append, ByteArray.data_extract]
          rw [List.take_one, List.head?_drop, data_get s i hlt]
          rfl
        have HX : Hid (Ar w (.slice (some ⟨g, 0, none⟩) (q + 1) c) (parts (s.data.toList.take (i + 1))) (wr.drew.setCell ⟨g, q, none⟩ (.string (P ++ s.extract i (i + 1))))) := by
          show Ar _ _ _ _
          rw [HN.out, hnew]
          exact HH.out.2.stored HH.out.1 q _
        have HL : Hid (q + 1 = (parts (s.data.toList.take (i + 1))).length) := by
          show _ = _
          rw [HN.out, List.length_set]
          exact HH.out.1
        have hq0 : (0 : Int) ≤ q := by omega
        have hq1 : (q : Int) < q + 1 := by omega
        have hex : (s.extract i (i + 1)).size ≤ 1 := by rw [ByteArray.size_extract]; omega
        clear hnew hnx hpr hP hp htk hc HN HH
        go_upto_region 7 with (fail)
        go_region
        go_wp2
        go_roundw
        case rel => exact ⟨i + 1, g, q + 1, c, by omega, rfl, by go_num, HL.out, HX.out⟩
        case measure => simp [intOf]; omega
    · have hlt' : ¬ (i : Int) < s.size := by omega
      have hie : i = s.size := by omega
      have hte : s.data.toList.take i = s.data.toList := by rw [hie, ← hsz, List.take_length]
      obtain ⟨hm, hA⟩ := HH.out
      rw [hte] at hm hA
      subst hm
      have HA := hide hA
      clear hA HH
      go_wp2
      go_ret
      exact ⟨_, _, rfl, HA.out⟩
set_option maxRecDepth 100000 in
set_option maxHeartbeats 2000000 in
theorem rpath_any (s : ByteArray) (w : World) (hs : s.size ≤ 500) :
    Calls Tryz.prog 11 #[.string s] w fun e w' => e = .returned (.bool (pathB s.data.toList)) ∧ Below w.heap.size w w' := by
  have hsz : s.data.toList.length = s.size := by simp
  by_cases hbig : 238 < s.size
  · have hb : pathB s.data.toList = false := by unfold pathB; rw [hsz, decide_eq_false (by omega)]; rfl
    rw [hb]
    have hbi : (238 : Int) < s.size := by omega
    go_enter Tryz.func11, Tryz.ntmps11
    go_wp2
    go_ret
    exact ⟨rfl, Below.refl _ _⟩
  · have hb : pathB s.data.toList = (parts s.data.toList).all legal := by unfold pathB; rw [hsz, decide_eq_true (by omega)]; rfl
    rw [hb]
    have hbi : ¬ (238 : Int) < s.size := by omega
    have HP := hide (rparts_any s w hs)
    have hle : Hid (∀ p ∈ parts s.data.toList, p.length ≤ 500) := fun p hp => by have := parts_le _ p hp; omega
    have hln : (parts s.data.toList).length ≤ 501 := by have := parts_length s.data.toList; omega
    clear hb hsz
    generalize parts s.data.toList = ps at HP hle hln
    go_enter Tryz.func11, Tryz.ntmps11
    go_wp2_with (go_at_call 32; refine HP.out.mono ?_; rintro e w1 ⟨a, c, rfl, hA⟩
                 have HA := hide hA
                 clear hA)
    go_loopw [4] (fun vi wr => ∃ i : Nat, i ≤ ps.length ∧ vi = .int .i64 i ∧ Hid ((ps.take i).all legal = true ∧ wr = w1)) (fun vi _ => 1000 - (intOf vi).toNat)
    case atStart => exact ⟨0, Nat.zero_le _, rfl, rfl, rfl⟩
    case round =>
      obtain ⟨i, hi, rfl, HH⟩ := hrel
      obtain ⟨hall, rfl⟩ := HH.out
      clear HH
      by_cases hlt : i < ps.length
      · have hlt' : (i : Int) < ps.length := by omega
        obtain ⟨p, hp⟩ : ∃ p, ps[i]? = some p := ⟨_, List.getElem?_eq_getElem hlt⟩
        obtain ⟨P, hP⟩ : ∃ P : ByteArray, P = ⟨p.toArray⟩ := ⟨_, rfl⟩
        have hpi : (ps.map fun x => (⟨x.toArray⟩ : ByteArray))[i]? = some P := by rw [List.getElem?_map, hp, hP]; rfl
        have hR := HA.out.reads
        obtain ⟨b, off, cp, hvv, hcp, hb⟩ := hR.at (fun e => by rw [e] at hpi; cases hpi)
        rw [List.length_map] at hvv hcp
        cases hvv
        have hcell := hR.cell hpi
        have hcp' : (ps.length : Int) ≤ c := by omega
        have hPd : P.data.toList = p := by rw [hP]
        have HL := hide (rlegal_any P wr (by rw [hP, ba_size]; have := hle.out p (List.mem_of_getElem? hp); omega))
        rw [hPd] at HL
        have htk : (ps.take (i + 1)).all legal = legal p := by rw [List.take_add_one, hp]; simp [hall]
        cases hlp : legal p with
        | false =>
          rw [hlp] at HL
          have hno : ps.all legal = false := by
            rw [Bool.eq_false_iff]
            intro e
            rw [List.all_eq_true.1 e p (List.mem_of_getElem? hp)] at hlp
            cases hlp
          have HN := hide hno
          clear hno hlp htk hpi hR hP hPd hp hall
          go_wp2_with (go_at_call 33; refine HL.out.mono ?_; rintro e w2 ⟨rfl, rfl⟩)
          go_ret
          exact ⟨by rw [HN.out]; rfl, HA.out.below⟩
        | true =>
          rw [hlp] at HL htk
          have HT := hide htk
          clear hlp htk hpi hR hP hPd hp hall
          go_wp2_with (go_at_call 33; refine HL.out.mono ?_; rintro e w2 ⟨rfl, h2⟩; replace h2 := h2.symm; subst h2)
          go_roundw
          case rel => exact ⟨i + 1, by omega, by go_num, HT.out, trivial⟩
          case measure => simp [intOf]; omega
      · have hlt' : ¬ (i : Int) < ps.length := by omega
        have hie : i = ps.length := by omega
        rw [hie, List.take_length] at hall
        have HT := hide hall
        clear hall
        go_wp2
        go_ret
        exact ⟨by rw [HT.out]; rfl, HA.out.below⟩
end Go.Proofs.YtmnenamdjkjlaaaGreatDoor
/- Contract: whether a path is ahead of another one, by the document. -/
namespace Go.Img
open Go.RowKit
theorem pts_parts : ∀ l : List UInt8, pts l = Names.parts l
  | [] => rfl
  | c :: l => by
    unfold pts Names.parts
    rw [pts_parts l]
    rfl
theorem ltB_iff : ∀ p q : List UInt8, ltB p q = decide (p < q)
  | [], [] => by simp [ltB]
  | [], _ :: _ => by simp [ltB]
  | _ :: _, [] => by simp [ltB]
  | a :: x, b :: y => by
    unfold ltB
    by_cases e : a = b
    · rw [if_pos e, ltB_iff x y, decide_eq_decide, e]
      simp
    · rw [if_neg e, decide_eq_decide, List.cons_lt_cons_iff]
      constructor
      · intro h; exact .inl h
      · rintro (h | ⟨h, _⟩)
        · exact h
        · exact absurd h e
theorem befP_app : ∀ (p x y : List (List UInt8)), befP (p ++ x) (p ++ y) = befP x y
  | [], _, _ => rfl
  | a :: p, x, y => by
    show (if a = a then befP (p ++ x) (p ++ y) else _) = _
    rw [if_pos rfl, befP_app p]
theorem befP_drop {x y : List (List UInt8)} {i : Nat} (h : x.take i = y.take i) : befP x y = befP (x.drop i) (y.drop i) := by
  conv => lhs; rw [← List.take_append_drop i x, ← List.take_append_drop i y]
  rw [h, befP_app]
theorem befP_in {x y : List (List UInt8)} {i : Nat} {p q : List UInt8} (h : x.take i = y.take i) (hx : x[i]? = some p) (hy : y[i]? = some q) (hne : p ≠ q) : befP x y = ltB p q := by
  rw [befP_drop h]
  obtain ⟨hl, rfl⟩ := List.getElem?_eq_some_iff.1 hx
  obtain ⟨hm, rfl⟩ := List.getElem?_eq_some_iff.1 hy
  rw [List.drop_eq_getElem_cons hl, List.drop_eq_getElem_cons hm]
  show (if x[i] = y[i] then _ else _) = _
  rw [if_neg hne]
theorem befP_end {x y : List (List UInt8)} {i : Nat} (h : x.take i = y.take i) (hx : i ≤ x.length) (hy : i ≤ y.length) (he : i = x.length ∨ i = y.length) : befP x y = decide (x.length < y.length) := by
  rw [befP_drop h]
  rcases he with e | e
  · subst e
    rw [List.drop_length]
    cases hd : y.drop x.length with
    | nil =>
      have := congrArg List.length hd
      rw [List.length_drop] at this
      simp at this
      rw [decide_eq_false (by omega)]
      rfl
    | cons c r =>
      have := congrArg List.length hd
      rw [List.length_drop] at this
      simp at this
      rw [decide_eq_true (by omega)]
      rfl
  · subst e
    rw [List.drop_length, decide_eq_false (by omega)]
    cases x.drop y.length <;> rfl
theorem take_same2 {a b : List (List UInt8)} {i : Nat} {c : List UInt8} (h : a.take i = b.take i) (ha : a[i]? = some c) (hb : b[i]? = some c) : a.take (i + 1) = b.take (i + 1) := by
  rw [List.take_add_one, List.take_add_one, h, ha, hb]
end Go.Img
namespace Go.Proofs.YtmnenamdjkjlaaaGreatDoor
open Go.RowKit Go.Img Go.Shelf Go.Rws Go.Names
open Go.Mov hiding fold
attribute [local go_sem] Oper.semAt_some
set_option maxHeartbeats 4000000 in
set_option maxRecDepth 100000 in
theorem rbefore15_any (a b : List UInt8) (w : World) (ha : a.length ≤ 400) (hb : b.length ≤ 400) :
    Calls Tryz.prog 18 #[.string ⟨a.toArray⟩, .string ⟨b.toArray⟩] w fun e w' => e = .returned (.bool (decide (cmpP a b < 0))) ∧ Below w.heap.size w w' := by
  have HE := hide (befP_cmp a b)
  obtain ⟨A, hA⟩ : ∃ A : ByteArray, A = ⟨a.toArray⟩ := ⟨_, rfl⟩
  obtain ⟨B, hB⟩ : ∃ B : ByteArray, B = ⟨b.toArray⟩ := ⟨_, rfl⟩
  have hAl : A.data.toList = a := by rw [hA]
  have hBl : B.data.toList = b := by rw [hB]
  have HA := hide (fun v => rparts_any A v (by rw [hA]; show a.toArray.size ≤ 500; simp; omega))
  have HB := hide (fun v => rparts_any B v (by rw [hB]; show b.toArray.size ≤ 500; simp; omega))
  rw [← hA, ← hB]
  rw [hAl] at HA
  rw [hBl] at HB
  rw [pts_parts, pts_parts] at HE
  have hx : (parts a).length ≤ 401 := Nat.le_trans (parts_length a) (by omega)
  have hy : (parts b).length ≤ 401 := Nat.le_trans (parts_length b) (by omega)
  obtain ⟨R, hR⟩ : ∃ R, R = decide (cmpP a b < 0) := ⟨_, rfl⟩
  rw [← hR] at HE ⊢
  obtain ⟨x, hxx⟩ : ∃ x, x = parts a := ⟨_, rfl⟩
  obtain ⟨y, hyy⟩ : ∃ y, y = parts b := ⟨_, rfl⟩
  rw [← hxx] at HA HE hx
  rw [← hyy] at HB HE hy
  clear hA hB hAl hBl hxx hyy hR
  go_enter Tryz.func18, Tryz.ntmps18
  go_wp2_with (first
    | (go_at_call 32; refine (HA.out _).mono ?_; rintro e w1 ⟨xa, xc, rfl, h1⟩; have H1 := hide h1; clear h1 HA)
    | (go_at_call 32; refine (HB.out _).mono ?_; rintro e w2 ⟨ya, yc, rfl, h2⟩; have H2 := hide h2; clear h2 HB))
  have k2 : Below w.heap.size w w2 := H1.out.below.trans (H2.out.below.mono H1.out.below.size)
  have hRx : RowsAt sCs 1 w2 (.slice xa x.length xc) x := (RowsAt.of_own (cs := sCs) (z := 1) (fun _ => rfl) (by rw [strV_flat]; exact H1.out.own)).below H2.out.below
  have hRy : RowsAt sCs 1 w2 (.slice ya y.length yc) y := RowsAt.of_own (cs := sCs) (z := 1) (fun _ => rfl) (by rw [strV_flat]; exact H2.out.own)
  have HK := hide (And.intro k2 (And.intro hRx hRy))
  clear H1 H2 k2 hRx hRy
  obtain ⟨N, hN⟩ : ∃ N, N = x.length := ⟨_, rfl⟩
  obtain ⟨M, hM⟩ : ∃ M, M = y.length := ⟨_, rfl⟩
  rw [← hN] at HK hx
  rw [← hM] at HK hy
  try simp only [← hN, ← hM]
  have HNM := hide (And.intro hN hM)
  clear hN hM
  go_loopw [7] (fun v7 wr => ∃ i : Nat, v7 = .int .i64 i ∧ i ≤ N ∧ i ≤ M ∧ Hid (x.take i = y.take i ∧ Below w2.heap.size w2 wr)) (fun v7 _ => 1000 - (intOf v7).toNat)
  case atStart => exact ⟨0, rfl, Nat.zero_le _, Nat.zero_le _, rfl, Below.refl _ _⟩
  case round =>
    obtain ⟨i, rfl, hiN, hiM, HI⟩ := hrel
    have h0 : (0 : Int) ≤ i := by omega
    by_cases hgo : i < N ∧ i < M
    · obtain ⟨h1, h2⟩ := hgo
      have hI1 : (i : Int) < N := by omega
      have hI2 : (i : Int) < M := by omega
      obtain ⟨p, hp⟩ : ∃ p, x[i]? = some p := ⟨_, List.getElem?_eq_getElem (by rw [← HNM.out.1]; exact h1)⟩
      obtain ⟨q, hq⟩ : ∃ q, y[i]? = some q := ⟨_, List.getElem?_eq_getElem (by rw [← HNM.out.2]; exact h2)⟩
      obtain ⟨g1, o1, e1, q1, cx, l1, r1⟩ := (HK.out.2.1.below HI.out.2).at (fun e => by rw [e] at hp; cases hp)
      obtain ⟨g2, o2, e2, q2, cy, l2, r2⟩ := (HK.out.2.2.below HI.out.2).at (fun e => by rw [e] at hq; cases hq)
      subst e1 e2
      have c1 := r1 i p hp 0 _ rfl
      have c2 := r2 i q hq 0 _ rfl
      rw [Nat.mul_one, Nat.add_zero] at c1 c2
      have hc1 : (N : Int) ≤ xc := by rw [q1]; omega
      have hc2 : (M : Int) ≤ yc := by rw [q2]; omega
      obtain ⟨P, hP⟩ : ∃ P : ByteArray, P = ⟨p.toArray⟩ := ⟨_, rfl⟩
      obtain ⟨Q, hQ⟩ : ∃ Q : ByteArray, Q = ⟨q.toArray⟩ := ⟨_, rfl⟩
      rw [← hP] at c1
      rw [← hQ] at c2
      by_cases hpq : p = q
      · have heq : (P.toList == Q.toList) = true := by rw [hP, hQ, hpq]; simp
        have HN2 := hide (take_same2 HI.out.1 hp (by rw [hpq]; exact hq))
        clear hpq hP hQ hp hq r1 r2 q1 q2 l1 l2 cx cy
        go_upto_region 5 with fail
        go_region
        go_wp2
        go_roundw
        case rel => exact ⟨i + 1, by simp, by omega, by omega, HN2.out, HI.out.2.drew⟩
        case measure => simp [intOf]; omega
      · have heq : (P.toList == Q.toList) = false := by
          rw [beq_eq_false_iff_ne, hP, hQ, ByteArray.toList_eq, ByteArray.toList_eq]
          simpa using hpq
        obtain ⟨L, hL⟩ : ∃ L, L = ltB p q := ⟨_, rfl⟩
        have hlt : Op.bytesLess P.toList Q.toList = L := by
          rw [hL, ltB_iff, bytesLess_eq, hP, hQ, ByteArray.toList_eq, ByteArray.toList_eq]
        have HR : Hid (R = L) := by
          show _ = _
          rw [hL, ← HE.out]
          exact befP_in HI.out.1 hp hq hpq
        clear hpq hP hQ hp hq r1 r2 q1 q2 l1 l2 cx cy hL
        go_upto_region 5 with fail
        go_region
        go_upto_region 6 with fail
        go_region
        go_wp2
        go_ret
        exact ⟨by rw [HR.out]; rfl, HK.out.1.trans ((HI.out.2.drew).drew.mono HK.out.1.size)⟩
    · have HR : Hid (R = decide (N < M)) := by
        show _ = _
        rw [← HE.out, HNM.out.1, HNM.out.2]
        exact befP_end HI.out.1 (by rw [← HNM.out.1]; exact hiN) (by rw [← HNM.out.2]; exact hiM) (by rw [← HNM.out.1, ← HNM.out.2]; omega)
      by_cases hI1 : (i : Int) < N
      · have hI2 : ¬ (i : Int) < M := by omega
        have e1 : decide ((N : Int) < M) = decide (N < M) := by rw [decide_eq_decide]; omega
        clear hgo
        go_wp2
        go_ret
        exact ⟨by rw [HR.out, ← e1]; rfl, HK.out.1.trans (HI.out.2.mono HK.out.1.size)⟩
      · have e1 : decide ((N : Int) < M) = decide (N < M) := by rw [decide_eq_decide]; omega
        clear hgo
        go_wp2
        go_ret
        exact ⟨by rw [HR.out, ← e1]; rfl, HK.out.1.trans (HI.out.2.mono HK.out.1.size)⟩
end Go.Proofs.YtmnenamdjkjlaaaGreatDoor
/- Contract: the document's Put: one more, in order. Laid by tools/mkput.py. -/
namespace Go.Img
open Go.RowKit
/-- Where one more comes to stand. -/
def putAt (l : List Fi) (f : Fi) : Nat := (l.takeWhile fun x => ltF x f).length
theorem putAt_spec : ∀ (l : List Fi) (f : Fi) (i : Nat) (x : Fi), l[i]? = some x → (i < putAt l f → ltF x f = true) ∧ (i = putAt l f → ltF x f = false)
  | [], _, _, _, h => by simp at h
  | a :: l, f, i, x, h => by
    unfold putAt
    rw [List.takeWhile_cons]
    cases ha : ltF a f with
    | false =>
      rw [if_neg (by decide)]
      refine ⟨fun hi => absurd hi (Nat.not_lt_zero _), fun hi => ?_⟩
      have : i = 0 := hi
      subst this
      simp at h
      rw [← h]; exact ha
    | true =>
      rw [if_pos rfl, List.length_cons]
      cases i with
      | zero =>
        simp at h
        exact ⟨fun _ => by rw [← h]; exact ha, fun hi => by omega⟩
      | succ i =>
        rw [List.getElem?_cons_succ] at h
        obtain ⟨h1, h2⟩ := putAt_spec l f i x h
        unfold putAt at h1 h2
        exact ⟨fun hi => h1 (by omega), fun hi => h2 (by omega)⟩
theorem putAt_le (l : List Fi) (f : Fi) : putAt l f ≤ l.length := by
  unfold putAt
  have h := congrArg List.length (List.takeWhile_append_dropWhile (p := fun x => ltF x f) (l := l))
  rw [List.length_append] at h
  omega
theorem insF_at (l : List Fi) (f : Fi) : insF l f = l.take (putAt l f) ++ f :: l.drop (putAt l f) := by
  unfold insF putAt
  have h := List.takeWhile_append_dropWhile (p := fun x => ltF x f) (l := l)
  have e1 : l.take (l.takeWhile fun x => ltF x f).length = l.takeWhile fun x => ltF x f := by
    conv => lhs; rw [← h]
    rw [h]
    conv => lhs; arg 2; rw [← h]
    exact List.take_left' rfl
  have e2 : l.drop (l.takeWhile fun x => ltF x f).length = l.dropWhile fun x => ltF x f := by
    conv => lhs; arg 2; rw [← h]
    exact List.drop_left' rfl
  rw [e1, e2]
theorem fis_one (es : List Fi) : ∀ u ∈ es.flatMap Fi.cs, u.oneCell' = true := fun u hu => by
  obtain ⟨s, _, h2⟩ := List.mem_flatMap.1 hu
  exact fi_one s u h2
end Go.Img
namespace Go.Proofs.YtmnenamdjkjlaaaGreatDoor
open Go.RowKit Go.Img Go.Shelf Go.Rws
attribute [local go_sem] Oper.semAt_some
set_option maxRecDepth 100000 in
theorem fHiN (x : World) : (Instr.sliceAt 29 (.slice none 0 0) none (some (.int .i64 0)) none).run Tryz.prog x = .ok (.slice none 0 0) x := by kernel_rfl
set_option maxRecDepth 100000 in
theorem fLoN (x : World) : (Instr.sliceAt 29 (.slice none 0 0) (some (.int .i64 0)) none none).run Tryz.prog x = .ok (.slice none 0 0) x := by kernel_rfl
set_option maxRecDepth 100000 in
theorem fHi (g off n c k : Nat) (x : World) (hc : k ≤ c) : (Instr.sliceAt 29 (.slice (some ⟨g, off, none⟩) n c) none (some (.int .i64 (k : Int))) none).run Tryz.prog x = .ok (.slice (some ⟨g, off, none⟩) k c) x := by
  have h1 : (k : Int) ≤ c := by omega
  go_simp
set_option maxRecDepth 100000 in
theorem fLo (g off n c k : Nat) (x : World) (hk : k ≤ n) (hc : n ≤ c) : (Instr.sliceAt 29 (.slice (some ⟨g, off, none⟩) n c) (some (.int .i64 (k : Int))) none none).run Tryz.prog x = .ok (restV (some ⟨g, off, none⟩) n c k 5) x := by
  have h1 : (k : Int) ≤ c := by omega
  have h2 : (k : Int) ≤ n := by omega
  have h3 : (n : Int) ≤ c := by omega
  unfold restV
  by_cases e : c = k
  · subst e
    rw [if_pos rfl]
    go_simp
  · rw [if_neg e]
    have e2 : ¬ (c : Int) = k := by omega
    go_simp
set_option maxRecDepth 100000 in
theorem fHiA {a : Option Addr} {n c k : Nat} (h : Nice (.slice a n c)) (hk : k ≤ n) (x : World) : (Instr.sliceAt 29 (.slice a n c) none (some (.int .i64 (k : Int))) none).run Tryz.prog x = .ok (.slice a k c) x := by
  have hc := h.cap
  rcases h with h | ⟨g, off, n', c', h, _⟩
  · simp only [Value.slice.injEq] at h
    obtain ⟨rfl, rfl, rfl⟩ := h
    obtain rfl : k = 0 := by omega
    exact fHiN x
  · simp only [Value.slice.injEq] at h
    obtain ⟨rfl, rfl, rfl⟩ := h
    exact fHi g off n c k x (by omega)
set_option maxRecDepth 100000 in
theorem fLoA {a : Option Addr} {n c k : Nat} (h : Nice (.slice a n c)) (hk : k ≤ n) (x : World) : (Instr.sliceAt 29 (.slice a n c) (some (.int .i64 (k : Int))) none none).run Tryz.prog x = .ok (restV a n c k 5) x := by
  have hc := h.cap
  rcases h with h | ⟨g, off, n', c', h, _⟩
  · simp only [Value.slice.injEq] at h
    obtain ⟨rfl, rfl, rfl⟩ := h
    obtain rfl : k = 0 := by omega
    exact fLoN x
  · simp only [Value.slice.injEq] at h
    obtain ⟨rfl, rfl, rfl⟩ := h
    exact fLo g off n c k x (by omega) hc
set_option maxRecDepth 100000 in
theorem infoRF3 : (Tryz.prog.info? 34).map (fun i => (i.zero, i.size, i.bytes)) = some (some (.agg #[.string ⟨#[]⟩, .bool false, .int .u64 0, .string ⟨#[]⟩, .int .i64 0]), 5, 56) := by kernel_rfl
/-- What the document's Put leaves: the row of the new list. -/
structure Rf (w : World) (v : Value) (l : List Fi) (w' : World) : Prop where
  row : RowsAt Fi.cs 5 w' v l
  nice : Nice v
  k : Below w.heap.size w w'
set_option maxHeartbeats 4000000 in
set_option maxRecDepth 100000 in
theorem rput15_any (l : List Fi) (e : Fi) (v : Value) (w : World) (hR : RowsAt Fi.cs 5 w v l) (hN : Nice v) (hl : l.length ≤ 100000) (hp : ∀ x ∈ l, x.path.length ≤ 400) (he : e.path.length ≤ 400) :
    Calls Tryz.prog 31 #[v, .agg e.cs.toArray] w fun r w' => ∃ v', r = .returned v' ∧ Rf w v' (insF l e) w' := by
  obtain ⟨la, lc, rfl⟩ := hR.form
  obtain ⟨p, hpp⟩ : ∃ p, p = putAt l e := ⟨_, rfl⟩
  have hpl : p ≤ l.length := hpp ▸ putAt_le l e
  have HB := hide (fun (x : Fi) (h : x ∈ l) v => rbefore15_any x.path e.path v (hp x h) he)
  have HP := hide hpp
  have HN := hide hN
  have I0 : Hid (Below w.heap.size w (w.alloc (.cells e.cs.toArray 34)) ∧ (w.alloc (.cells e.cs.toArray 34)).heap[w.heap.size]? = some (.cells e.cs.toArray 34 (0, 0))) := ⟨(Below.refl _ w).alloc (Nat.le_refl _) _, heap_alloc_new w _⟩
  have HR := hide hR
  have hlc := hN.cap
  have hlI : (l.length : Int) ≤ lc := by omega
  clear hR hN hpp hp he
  go_enter Tryz.func31, Tryz.ntmps31
  go_wp2_with fail
  go_loopw [5] (fun v5 wr => ∃ i : Nat, v5 = .int .i64 i ∧ i ≤ p ∧ Hid (Below w.heap.size w wr ∧ wr.heap[w.heap.size]? = some (.cells e.cs.toArray 34 (0, 0)))) (fun v5 _ => p - (intOf v5).toNat)
  case atStart => exact ⟨0, rfl, Nat.zero_le _, I0.out⟩
  case round =>
    obtain ⟨i, rfl, hi, HI⟩ := hrel
    clear I0
    by_cases hip : i < p
    · obtain ⟨x, hx⟩ : ∃ x, l[i]? = some x := ⟨_, List.getElem?_eq_getElem (by omega)⟩
      obtain ⟨g, off, hla, _, _, hgl, hrg⟩ := HR.out.at (fun e => by rw [e] at hx; cases hx)
      subst hla
      have hsp := putAt_spec l e i x hx
      rw [← HP.out] at hsp
      have HBx := hide (fun v => HB.out x (List.mem_of_getElem? hx) v)
      have h0 : (0 : Int) ≤ i := by omega
      have hiI : (i : Int) < l.length := by omega
      have r1 := cell_regrown ((rangeAt_below (hrg i x hx) hgl HI.out.1) 0 _ rfl)
      have r2 := cell_regrown ((cell_of_row _ _ 0 _ _ _ HI.out.2).trans rfl : wr.cell? ⟨w.heap.size, 0, none⟩ = some (.string ⟨e.path.toArray⟩))
      rw [Nat.add_zero] at r1
      clear hx hgl hrg
      have hbt : decide (cmpP x.path e.path < 0) = true := hsp.1 hip
      rw [hbt] at HBx
      clear hbt hsp
      go_upto_region 2 with fail
      refine QuietCalls.region (by kernel_rfl) (by kernel_rfl) ?_
      iterate 12 (first | go_big_quiet_step (fail) | quiet_step (fail))
      refine QuietCalls.call rfl 18 #[.string ⟨x.path.toArray⟩, .string ⟨e.path.toArray⟩] (.bool true) (fun v _ => HBx.out v) (fun v => by go_simp) ?_; simp only [Act.put, List.setIfInBounds_toArray, List.set_cons_succ, List.set_cons_zero]
      iterate 1 (first | go_big_quiet_step (fail) | quiet_step (fail))
      refine wpQuiet_nil ?_
      intro w2 k2
      have HI2 : Hid (Below w.heap.size w w2 ∧ w2.heap[w.heap.size]? = some (.cells e.cs.toArray 34 (0, 0))) := ⟨HI.out.1.trans (k2.mono HI.out.1.size), (k2.block _ (Array.getElem?_eq_some_iff.1 HI.out.2).1).trans HI.out.2⟩
      clear k2 HI
      clear r1 r2 HBx
      go_wp2_with fail
      go_roundw
      case rel => exact ⟨i + 1, by simp, by omega, HI2.out⟩
      case measure => simp [intOf]; omega
    · obtain rfl : p = i := by omega
      by_cases hpl2 : p < l.length
      · obtain ⟨x, hx⟩ : ∃ x, l[p]? = some x := ⟨_, List.getElem?_eq_getElem (by omega)⟩
        obtain ⟨g, off, hla, _, _, hgl, hrg⟩ := HR.out.at (fun e => by rw [e] at hx; cases hx)
        subst hla
        have hsp := putAt_spec l e p x hx
        rw [← HP.out] at hsp
        have HBx := hide (fun v => HB.out x (List.mem_of_getElem? hx) v)
        have h0 : (0 : Int) ≤ p := by omega
        have hiI : (p : Int) < l.length := by omega
        have r1 := cell_regrown ((rangeAt_below (hrg p x hx) hgl HI.out.1) 0 _ rfl)
        have r2 := cell_regrown ((cell_of_row _ _ 0 _ _ _ HI.out.2).trans rfl : wr.cell? ⟨w.heap.size, 0, none⟩ = some (.string ⟨e.path.toArray⟩))
        rw [Nat.add_zero] at r1
        clear hx hgl hrg
        have hbt : decide (cmpP x.path e.path < 0) = false := hsp.2 rfl
        rw [hbt] at HBx
        clear hbt hsp
        go_upto_region 2 with fail
        refine QuietCalls.region (by kernel_rfl) (by kernel_rfl) ?_
        iterate 12 (first | go_big_quiet_step (fail) | quiet_step (fail))
        refine QuietCalls.call rfl 18 #[.string ⟨x.path.toArray⟩, .string ⟨e.path.toArray⟩] (.bool false) (fun v _ => HBx.out v) (fun v => by go_simp) ?_; simp only [Act.put, List.setIfInBounds_toArray, List.set_cons_succ, List.set_cons_zero]
        iterate 1 (first | go_big_quiet_step (fail) | quiet_step (fail))
        refine wpQuiet_nil ?_
        intro w2 k2
        have HI2 : Hid (Below w.heap.size w w2 ∧ w2.heap[w.heap.size]? = some (.cells e.cs.toArray 34 (0, 0))) := ⟨HI.out.1.trans (k2.mono HI.out.1.size), (k2.block _ (Array.getElem?_eq_some_iff.1 HI.out.2).1).trans HI.out.2⟩
        clear k2 HI
        clear r1 r2 HBx
        obtain ⟨lv, hlv⟩ : ∃ lv, lv = Value.slice (some ⟨g, off, none⟩) l.length lc := ⟨_, rfl⟩
        obtain ⟨hv, hhv⟩ : ∃ hv, hv = Value.slice (some ⟨g, off, none⟩) p lc := ⟨_, rfl⟩
        obtain ⟨rv, hrv⟩ : ∃ rv, rv = restV (some ⟨g, off, none⟩) l.length lc p 5 := ⟨_, rfl⟩
        have hHi : Hid (∀ x, (Instr.sliceAt 29 lv none (some (.int .i64 (p : Int))) none).run Tryz.prog x = .ok hv x) := fun x => by rw [hlv, hhv]; exact fHiA HN.out hpl x
        have hLo : Hid (∀ x, (Instr.sliceAt 29 lv (some (.int .i64 (p : Int))) none none).run Tryz.prog x = .ok rv x) := fun x => by rw [hlv, hrv]; exact fLoA HN.out hpl x
        have HH1 : Hid (∀ x, Below w2.heap.size w2 x → RegionOwn.Holds x hv 5 p ((l.take p).flatMap Fi.cs) ∧ RegionOwn.Holds x rv 5 (l.length - p) ((l.drop p).flatMap Fi.cs)) := fun x hx => by
          have hr : RowsAt Fi.cs 5 x (.slice (some ⟨g, off, none⟩) l.length lc) l := HR.out.below (HI2.out.1.trans (hx.mono HI2.out.1.size))
          rw [hhv, hrv]
          exact ⟨hr.hi Fi.cs_length (by decide) HN.out hpl, hr.lo Fi.cs_length (by decide) HN.out hpl⟩
        have HE1 : Hid (∀ x, Below w2.heap.size w2 x → x.heap[w.heap.size]? = some (.cells e.cs.toArray 34 (0, 0))) := fun x hx => (hx.block _ (Array.getElem?_eq_some_iff.1 HI2.out.2).1).trans HI2.out.2
        have HONE : Hid ((∀ es : List Fi, ∀ u ∈ es.flatMap Fi.cs, u.oneCell' = true) ∧ ∀ u ∈ Fi.cs e, u.oneCell' = true) := ⟨fis_one, fi_one e⟩
        obtain ⟨tinfo, hti, htz, hts, htb⟩ := info_parts infoRF3
        have HTI := hide (And.intro hti (And.intro htz (And.intro hts htb)))
        clear hti htz hts htb
        go_upto_region 4 with fail
        rw [← hlv]
        clear hlv hhv hrv
        refine RegionOwn.regionK 12 34 34 5 (fun i => match i with
          | 0 => RegionOwn.row 0 [] 4
          | 1 => RegionOwn.val lv
          | 2 => RegionOwn.val (.int .i64 (p : Nat))
          | 3 => RegionOwn.val hv
          | 4 => RegionOwn.row p ((l.take p).flatMap Fi.cs) 7
          | 5 => RegionOwn.val (.agg #[.string ⟨e.path.toArray⟩, .bool e.dir, .int .u64 e.id, .string e.dg, .int .i64 e.size])
          | 6 => RegionOwn.row 1 (Fi.cs e) 7
          | 7 => RegionOwn.row (p + 1) ((l.take p).flatMap Fi.cs ++ Fi.cs e) 11
          | 8 => RegionOwn.val lv
          | 9 => RegionOwn.val (.int .i64 (p : Nat))
          | 10 => RegionOwn.val rv
          | 11 => RegionOwn.row (p + 1 + (l.length - p)) ((l.take p).flatMap Fi.cs ++ Fi.cs e ++ (l.drop p).flatMap Fi.cs) 12
          | _ => RegionOwn.val undef) (fun i => match i with | 0 => some 4 | 4 => some 7 | 6 => some 7 | 7 => some 11 | 11 => some 12 | _ => none) ?_ (by kernel_rfl) rfl (by kernel_rfl) ?_ ?_ ?_
        · intro i hi
          match i, hi with
          | 0, _ | 1, _ | 2, _ | 3, _ | 4, _ | 5, _ | 6, _ | 7, _ | 8, _ | 9, _ | 10, _ | 11, _ => rfl
          | i + 12, h => exact absurd h (by omega)
        · intro i p hi h
          match i, hi, h with
          | 0, _, h | 1, _, h | 2, _, h | 3, _, h | 4, _, h | 5, _, h | 6, _, h | 7, _, h | 8, _, h | 9, _, h | 10, _, h | 11, _, h => cases h
          | i + 12, h, _ => exact absurd h (by omega)
        · intro i hi y x hfr hbx hD hO K hK
          have el : RegionOwn.T y 0 = lv := hfr.at (by kernel_rfl) rfl
          have ea : RegionOwn.T y 5 = .int .i64 (p : Nat) := hfr.at (by kernel_rfl) rfl
          have ee : RegionOwn.T y 3 = .pointer (some ⟨w.heap.size, 0, none⟩) := hfr.at (by kernel_rfl) rfl
          have hsz := hbx.size
          match i, hi with
          | 0, _ =>
            refine RegionOwn.made (ob := .cells #[] 34) (v := .slice (some ⟨x.heap.size, 0, none⟩) 0 0) rfl rfl hK (World.ownsRow_made x #[] 0 hsz (Nat.zero_le _) rfl) (fun g h => by simp [Value.ownBlock] at h; omega) ?_
            clear hK hD hfr hO
            go_simp
          | 1, _ =>
            refine RegionOwn.quiet rfl rfl hK rfl rfl ?_
            clear hK hD hfr hO
            unfold RegionOwn.T at el
            go_simp
          | 2, _ =>
            refine RegionOwn.quiet rfl rfl hK rfl rfl ?_
            clear hK hD hfr hO
            unfold RegionOwn.T at ea
            go_simp
          | 3, _ =>
            refine RegionOwn.quiet rfl rfl hK rfl rfl ?_
            have q : RegionOwn.T y 23 = lv := hD 1 23 (by decide) rfl (by kernel_rfl) (.inl rfl)
            have q1 : RegionOwn.T y 24 = .int .i64 (p : Nat) := hD 2 24 (by decide) rfl (by kernel_rfl) (.inl rfl)
            have hr := hHi.out x
            clear hK hD hfr hO
            unfold RegionOwn.T at q q1
            go_simp
          | 4, _ =>
            have q : x.ownsRow w2.heap.size 34 5 (RegionOwn.T y 22) 0 [] := hD 0 22 (by decide) rfl (by kernel_rfl) (.inr rfl)
            have q1 : RegionOwn.T y 25 = hv := hD 3 25 (by decide) rfl (by kernel_rfl) (.inl rfl)
            refine RegionOwn.appended (j := 0) (k := p) (ys := (l.take p).flatMap Fi.cs) rfl rfl hK rfl tinfo _ 5 56 Tryz.underlying29 HTI.out.1 HTI.out.2.1 HTI.out.2.2.1 HTI.out.2.2.2 rfl (by decide) (by decide) rfl rfl q hsz (by rw [q1]; exact (HH1.out x hbx).1) (HONE.out.1 _) (by simp only [maxLen]; omega) (by omega) fun v z hz => ?_
            rw [Nat.zero_add] at hz
            exact hz
          | 5, _ =>
            refine RegionOwn.quiet rfl rfl hK rfl rfl ?_
            have xr := HE1.out x hbx
            have c0 := cell_of_row _ _ 0 _ _ _ xr
            have c1 := cell_of_row _ _ 1 _ _ _ xr
            have c2 := cell_of_row _ _ 2 _ _ _ xr
            have c3 := cell_of_row _ _ 3 _ _ _ xr
            have c4 := cell_of_row _ _ 4 _ _ _ xr
            simp [Fi.cs] at c0 c1 c2 c3 c4
            clear hK hD hfr hO xr
            unfold RegionOwn.T at ee
            go_simp
          | 6, _ =>
            have q : RegionOwn.T y 27 = .agg #[.string ⟨e.path.toArray⟩, .bool e.dir, .int .u64 e.id, .string e.dg, .int .i64 e.size] := hD 5 27 (by decide) rfl (by kernel_rfl) (.inl rfl)
            refine RegionOwn.made (ob := .cells (Fi.cs e).toArray 34) (v := .slice (some ⟨x.heap.size, 0, none⟩) 1 1) rfl rfl hK (RegionOwn.made_one x _ 34 5 (Fi.cs e).toArray hsz rfl) (fun g h => by simp [Value.ownBlock] at h; omega) ?_
            unfold Fi.cs
            clear hK hD hfr hO
            unfold RegionOwn.T at q
            have q' := q
            rw [Array.getD_eq_getD_getElem?] at q'
            go_simp
          | 7, _ =>
            have q : x.ownsRow w2.heap.size 34 5 (RegionOwn.T y 26) p ((l.take p).flatMap Fi.cs) := hD 4 26 (by decide) rfl (by kernel_rfl) (.inr rfl)
            have q1 : x.ownsRow w2.heap.size 34 5 (RegionOwn.T y 28) 1 (Fi.cs e) := hD 6 28 (by decide) rfl (by kernel_rfl) (.inr rfl)
            exact RegionOwn.appended (j := 4) (k := 1) (ys := Fi.cs e) rfl rfl hK rfl tinfo _ 5 56 Tryz.underlying29 HTI.out.1 HTI.out.2.1 HTI.out.2.2.1 HTI.out.2.2.2 rfl (by decide) (by decide) rfl rfl q hsz (.of_own q1) HONE.out.2 (by simp only [maxLen]; omega) (by omega) fun v z hz => hz
          | 8, _ =>
            refine RegionOwn.quiet rfl rfl hK rfl rfl ?_
            clear hK hD hfr hO
            unfold RegionOwn.T at el
            go_simp
          | 9, _ =>
            refine RegionOwn.quiet rfl rfl hK rfl rfl ?_
            clear hK hD hfr hO
            unfold RegionOwn.T at ea
            go_simp
          | 10, _ =>
            refine RegionOwn.quiet rfl rfl hK rfl rfl ?_
            have q : RegionOwn.T y 30 = lv := hD 8 30 (by decide) rfl (by kernel_rfl) (.inl rfl)
            have q1 : RegionOwn.T y 31 = .int .i64 (p : Nat) := hD 9 31 (by decide) rfl (by kernel_rfl) (.inl rfl)
            have hr := hLo.out x
            clear hK hD hfr hO
            unfold RegionOwn.T at q q1
            go_simp
          | 11, _ =>
            have q : x.ownsRow w2.heap.size 34 5 (RegionOwn.T y 29) (p + 1) ((l.take p).flatMap Fi.cs ++ Fi.cs e) := hD 7 29 (by decide) rfl (by kernel_rfl) (.inr rfl)
            have q1 : RegionOwn.T y 32 = rv := hD 10 32 (by decide) rfl (by kernel_rfl) (.inl rfl)
            exact RegionOwn.appended (j := 7) (k := l.length - p) (ys := (l.drop p).flatMap Fi.cs) rfl rfl hK rfl tinfo _ 5 56 Tryz.underlying29 HTI.out.1 HTI.out.2.1 HTI.out.2.2.1 HTI.out.2.2.2 rfl (by decide) (by decide) rfl rfl q hsz (by rw [q1]; exact (HH1.out x hbx).2) (HONE.out.1 _) (by simp only [maxLen]; omega) (by omega) fun v z hz => hz
          | i + 12, h => exact absurd h (by omega)
        · intro y x hfr hbx hD
          have q : x.ownsRow w2.heap.size 34 5 (RegionOwn.T y 33) (p + 1 + (l.length - p)) ((l.take p).flatMap Fi.cs ++ Fi.cs e ++ (l.drop p).flatMap Fi.cs) := hD 11 33 (by decide) rfl (fun i hi e => by cases e; omega)
          obtain ⟨va, vc, hv'⟩ := RegionOwn.own_form q
          have hl34 : List.range 34 = [0, 1, 2, 3, 4, 5, 6, 7, 8, 9, 10, 11, 12, 13, 14, 15, 16, 17, 18, 19, 20, 21, 22, 23, 24, 25, 26, 27, 28, 29, 30, 31, 32, 33] := by decide
          have hdf : y.defers = [] := hfr.defers
          have hrow : RowsAt Fi.cs 5 x (RegionOwn.T y 33) (insF l e) := by
            have e1 : insF l e = l.take p ++ e :: l.drop p := by rw [HP.out]; exact insF_at l e
            have e2 : (insF l e).length = p + 1 + (l.length - p) := by rw [e1, List.length_append, List.length_cons, List.length_take, List.length_drop]; omega
            refine RowsAt.of_own (base := w2.heap.size) (e := 34) Fi.cs_length ?_
            rw [e2, e1, List.flatMap_append, List.flatMap_cons, ← List.append_assoc]
            exact q
          have HF := hide (Rf.mk hrow (Nice.of_own q) (HI2.out.1.trans (hbx.mono HI2.out.1.size)))
          rw [hv'] at HF
          rw [RegionOwn.act_lit y 34 (hfr.size.trans rfl), hl34, hdf]
          simp only [List.map_cons, List.map_nil, List.drop_succ_cons, List.drop_zero, hv']
          clear hD hfr q hrow hl34 hdf hv'
          go_wp2
          refine bodyPost_ret (results_tmp Tryz.results31 _ _ _) rfl ?_
          exact ⟨_, rfl, HF.out⟩
      · have hnl : ¬ (p : Int) < l.length := by omega
        go_upto_region 2 with fail
        refine QuietCalls.region (by kernel_rfl) (by kernel_rfl) ?_
        iterate 14 (first | go_big_quiet_step (fail) | quiet_step (fail))
        refine wpQuiet_nil ?_
        intro w2 k2
        have HI2 : Hid (Below w.heap.size w w2 ∧ w2.heap[w.heap.size]? = some (.cells e.cs.toArray 34 (0, 0))) := ⟨HI.out.1.trans (k2.mono HI.out.1.size), (k2.block _ (Array.getElem?_eq_some_iff.1 HI.out.2).1).trans HI.out.2⟩
        clear k2 HI
        obtain ⟨lv, hlv⟩ : ∃ lv, lv = Value.slice la l.length lc := ⟨_, rfl⟩
        obtain ⟨hv, hhv⟩ : ∃ hv, hv = Value.slice la p lc := ⟨_, rfl⟩
        obtain ⟨rv, hrv⟩ : ∃ rv, rv = restV la l.length lc p 5 := ⟨_, rfl⟩
        have hHi : Hid (∀ x, (Instr.sliceAt 29 lv none (some (.int .i64 (p : Int))) none).run Tryz.prog x = .ok hv x) := fun x => by rw [hlv, hhv]; exact fHiA HN.out hpl x
        have hLo : Hid (∀ x, (Instr.sliceAt 29 lv (some (.int .i64 (p : Int))) none none).run Tryz.prog x = .ok rv x) := fun x => by rw [hlv, hrv]; exact fLoA HN.out hpl x
        have HH1 : Hid (∀ x, Below w2.heap.size w2 x → RegionOwn.Holds x hv 5 p ((l.take p).flatMap Fi.cs) ∧ RegionOwn.Holds x rv 5 (l.length - p) ((l.drop p).flatMap Fi.cs)) := fun x hx => by
          have hr : RowsAt Fi.cs 5 x (.slice la l.length lc) l := HR.out.below (HI2.out.1.trans (hx.mono HI2.out.1.size))
          rw [hhv, hrv]
          exact ⟨hr.hi Fi.cs_length (by decide) HN.out hpl, hr.lo Fi.cs_length (by decide) HN.out hpl⟩
        have HE1 : Hid (∀ x, Below w2.heap.size w2 x → x.heap[w.heap.size]? = some (.cells e.cs.toArray 34 (0, 0))) := fun x hx => (hx.block _ (Array.getElem?_eq_some_iff.1 HI2.out.2).1).trans HI2.out.2
        have HONE : Hid ((∀ es : List Fi, ∀ u ∈ es.flatMap Fi.cs, u.oneCell' = true) ∧ ∀ u ∈ Fi.cs e, u.oneCell' = true) := ⟨fis_one, fi_one e⟩
        obtain ⟨tinfo, hti, htz, hts, htb⟩ := info_parts infoRF3
        have HTI := hide (And.intro hti (And.intro htz (And.intro hts htb)))
        clear hti htz hts htb
        go_upto_region 4 with fail
        rw [← hlv]
        clear hlv hhv hrv
        refine RegionOwn.regionK 12 34 34 5 (fun i => match i with
          | 0 => RegionOwn.row 0 [] 4
          | 1 => RegionOwn.val lv
          | 2 => RegionOwn.val (.int .i64 (p : Nat))
          | 3 => RegionOwn.val hv
          | 4 => RegionOwn.row p ((l.take p).flatMap Fi.cs) 7
          | 5 => RegionOwn.val (.agg #[.string ⟨e.path.toArray⟩, .bool e.dir, .int .u64 e.id, .string e.dg, .int .i64 e.size])
          | 6 => RegionOwn.row 1 (Fi.cs e) 7
          | 7 => RegionOwn.row (p + 1) ((l.take p).flatMap Fi.cs ++ Fi.cs e) 11
          | 8 => RegionOwn.val lv
          | 9 => RegionOwn.val (.int .i64 (p : Nat))
          | 10 => RegionOwn.val rv
          | 11 => RegionOwn.row (p + 1 + (l.length - p)) ((l.take p).flatMap Fi.cs ++ Fi.cs e ++ (l.drop p).flatMap Fi.cs) 12
          | _ => RegionOwn.val undef) (fun i => match i with | 0 => some 4 | 4 => some 7 | 6 => some 7 | 7 => some 11 | 11 => some 12 | _ => none) ?_ (by kernel_rfl) rfl (by kernel_rfl) ?_ ?_ ?_
        · intro i hi
          match i, hi with
          | 0, _ | 1, _ | 2, _ | 3, _ | 4, _ | 5, _ | 6, _ | 7, _ | 8, _ | 9, _ | 10, _ | 11, _ => rfl
          | i + 12, h => exact absurd h (by omega)
        · intro i p hi h
          match i, hi, h with
          | 0, _, h | 1, _, h | 2, _, h | 3, _, h | 4, _, h | 5, _, h | 6, _, h | 7, _, h | 8, _, h | 9, _, h | 10, _, h | 11, _, h => cases h
          | i + 12, h, _ => exact absurd h (by omega)
        · intro i hi y x hfr hbx hD hO K hK
          have el : RegionOwn.T y 0 = lv := hfr.at (by kernel_rfl) rfl
          have ea : RegionOwn.T y 5 = .int .i64 (p : Nat) := hfr.at (by kernel_rfl) rfl
          have ee : RegionOwn.T y 3 = .pointer (some ⟨w.heap.size, 0, none⟩) := hfr.at (by kernel_rfl) rfl
          have hsz := hbx.size
          match i, hi with
          | 0, _ =>
            refine RegionOwn.made (ob := .cells #[] 34) (v := .slice (some ⟨x.heap.size, 0, none⟩) 0 0) rfl rfl hK (World.ownsRow_made x #[] 0 hsz (Nat.zero_le _) rfl) (fun g h => by simp [Value.ownBlock] at h; omega) ?_
            clear hK hD hfr hO
            go_simp
          | 1, _ =>
            refine RegionOwn.quiet rfl rfl hK rfl rfl ?_
            clear hK hD hfr hO
            unfold RegionOwn.T at el
            go_simp
          | 2, _ =>
            refine RegionOwn.quiet rfl rfl hK rfl rfl ?_
            clear hK hD hfr hO
            unfold RegionOwn.T at ea
            go_simp
          | 3, _ =>
            refine RegionOwn.quiet rfl rfl hK rfl rfl ?_
            have q : RegionOwn.T y 23 = lv := hD 1 23 (by decide) rfl (by kernel_rfl) (.inl rfl)
            have q1 : RegionOwn.T y 24 = .int .i64 (p : Nat) := hD 2 24 (by decide) rfl (by kernel_rfl) (.inl rfl)
            have hr := hHi.out x
            clear hK hD hfr hO
            unfold RegionOwn.T at q q1
            go_simp
          | 4, _ =>
            have q : x.ownsRow w2.heap.size 34 5 (RegionOwn.T y 22) 0 [] := hD 0 22 (by decide) rfl (by kernel_rfl) (.inr rfl)
            have q1 : RegionOwn.T y 25 = hv := hD 3 25 (by decide) rfl (by kernel_rfl) (.inl rfl)
            refine RegionOwn.appended (j := 0) (k := p) (ys := (l.take p).flatMap Fi.cs) rfl rfl hK rfl tinfo _ 5 56 Tryz.underlying29 HTI.out.1 HTI.out.2.1 HTI.out.2.2.1 HTI.out.2.2.2 rfl (by decide) (by decide) rfl rfl q hsz (by rw [q1]; exact (HH1.out x hbx).1) (HONE.out.1 _) (by simp only [maxLen]; omega) (by omega) fun v z hz => ?_
            rw [Nat.zero_add] at hz
            exact hz
          | 5, _ =>
            refine RegionOwn.quiet rfl rfl hK rfl rfl ?_
            have xr := HE1.out x hbx
            have c0 := cell_of_row _ _ 0 _ _ _ xr
            have c1 := cell_of_row _ _ 1 _ _ _ xr
            have c2 := cell_of_row _ _ 2 _ _ _ xr
            have c3 := cell_of_row _ _ 3 _ _ _ xr
            have c4 := cell_of_row _ _ 4 _ _ _ xr
            simp [Fi.cs] at c0 c1 c2 c3 c4
            clear hK hD hfr hO xr
            unfold RegionOwn.T at ee
            go_simp
          | 6, _ =>
            have q : RegionOwn.T y 27 = .agg #[.string ⟨e.path.toArray⟩, .bool e.dir, .int .u64 e.id, .string e.dg, .int .i64 e.size] := hD 5 27 (by decide) rfl (by kernel_rfl) (.inl rfl)
            refine RegionOwn.made (ob := .cells (Fi.cs e).toArray 34) (v := .slice (some ⟨x.heap.size, 0, none⟩) 1 1) rfl rfl hK (RegionOwn.made_one x _ 34 5 (Fi.cs e).toArray hsz rfl) (fun g h => by simp [Value.ownBlock] at h; omega) ?_
            unfold Fi.cs
            clear hK hD hfr hO
            unfold RegionOwn.T at q
            have q' := q
            rw [Array.getD_eq_getD_getElem?] at q'
            go_simp
          | 7, _ =>
            have q : x.ownsRow w2.heap.size 34 5 (RegionOwn.T y 26) p ((l.take p).flatMap Fi.cs) := hD 4 26 (by decide) rfl (by kernel_rfl) (.inr rfl)
            have q1 : x.ownsRow w2.heap.size 34 5 (RegionOwn.T y 28) 1 (Fi.cs e) := hD 6 28 (by decide) rfl (by kernel_rfl) (.inr rfl)
            exact RegionOwn.appended (j := 4) (k := 1) (ys := Fi.cs e) rfl rfl hK rfl tinfo _ 5 56 Tryz.underlying29 HTI.out.1 HTI.out.2.1 HTI.out.2.2.1 HTI.out.2.2.2 rfl (by decide) (by decide) rfl rfl q hsz (.of_own q1) HONE.out.2 (by simp only [maxLen]; omega) (by omega) fun v z hz => hz
          | 8, _ =>
            refine RegionOwn.quiet rfl rfl hK rfl rfl ?_
            clear hK hD hfr hO
            unfold RegionOwn.T at el
            go_simp
          | 9, _ =>
            refine RegionOwn.quiet rfl rfl hK rfl rfl ?_
            clear hK hD hfr hO
            unfold RegionOwn.T at ea
            go_simp
          | 10, _ =>
            refine RegionOwn.quiet rfl rfl hK rfl rfl ?_
            have q : RegionOwn.T y 30 = lv := hD 8 30 (by decide) rfl (by kernel_rfl) (.inl rfl)
            have q1 : RegionOwn.T y 31 = .int .i64 (p : Nat) := hD 9 31 (by decide) rfl (by kernel_rfl) (.inl rfl)
            have hr := hLo.out x
            clear hK hD hfr hO
            unfold RegionOwn.T at q q1
            go_simp
          | 11, _ =>
            have q : x.ownsRow w2.heap.size 34 5 (RegionOwn.T y 29) (p + 1) ((l.take p).flatMap Fi.cs ++ Fi.cs e) := hD 7 29 (by decide) rfl (by kernel_rfl) (.inr rfl)
            have q1 : RegionOwn.T y 32 = rv := hD 10 32 (by decide) rfl (by kernel_rfl) (.inl rfl)
            exact RegionOwn.appended (j := 7) (k := l.length - p) (ys := (l.drop p).flatMap Fi.cs) rfl rfl hK rfl tinfo _ 5 56 Tryz.underlying29 HTI.out.1 HTI.out.2.1 HTI.out.2.2.1 HTI.out.2.2.2 rfl (by decide) (by decide) rfl rfl q hsz (by rw [q1]; exact (HH1.out x hbx).2) (HONE.out.1 _) (by simp only [maxLen]; omega) (by omega) fun v z hz => hz
          | i + 12, h => exact absurd h (by omega)
        · intro y x hfr hbx hD
          have q : x.ownsRow w2.heap.size 34 5 (RegionOwn.T y 33) (p + 1 + (l.length - p)) ((l.take p).flatMap Fi.cs ++ Fi.cs e ++ (l.drop p).flatMap Fi.cs) := hD 11 33 (by decide) rfl (fun i hi e => by cases e; omega)
          obtain ⟨va, vc, hv'⟩ := RegionOwn.own_form q
          have hl34 : List.range 34 = [0, 1, 2, 3, 4, 5, 6, 7, 8, 9, 10, 11, 12, 13, 14, 15, 16, 17, 18, 19, 20, 21, 22, 23, 24, 25, 26, 27, 28, 29, 30, 31, 32, 33] := by decide
          have hdf : y.defers = [] := hfr.defers
          have hrow : RowsAt Fi.cs 5 x (RegionOwn.T y 33) (insF l e) := by
            have e1 : insF l e = l.take p ++ e :: l.drop p := by rw [HP.out]; exact insF_at l e
            have e2 : (insF l e).length = p + 1 + (l.length - p) := by rw [e1, List.length_append, List.length_cons, List.length_take, List.length_drop]; omega
            refine RowsAt.of_own (base := w2.heap.size) (e := 34) Fi.cs_length ?_
            rw [e2, e1, List.flatMap_append, List.flatMap_cons, ← List.append_assoc]
            exact q
          have HF := hide (Rf.mk hrow (Nice.of_own q) (HI2.out.1.trans (hbx.mono HI2.out.1.size)))
          rw [hv'] at HF
          rw [RegionOwn.act_lit y 34 (hfr.size.trans rfl), hl34, hdf]
          simp only [List.map_cons, List.map_nil, List.drop_succ_cons, List.drop_zero, hv']
          clear hD hfr q hrow hl34 hdf hv'
          go_wp2
          refine bodyPost_ret (results_tmp Tryz.results31 _ _ _) rfl ?_
          exact ⟨_, rfl, HF.out⟩
end Go.Proofs.YtmnenamdjkjlaaaGreatDoor
/- Contract: the document's image of things, folder by folder. -/
namespace Go.Img
open Go.RowKit Go.Mov
theorem txts_map (l : List (List UInt8)) : Go.Names.txts (l.map fun x => (⟨x.toArray⟩ : ByteArray)) = l := by
  unfold Go.Names.txts
  rw [List.map_map]
  conv => rhs; rw [← List.map_id l]
  exact List.map_congr_left fun x _ => rfl
theorem th_row {w : World} {g o : Nat} {x : Th} (h : w.rangeAt g o x.cs) : w.cell? ⟨g, o, none⟩ = some (.int .u64 x.id) ∧ w.cell? ⟨g, o + 2, none⟩ = some (.string x.name) ∧ w.cell? ⟨g, o + 3, none⟩ = some (.bool x.dir) ∧ w.cell? ⟨g, o + 4, none⟩ = some (.string x.dg) ∧ w.cell? ⟨g, o + 5, none⟩ = some (.int .i64 x.size) :=
  ⟨h 0 _ rfl, h 2 _ rfl, h 3 _ rfl, h 4 _ rfl, h 5 _ rfl⟩
end Go.Img
namespace Go.Proofs.YtmnenamdjkjlaaaGreatDoor
open Go.RowKit Go.Img Go.Shelf Go.Rws Go.MapInt
open Go.Names hiding seek
open Go.Mov hiding fold
attribute [local go_sem] Oper.semAt_some
set_option maxHeartbeats 8000000 in
set_option maxRecDepth 100000 in
theorem rof15_any (T : Ths) (hl : T.length ≤ 127) (hnm : ∀ x ∈ T, x.name.size ≤ 1000000) : ∀ (n : Nat) (k : Int) (f : List UInt8) (v : Value) (w : World), 240 ≤ n + f.length → f.length ≤ 238 → RowsAt Th.cs 6 w v T → (docOf T n k f).length ≤ 100000 →
    Calls Tryz.prog 8 #[v, .int .u64 k, .string ⟨(Img.head f).toArray⟩] w fun r w' => ∃ v', r = .returned v' ∧ Rf w v' (docOf T n k f) w' := by
  intro n
  induction n with
  | zero => intro k f v w h1 h2; omega
  | succ n ih =>
    intro k f v w h1 h2 hR hd
    obtain ⟨va, vc, rfl⟩ := hR.form
    have HK := hide (rkids_any T k (.slice va T.length vc) w hR (by omega))
    have HIH := hide ih
    have HR := hide hR
    obtain ⟨K, hK⟩ : ∃ K, K = kidsOf T k := ⟨_, rfl⟩
    have hKl : K.length ≤ 127 := by rw [hK]; exact Nat.le_trans (List.length_filter_le _ _) hl
    have HKN : Hid (∀ x ∈ K, x.name.size ≤ 1000000) := fun x hx => hnm x (by rw [hK] at hx; exact (kids_par hx).1)
    have HU : Hid (∀ i, (upTo T n f K i).length ≤ 100000) := fun i => by rw [hK]; exact Nat.le_trans (upTo_le i) hd
    have HE : Hid (upTo T n f K K.length = docOf T (n + 1) k f) := by show _ = _; rw [hK]; exact upTo_all T n f k
    rw [← hK] at HK
    obtain ⟨D, hD⟩ : ∃ D, D = docOf T (n + 1) k f := ⟨_, rfl⟩
    rw [← hD] at HE ⊢
    obtain ⟨Hs, hHs⟩ : ∃ Hs : ByteArray, Hs = ⟨(Img.head f).toArray⟩ := ⟨_, rfl⟩
    rw [← hHs]
    have HH := hide hHs
    have HF := hide (And.intro h1 h2)
    have hHl : Hs.size ≤ 239 := by
      rw [hHs]
      show (Img.head f).toArray.size ≤ _
      unfold Img.head
      split <;> simp <;> omega
    clear ih hR hd hnm hK hD hHs h1 h2
    go_enter Tryz.func8, Tryz.ntmps8
    go_upto_region 3 with (go_at_call 29; refine HK.out.mono ?_; rintro r w1 ⟨kv, rfl, hk⟩; obtain ⟨ka, kc, rfl⟩ := hk.row.form; have I1 := hide hk; clear hk HK)
    have HA0 : Hid (Ar w1 (.slice (some ⟨w1.heap.size, 0, none⟩) 0 0) ((K.map nameOf).take 0) (w1.alloc (.cells #[] 9))) := ⟨World.ownsRow_made w1 #[] 0 (Nat.le_refl _) (Nat.zero_le _) rfl, (Below.refl _ w1).alloc (Nat.le_refl _) _⟩
    go_wp2_with fail
    go_loopw [8, 9] (fun v8 v9 wr => ∃ (i : Nat) (a : Option Addr) (c : Nat), v9 = .int .i64 i ∧ v8 = .slice a i c ∧ i ≤ K.length ∧ Hid (Ar w1 (.slice a i c) ((K.map nameOf).take i) wr)) (fun _ v9 _ => K.length - (intOf v9).toNat)
    case atStart => exact ⟨0, _, _, rfl, rfl, Nat.zero_le _, HA0.out⟩
    case round =>
      obtain ⟨i, a, c, rfl, rfl, hi, HI⟩ := hrel
      clear HA0
      have h0 : (0 : Int) ≤ i := by omega
      by_cases hil : i < K.length
      · obtain ⟨x, hx⟩ : ∃ x, K[i]? = some x := ⟨_, List.getElem?_eq_getElem hil⟩
        obtain ⟨g, off, hla, _, hcap, hgl, hrg⟩ := I1.out.row.at (fun e => by rw [e] at hx; cases hx)
        subst hla
        have hiI : (i : Int) < K.length := by omega
        have hcI : (K.length : Int) ≤ kc := by omega
        have c2 := (th_row (rangeAt_below (hrg i x hx) hgl HI.out.below)).2.1
        have hLn : Hid (((K.map nameOf).take i).length = i) := by show _ = _; rw [List.length_take, List.length_map]; omega
        have hnext : Hid ((K.map nameOf).take (i + 1) = (K.map nameOf).take i ++ [nameOf x]) := by
          show _ = _
          rw [List.take_add_one, List.getElem?_map, hx]
          rfl
        have hnx : Hid ((⟨(nameOf x).toArray⟩ : ByteArray) = x.name) := by show _ = _; unfold nameOf; simp
        generalize (K.map nameOf).take i = outs at HI hLn hnext
        clear hx hgl hrg hcap
        go_wp2_with (at_builtin; refine HI.out.append (nameOf x) (by rw [hLn.out]; omega) rfl _ _ rfl rfl rfl (by rw [hnx.out]) ?_; intro a1 c1 w3 h3; have H3 := hide h3; clear h3)
        go_roundw
        case rel =>
          refine ⟨i + 1, a1, c1, by simp, by rw [hLn.out], by omega, ?_⟩
          show Ar _ _ _ _
          rw [hnext.out]
          have := H3.out
          rw [hLn.out] at this
          exact this
        case measure => simp [intOf]; omega
      · obtain rfl : i = K.length := by omega
        have e1 : (K.map nameOf).take K.length = K.map nameOf := List.take_of_length_le (by rw [List.length_map]; exact Nat.le_refl _)
        rw [e1] at HI
        clear e1
        have HAs := hide (rassign_any (.slice a K.length c) _ wr HI.out.reads (by rw [List.length_map, List.length_map]; omega) (fun y hy => by
          obtain ⟨z, hz, rfl⟩ := List.mem_map.1 hy
          obtain ⟨x, hx, rfl⟩ := List.mem_map.1 hz
          have := HKN.out x hx
          have e : (⟨(nameOf x).toArray⟩ : ByteArray) = x.name := by unfold nameOf; simp
          rw [e]; exact this))
        rw [txts_map, List.length_map, List.length_map] at HAs
        obtain ⟨A, hA⟩ : ∃ A, A = asg (K.map nameOf) := ⟨_, rfl⟩
        have hAl : A.length = K.length := by rw [hA, asg_length, List.length_map]
        have HAL : Hid (∀ s ∈ A, legal s = true) := by rw [hA]; exact asg_legal _ (by rw [List.length_map]; omega)
        rw [← hA] at HAs
        have HAA := hide hA
        have HI2 := hide (I1.out.k.trans (HI.out.below.mono I1.out.k.size))
        have hnI : ¬ (K.length : Int) < K.length := by omega
        have HKR := hide (I1.out.row.below HI.out.below)
        clear hA I1
        go_upto_region 9 with (go_at_call 30; refine HAs.out.mono ?_; rintro r w2 ⟨na, nc, rfl, ho, hb⟩; have HN : Hid (Ar wr (.slice na K.length nc) A w2) := ⟨by rw [hAl]; exact ho, hb⟩; clear ho hb HAs)
        have HK2 := hide (And.intro (HKR.out.below HN.out.below) (HI2.out.trans (HN.out.below.mono HI2.out.size)))
        have HO0 : Hid (Rf w (.slice (some ⟨w2.heap.size, 0, none⟩) 0 0) (upTo T n f K 0) (w2.alloc (.cells #[] 34)) ∧ Below w2.heap.size w2 (w2.alloc (.cells #[] 34))) :=
          ⟨⟨.inl ⟨⟨_, _, rfl⟩, rfl⟩, .inr ⟨_, 0, 0, 0, rfl, Nat.le_refl _⟩, HK2.out.2.alloc HK2.out.2.size _⟩, (Below.refl _ w2).alloc (Nat.le_refl _) _⟩
        clear HI HI2 HKR
        go_wp2_with fail
        go_loopw [10, 11] (fun v10 v11 wz => ∃ i : Nat, v11 = .int .i64 i ∧ i ≤ K.length ∧ Hid (Rf w v10 (upTo T n f K i) wz ∧ Below w2.heap.size w2 wz)) (fun _ v11 _ => K.length - (intOf v11).toNat)
        case atStart => exact ⟨0, rfl, Nat.zero_le _, HO0.out⟩
        case round =>
          obtain ⟨i, rfl, hi, HJ⟩ := hrel
          clear HO0
          have h0 : (0 : Int) ≤ i := by omega
          by_cases hil : i < K.length
          · obtain ⟨x, hx⟩ : ∃ x, K[i]? = some x := ⟨_, List.getElem?_eq_getElem hil⟩
            obtain ⟨s, hs⟩ : ∃ s, A[i]? = some s := ⟨_, List.getElem?_eq_getElem (by omega)⟩
            obtain ⟨g, off, hka, _, hkc, hgl, hrg⟩ := (HK2.out.1.below HJ.out.2).at (fun e => by rw [e] at hx; cases hx)
            subst hka
            have hR2 := (HN.out.reads).below HJ.out.2 (Nat.le_refl _)
            obtain ⟨b, o2, cp, hvv, hcp, hb⟩ := hR2.at (fun e => by
              have := congrArg List.length e
              rw [List.length_map, List.length_nil] at this
              omega)
            simp only [Value.slice.injEq] at hvv
            obtain ⟨rfl, hvl, rfl⟩ := hvv
            clear hvl
            have hms : (A.map fun x => (⟨x.toArray⟩ : ByteArray))[i]? = some ⟨s.toArray⟩ := by rw [List.getElem?_map, hs]; rfl
            have hcell := hR2.cell hms
            rw [List.length_map, hAl] at hcp
            have hiI : (i : Int) < K.length := by omega
            have hcI : (K.length : Int) ≤ kc := by omega
            have hcp' : (K.length : Int) ≤ nc := by omega
            have hleg := HAL.out s (List.mem_of_getElem? hs)
            simp only [legal, Bool.and_eq_true, decide_eq_true_eq] at hleg
            have hs1 : 1 ≤ s.length ∧ s.length ≤ 32 := by omega
            have hrow := hrg i x hx
            obtain ⟨c0, c2, c3, c4, c5⟩ := th_row hrow
            have HRW := hide (And.intro hrow hgl)
            have HNX := hide (upTo_next (T := T) (n := n) (f := f) hx (by rw [← HAA.out]; exact hs))
            obtain ⟨S, hS⟩ : ∃ S : ByteArray, S = ⟨s.toArray⟩ := ⟨_, rfl⟩
            rw [← hS] at hcell
            have hSs : S.size ≤ 32 := by rw [hS]; show s.toArray.size ≤ 32; simp; omega
            have hP : (⟨(Img.head f ++ s).toArray⟩ : ByteArray) = Hs ++ S := by
              rw [hS, HH.out]
              apply ByteArray.ext
              apply Array.toList_inj.1
              simp
            have hPl : (Hs ++ S).size = (Img.head f ++ s).length := by rw [← hP]; show (Img.head f ++ s).toArray.size = _; simp
            have hPS : Hs.size + S.size = (Hs ++ S).size := by rw [ByteArray.size_append]
            have HP := hide hP
            obtain ⟨p, hp⟩ : ∃ p, p = Img.head f ++ s := ⟨_, rfl⟩
            rw [← hp] at HP hPl HNX
            have hp1 : 1 ≤ p.length := by rw [hp, List.length_append]; omega
            have hpf : f.length + 1 ≤ p.length := by
              rw [hp, List.length_append]
              unfold Img.head
              split
              · rename_i e; rw [e]; simp; omega
              · simp; try omega
            clear hx hs hrg hkc hR2 hcp hb hms hleg hrow hS hP hp
            by_cases hbig : p.length ≤ 238
            · have hb1 : ((Hs ++ S).size : Int) ≤ 238 := by omega
              have hb2 : (Hs.size : Int) + S.size ≤ 238 := by omega
              clear hPS hPl
              have hfa : fileAt x p = some ⟨p, x.dir, x.id, x.dg, x.size⟩ := by unfold fileAt; rw [if_pos hbig]
              rw [hfa] at HNX
              obtain ⟨y, hy⟩ : ∃ y : Fi, y = ⟨p, x.dir, x.id, x.dg, x.size⟩ := ⟨_, rfl⟩
              rw [← hy] at HNX
              have HLo := hide (And.intro (HU.out i) (HU.out (i + 1)))
              have HSh := hide (short_upTo T n f K i)
              obtain ⟨out, ho⟩ : ∃ out, out = upTo T n f K i := ⟨_, rfl⟩
              rw [← ho] at HNX HLo HSh HJ
              have hnx : upTo T n f K (i + 1) = putF T n out y := HNX.out
              rw [hnx] at HLo
              have HNX2 := hide hnx
              have HPut : Hid (∀ v, Below wr.heap.size wr v → Calls Tryz.prog 31 #[u10, .agg #[.string (Hs ++ S), .bool x.dir, .int .u64 x.id, .string x.dg, .int .i64 x.size]] v fun r w' => ∃ v', r = .returned v' ∧ Rf v v' (insF out y) w') := fun v kv => by
                have h9 := rput15_any out y u10 v (HJ.out.1.row.below kv) HJ.out.1.nice HLo.out.1 (fun z hz => Nat.le_trans (HSh.out z hz) (by decide)) (by rw [hy]; show p.length ≤ 400; omega)
                have e : y.cs.toArray = #[.string (Hs ++ S), .bool x.dir, .int .u64 x.id, .string x.dg, .int .i64 x.size] := by rw [hy, ← HP.out]; rfl
                rw [e] at h9
                exact h9
              have r0 := cell_regrown c0
              have r3 := cell_regrown c3
              have r4 := cell_regrown c4
              have r5 := cell_regrown c5
              have hyd : y.dir = x.dir ∧ y.id = x.id ∧ y.path = p := by rw [hy]; exact ⟨rfl, rfl, rfl⟩
              have HYD := hide hyd
              clear ho hnx HNX hfa hy hyd
              go_upto_region 14 with fail
              clear c0 c2 c3 c4 c5 hcell
              refine QuietCalls.tail 23 (by kernel_rfl) (by kernel_rfl) ?_
              simp only [List.take_succ_cons, List.take_zero, List.drop_succ_cons, List.drop_zero]
              iterate 23 first | go_big_quiet_step (fail) | quiet_step (fail)
              refine wpQuiet_nil ?_
              intro w3 k3
              have K3 := hide k3
              clear k3 r0 r3 r4 r5
              go_upto_region 15 with (go_at_call 31; refine (HPut.out _ K3.out).mono ?_; rintro r w4 ⟨ov2, rfl, hrf⟩; have I4 := hide hrf; have K4 := hide (K3.out.trans (hrf.k.mono K3.out.size)); clear hrf HPut)
              obtain ⟨c0, c2, c3, c4, c5⟩ := th_row (rangeAt_below HRW.out.1 HRW.out.2 K4.out)
              have HJ4 : Hid (Rf w ov2 (insF out y) w4 ∧ Below w2.heap.size w2 w4) := ⟨⟨I4.out.row, I4.out.nice, HJ.out.1.k.trans (K4.out.mono HJ.out.1.k.size)⟩, HJ.out.2.trans (K4.out.mono HJ.out.2.size)⟩
              clear I4 K3 K4 HJ
              have hxd : x.dir = true ∨ x.dir = false := by cases x.dir <;> simp
              rcases hxd with hxd | hxd
              · have hfn : 240 ≤ n + p.length := by have := HF.out.1; omega
                rw [hxd] at c3
                have hyt : putF T n out y = (docOf T n x.id p).foldl insF (insF out y) := by
                  unfold putF
                  rw [HYD.out.1, hxd, if_pos rfl, HYD.out.2.1, HYD.out.2.2]
                rw [hyt] at HLo HNX2
                have hBl : (docOf T n x.id p).length ≤ 100000 := by
                  have := HLo.out.2
                  rw [foldl_len] at this
                  omega
                have HOf : Hid (Calls Tryz.prog 8 #[.slice va T.length vc, .int .u64 x.id, .string (Hs ++ S ++ ⟨#[47]⟩)] w4 fun r w' => ∃ v', r = .returned v' ∧ Rf w4 v' (docOf T n x.id p) w') := by
                  have h9 := HIH.out x.id p (.slice va T.length vc) w4 hfn hbig (HR.out.below HJ4.out.1.k) hBl
                  have e : (⟨(Img.head p).toArray⟩ : ByteArray) = Hs ++ S ++ ⟨#[47]⟩ := by
                    rw [head_ne (fun e => by rw [e] at hp1; simp at hp1), ← HP.out]
                    apply ByteArray.ext
                    apply Array.toList_inj.1
                    simp
                  rw [e] at h9
                  exact h9
                have HBS := hide (short_doc T n x.id p)
                obtain ⟨Bl, hB⟩ : ∃ Bl, Bl = docOf T n x.id p := ⟨_, rfl⟩
                rw [← hB] at HOf HLo HNX2 HBS hBl
                have HLN := hide (insF_len out y)
                have HSI := hide (short_insF (f := y) HSh.out (by rw [HYD.out.2.2]; exact hbig))
                generalize insF out y = out1 at HJ4 HLo HNX2 HLN HSI
                clear hB hyt
                go_upto_region 17 with (go_at_call 8; refine HOf.out.mono ?_; rintro r w5 ⟨bv, rfl, hb⟩; obtain ⟨ba, bc, rfl⟩ := hb.row.form; have I5 := hide hb; clear hb HOf)
                have HJ5 : Hid (Rf w ov2 ((Bl.take 0).foldl insF out1) w5 ∧ Below w2.heap.size w2 w5 ∧ Below w5.heap.size w5 w5) := ⟨⟨HJ4.out.1.row.below I5.out.k, HJ4.out.1.nice, HJ4.out.1.k.trans (I5.out.k.mono HJ4.out.1.k.size)⟩, HJ4.out.2.trans (I5.out.k.mono HJ4.out.2.size), Below.refl _ _⟩
                clear c0 c2 c3 c4 c5 HJ4
                go_wp2_with fail
                go_loopw [10, 14] (fun v10 v14 wy => ∃ j : Nat, v14 = .int .i64 j ∧ j ≤ Bl.length ∧ Hid (Rf w v10 ((Bl.take j).foldl insF out1) wy ∧ Below w2.heap.size w2 wy ∧ Below w5.heap.size w5 wy)) (fun _ v14 _ => Bl.length - (intOf v14).toNat)
                case atStart => exact ⟨0, rfl, Nat.zero_le _, HJ5.out⟩
                case round =>
                  obtain ⟨j, rfl, hj, HQ⟩ := hrel
                  clear HJ5
                  have hj0 : (0 : Int) ≤ j := by omega
                  by_cases hjl : j < Bl.length
                  · obtain ⟨z, hz⟩ : ∃ z, Bl[j]? = some z := ⟨_, List.getElem?_eq_getElem hjl⟩
                    obtain ⟨g3, off3, hba, _, hbc, hgl3, hrg3⟩ := (I5.out.row.below HQ.out.2.2).at (fun e => by rw [e] at hz; cases hz)
                    subst hba
                    have hjI : (j : Int) < Bl.length := by omega
                    have hbI : (Bl.length : Int) ≤ bc := by omega
                    have HRG := hide (hrg3 j z hz)
                    have hnz : (Bl.take (j + 1)).foldl insF out1 = insF ((Bl.take j).foldl insF out1) z := by
                      rw [List.take_add_one, hz, Option.toList_some, List.foldl_append]
                      rfl
                    have HNZ := hide hnz
                    have HPz := hide (rput15_any ((Bl.take j).foldl insF out1) z u10 wr HQ.out.1.row HQ.out.1.nice (by
                      rw [foldl_len, List.length_take]
                      have := HLo.out.2
                      rw [foldl_len] at this
                      omega) (fun q hq => Nat.le_trans (short_foldl (fun y' hy' => HBS.out y' (List.mem_of_mem_take hy')) HSI.out q hq) (by decide)) (Nat.le_trans (HBS.out z (List.mem_of_getElem? hz)) (by decide)))
                    clear hz hrg3 hbc hgl3 hnz
                    go_wp2_with (first
                      | (refine wpList_load_mid rfl 34 _ rfl g3 (off3 + j * 5) rfl z.cs _ HRG.out Tryz.underlying34 rfl infoRF ?_)
                      | (go_at_call 31; refine HPz.out.mono ?_; rintro r w6 ⟨ov4, rfl, hrf⟩; have I6 := hide hrf; clear hrf HPz))
                    go_roundw
                    case rel => exact ⟨j + 1, by simp, by omega, by rw [HNZ.out]; exact ⟨⟨I6.out.row, I6.out.nice, HQ.out.1.k.trans (I6.out.k.mono HQ.out.1.k.size)⟩, HQ.out.2.1.trans (I6.out.k.mono HQ.out.2.1.size), HQ.out.2.2.trans (I6.out.k.mono HQ.out.2.2.size)⟩⟩
                    case measure => simp [intOf]; omega
                  · obtain rfl : j = Bl.length := by omega
                    have hjI : ¬ (Bl.length : Int) < Bl.length := by omega
                    rw [List.take_length] at HQ
                    go_wp2_with fail
                    go_roundw
                    case rel => exact ⟨i + 1, by simp, by omega, by rw [HNX2.out]; exact ⟨HQ.out.1, HQ.out.2.1⟩⟩
                    case measure => simp [intOf]; omega
              · rw [hxd] at c3
                have hyt : putF T n out y = insF out y := by
                  unfold putF
                  rw [HYD.out.1, hxd, if_neg (by decide)]
                rw [hyt] at HNX2
                clear hyt
                go_wp2_with fail
                go_roundw
                case rel => exact ⟨i + 1, by simp, by omega, by rw [HNX2.out]; exact HJ4.out⟩
                case measure => simp [intOf]; omega
            · have hb1 : (Hs.size : Int) + S.size ≤ 300 := by omega
              have hb2 : Hs.size + S.size ≤ 300 := by omega
              have hb3 : (238 : Int) < ((Hs ++ S).size : Int) := by omega
              have hb4 : (238 : Int) < (Hs.size : Int) + S.size := by omega
              clear hPS hPl
              have hfa : fileAt x p = none := by unfold fileAt; rw [if_neg hbig]
              rw [hfa] at HNX
              have hnx : upTo T n f K (i + 1) = upTo T n f K i := HNX.out
              have HNX2 := hide hnx
              clear hfa hnx HNX
              go_wp2_with fail
              go_roundw
              case rel => exact ⟨i + 1, by simp, by omega, by rw [HNX2.out]; exact HJ.out⟩
              case measure => simp [intOf]; omega
          · obtain rfl : i = K.length := by omega
            go_wp2_with fail
            refine bodyPost_ret (results_tmp Tryz.results8 _ _ _) rfl ?_
            rw [HE.out] at HJ
            exact ⟨_, rfl, HJ.out.1⟩
end Go.Proofs.YtmnenamdjkjlaaaGreatDoor
