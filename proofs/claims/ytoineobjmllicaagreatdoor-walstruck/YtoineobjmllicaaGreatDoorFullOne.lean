/- Several texts in one: WalFullWalk. -/
import Derived.Test.YtoineobjmllicaaGreatDoorWlFive
/- The walk of WalFull. -/
namespace Go.Wal
open Go.RowKit Go.Dk
/-- A slice of slices of texts. -/
def Lists (w : World) (v : Value) (L : List (List Bs)) : Prop :=
  ∃ a c, v = .slice a L.length c ∧ L.length ≤ c ∧ ∀ j ls, L[j]? = some ls → ∃ b off vj, a = some ⟨b, off, none⟩ ∧ w.cell? ⟨b, off + j, none⟩ = some vj ∧ Texts w vj ls
theorem cells_of_own {W : World} {base g n c : Nat} {l : List Bs} (h : W.ownsRow base 9 1 (.slice (some ⟨g, 0, none⟩) n c) n (tv l)) : ∀ j u, (tv l)[j]? = some u → W.cell? ((⟨g, 0, none⟩ : Addr).add j) = some u := fun j u hj => by
  have hl : (tv l).length = n := by have := h.1; simpa using this
  have hjl := (List.getElem?_eq_some_iff.1 hj).1
  rcases h.2 with ⟨h1, _⟩ | ⟨g', cap, cur, h1, h2, h3, h4, _, h6, h7⟩
  · cases h1
  · cases h1
    have hadd : (⟨g, 0, none⟩ : Addr).add j = ⟨g, j, none⟩ := by unfold Addr.add; split <;> simp_all
    rw [hadd, cell_of_row _ _ _ _ _ _ h3, ← Array.getElem?_toList]
    have : (cur.toList.take (n * 1))[j]? = some u := by rw [h7]; exact hj
    rwa [List.getElem?_take_of_lt (by omega)] at this
theorem own_some {W : World} {base e n : Nat} {v : Value} {xs : List Value} (h : W.ownsRow base e 1 v n xs) (hne : ¬ v = .slice none 0 0) : ∃ g c, v = .slice (some ⟨g, 0, none⟩) n c := by
  rcases h.2 with ⟨h1, _⟩ | ⟨g, cap, cur, h1, _⟩
  · exact absurd h1 hne
  · exact ⟨g, cap, h1⟩
theorem tv_length (l : List Bs) : (tv l).length = l.length := by unfold tv; exact List.length_map ..
theorem tv_append (l m : List Bs) : tv (l ++ m) = tv l ++ tv m := by unfold tv; exact List.map_append
theorem tv_one (l : List Bs) : ∀ u ∈ tv l, u.oneCell' = true := fun u hu => by unfold tv at hu; obtain ⟨x, _, rfl⟩ := List.mem_map.1 hu; rfl
def firstB : Bs := [102, 105, 114, 115, 116]
def lastB : Bs := [108, 97, 115, 116]
theorem Ok.room {a : A} {first : Nat} {cs : List (List Bs)} (h : Ok a first cs) (n : Int) : Ok { a with room := n } first cs := ⟨h.img, h.fall, h.down⟩
theorem ok0 : Ok A0 1 [] := ⟨⟨by simp [A0, Rises], fun f => by simp [A0], Nat.le_refl _, by decide, by simp, by simp⟩, rfl, rfl⟩
/-- append, where a guard says yes. -/
theorem append_own_on {P : Program} (w : World) {ops : Array Oper} {rest : List Oper} {o : Oper} {a : Act} {Q : Exit → Act → World → Prop} (hw : Region.wanted o (yielded ops a.tmps) = true) (s x : Operand) (t : TypeId)
    (ho : o.op = .call { callee := .builtin .append, args := #[s, x], argTypes := #[t, t] })
    (base : Nat) (e : TypeId) (i : TypeInfo) (z : Value) (size bytes : Nat) (ht : P.underlying t = some (.slice e)) (hi : P.info? e = some i) (hz : i.zero = some z)
    (hsize : i.size = size) (hby : i.bytes = bytes) (hzs : z.cells.size = size) (hsz : 0 < size)
    (v : Value) (n : Nat) (xs : List Value) (hs : a.eval s = v) (hown : w.ownsRow base e size v n xs)
    (ad : Addr) (m c : Nat) (news : List Value) (hx : a.eval x = .slice (some ad) m c) (hl : news.length = m * size) (hnews : ∀ j u, news[j]? = some u → w.cell? (ad.add j) = some u) (h1 : ∀ u ∈ news, u.oneCell' = true)
    (h63 : n + m ≤ maxLen) (hbytes : (n + m) * bytes ≤ 140737488355328) (hbase : base ≤ w.heap.size)
    (h : ∀ v' w', w'.ownsRow base e size v' (n + m) (xs ++ news) → w.grownBy w' v.ownBlock → (v' = .slice none 0 0 ↔ v = .slice none 0 0 ∧ m = 0) → wpList P ops Q rest (a.put o.dst v') w') : wpList P ops Q (o :: rest) a w :=
  wpList_step fun _ hK => by
    simp only [hw, if_true]
    exact wp_append_own w s x t ho base e i z size bytes ht hi hz hsize hby hzs hsz v n xs hs hown ad m c news hx hl hnews h1 h63 hbytes hbase fun v' w' h2 h3 h4 => hK _ _ (h v' w' h2 h3 h4)
end Go.Wal
namespace Go.Proofs.YtoineobjmllicaaGreatDoor
open Go.RowKit Go.Dk Go.Wal
theorem and_some (n : Int) (c : Nat) (hc : c < 100000) : ∃ m : Nat, m ≤ c ∧ bits .and .i64 n (c : Int) = (m : Int) := by
  have h1 : (BitVec.ofInt 64 n &&& BitVec.ofInt 64 (c : Int)).toNat ≤ c := by
    rw [BitVec.toNat_and]
    refine Nat.le_trans Nat.and_le_right ?_
    simp
    omega
  refine ⟨(BitVec.ofInt 64 n &&& BitVec.ofInt 64 (c : Int)).toNat, h1, ?_⟩
  have e : bits .and .i64 n (c : Int) = IntKind.i64.wrap ((BitVec.ofInt 64 n &&& BitVec.ofInt 64 (c : Int)).toNat : Int) := rfl
  rw [e]
  generalize (BitVec.ofInt 64 n &&& BitVec.ofInt 64 (c : Int)).toNat = m at h1
  simp [IntKind.wrap, IntKind.bits, IntKind.signed]
  omega
/-- Room, of a disk with a log. -/
theorem playRoom (w : World) (d K b : Nat) (a : A) (l : Lg) (rv : Value) (n : Int) (W : World) (h : Pw Tryz.prog TLog w d K b a l rv W) :
    Calls Tryz.prog 35 #[.pointer (some ⟨d, 0, none⟩), .int .i64 n] W fun e W' => e = .returned (.tuple #[]) ∧ Pw Tryz.prog TLog w d K b { a with room := n } l rv W' ∧ (∀ mv m, Mr w rv mv m W → Mr w rv mv m W') := by
  obtain ⟨S, hS, hD⟩ := h.disk
  refine (room_op w.heap.size K d S n W hD).mono ?_
  rintro e W' ⟨he, T, hT, hD', hk⟩
  exact ⟨he, ⟨⟨T, by rw [hT, hS], hD'⟩, h.log.dsk hk, h.below.trans (hk.below h.below.size)⟩, fun mv m hm => hm.dsk hk⟩
/-- New, and Open. -/
theorem playNew (w : World) : Calls Tryz.prog 9 #[] w fun e w1 => e = .returned (.pointer (some ⟨w.heap.size, 0, none⟩)) ∧ (∃ S : WD, S.a = A0 ∧ DiskAt Tryz.prog (fun _ => True) w.heap.size 0 w.heap.size w1 S) ∧ Below w.heap.size w w1 :=
  (new_any w).mono fun _ w1 ⟨he, hr, hb⟩ => ⟨he, ⟨bare (-1), rfl, fresh_disk w.heap.size w.heap.size w1 (Nat.le_refl _) hr⟩, hb⟩
/-- A text of one's own, laid just now. -/
theorem lit_own (W : World) (t : Bs) : (W.alloc (.cells #[.string ⟨t.toArray⟩] 9)).ownsRow W.heap.size 9 1 (.slice (some ⟨W.heap.size, 0, none⟩) [t].length 1) [t].length (tv [t]) :=
  World.ownsRow_lit W #[.string ⟨t.toArray⟩] 1 (Nat.le_refl _) (by unfold maxLen; omega) rfl
/-- What WalFull keeps between two rounds. -/
structure Fl (w : World) (b K N R : Nat) (m : List Bs) (mv : Value) (wr : World) : Prop where
  all : ∃ (first : Nat) (cs : List (List Bs)) (a : A) (rv : Value), Pw Tryz.prog TLog w w.heap.size K b a (logOf 60 first cs) rv wr ∧ Ok a first cs ∧ Mr w rv mv m wr ∧ cs.flatten = m ∧ first + cs.length ≤ N ∧ m.length ≤ R
/-- Used, of a disk with a log. -/
theorem playUsed (w : World) (d K b : Nat) (a : A) (l : Lg) (rv : Value) (W : World) (h : Pw Tryz.prog TLog w d K b a l rv W) :
    Calls Tryz.prog 36 #[.pointer (some ⟨d, 0, none⟩)] W fun e W' => (∃ n : Nat, e = .returned (.int .i64 n)) ∧ Below W.heap.size W W' := by
  obtain ⟨S, _, hD⟩ := h.disk
  exact (used_any w.heap.size K d S W hD).mono fun _ _ ⟨he, hb⟩ => ⟨⟨_, he⟩, hb⟩
/-- Add of one short text, laid just now, where there is any room. -/
theorem playAdd1 (w : World) (hv : Vars w) (d K b most first : Nat) (cs : List (List Bs)) (a : A) (rv : Value) (t : Bs) (W : World) (h : Pw Tryz.prog TLog w d K b a (logOf most first cs) rv W) (ho : Ok a first cs) (hr : ¬ 0 ≤ a.room)
    (hm : most ≤ 256) (ht : t.length ≤ 200) (hfew : first + cs.length ≤ 900) (hrec : cs.flatten.length ≤ 10000) (hK : K + 1 ≤ 5000) :
    Calls Tryz.prog 18 #[.pointer (some ⟨b, 0, none⟩), .slice (some ⟨W.heap.size, 0, none⟩) 1 1] (W.alloc (.cells #[.string ⟨t.toArray⟩] 9)) fun e W' =>
      ∃ rv' a', e = .returned (.int .i64 0) ∧ Pw Tryz.prog TLog w d (K + 1) b a' (logOf most (addS most first cs [t]).1 (addS most first cs [t]).2) rv' W' ∧ Ok a' (addS most first cs [t]).1 (addS most first cs [t]).2 ∧ a'.room = a.room ∧ (addS most first cs [t]).1 + (addS most first cs [t]).2.length ≤ first + cs.length + 1 ∧
        (∀ mv m, Mr w rv mv m W → Mr w rv' mv m W') := by
  have hb : Below W.heap.size W (W.alloc (.cells #[.string ⟨t.toArray⟩] 9)) := (Below.refl _ _).alloc (Nat.le_refl _) _
  refine (playAdd w hv d K b most first cs a rv [t] W.heap.size 1 _ (h.under hb) ho (Mr.fresh h.log (lit_own W t) h.below.size) hm (by simpa using ht) (by simp) hfew hrec hK).mono ?_
  rintro e W' ⟨rv', ⟨_, h1, _⟩ | ⟨a', h1, h2, h3, h4, h5⟩, h6⟩
  · exact absurd h1 hr
  · exact ⟨rv', a', h1, h2, h3, h4, h5, fun mv m hm' => h6.1 mv m (hm'.under hb)⟩
set_option maxRecDepth 100000 in
set_option maxHeartbeats 4000000 in
theorem walFull_any (v : Value) (L : List (List Bs)) (room : Int) (w : World) (hL : Lists w v L) (hs : ∀ ls ∈ L, ls.length ≤ maxLen ∧ ∀ l ∈ ls, l.length ≤ maxLen) (_hn : L.length ≤ maxLen) (hv : Vars w) :
    Calls Tryz.prog 7 #[v, .int .i64 room] w fun e w' => e = .returned (.bool true) ∧ Below w.heap.size w w' := by
  obtain ⟨va, vc, rfl, hvc, hcells⟩ := hL
  obtain ⟨i9, hi9, hz0, hz1, hz2⟩ := info_parts info_str
  obtain ⟨rm, hrm, hand⟩ := and_some room 511 (by decide)
  have hand2 : bits .and .i64 room 511 = (rm : Int) := hand
  clear hand
  have HV := hide hv
  have HC := hide hcells
  have HS := hide hs
  clear hv hcells hs
  have HN := hide (playNew w)
  have HO1 : Hid (∀ W, (∃ S : WD, S.a = A0 ∧ DiskAt Tryz.prog (fun _ => True) w.heap.size 0 w.heap.size W S) → Below w.heap.size w W → _) := fun W h1 h2 => playOpen w HV.out w.heap.size 0 60 1 [] A0 W h1 h2 ok0 (by decide) (by decide) (by decide)
  have HAW : Hid (∀ W, Below w.heap.size w W → Calls Tryz.prog 11 #[] W fun e w' => e = .returned (.bool true) ∧ Below W.heap.size W w') := fun W h => walAwake_any W (Vars.below HV.out h)
  go_enter Tryz.func7, Tryz.ntmps7
  go_wp2_with (first
    | (go_at_call 9; refine HN.out.mono ?_; rintro e w1 ⟨rfl, k1, k2⟩; have K1 := hide (And.intro k1 k2); clear k1 k2)
    | (go_at_call 10; refine (HO1.out w1 K1.out.1 K1.out.2).mono ?_; rintro e w2 ⟨b, rv, rfl, k1, _⟩; have K2 := hide k1; clear k1)
    | (go_at_call 11; refine (HAW.out w2 K2.out.below).mono ?_; rintro e w3 ⟨rfl, k1⟩; have K3 := hide (K2.out.under k1); have HA1 := hide (playAdd1 w HV.out w.heap.size _ b 60 1 [] A0 rv firstB w3 K3.out ok0 (by decide) (by decide) (by decide) (by decide) (by decide) (by decide)); clear k1)
    | (go_at_call 18; refine HA1.out.mono ?_; rintro e w4 ⟨rv4, a4, rfl, k1, k2, _⟩; have K4 := hide k1; have O4 := hide k2; clear k1 k2)
    | (go_at_call 36; refine (playUsed _ _ _ _ _ _ _ _ K4.out).mono ?_; rintro e w5 ⟨⟨us, rfl⟩, k1⟩; have K5 := hide (K4.out.under k1); clear k1)
    | (go_at_call 35; refine (playRoom _ _ _ _ _ _ _ _ _ K5.out).mono ?_; rintro e w6 ⟨rfl, k1, _⟩; have K6 := hide k1; clear k1))
  clear HA1 HO1 HN K1 K2 K3 K4 K5
  go_loopw [10, 11] (fun vm vi wr => ∃ (i mg mc : Nat) (m : List Bs), i ≤ L.length ∧ (i : Int) ≤ 20 ∧ vi = .int .i64 i ∧ vm = .slice (some ⟨mg, 0, none⟩) m.length mc ∧ Hid (Fl w b (2 + i) (2 + i) (1 + 6 * i) m (.slice (some ⟨mg, 0, none⟩) m.length mc) wr)) (fun _ vi _ => 20 - (intOf vi).toNat)
  case atStart =>
    have hb : Below w6.heap.size w6 (w6.alloc (.cells #[.string ⟨firstB.toArray⟩] 9)) := (Below.refl _ _).alloc (Nat.le_refl _) _
    exact ⟨0, w6.heap.size, 1, [firstB], Nat.zero_le _, by omega, rfl, rfl, ⟨1, [[firstB]], _, rv4, K6.out.under hb, O4.out.room _, Mr.fresh K6.out.log (lit_own w6 firstB) K6.out.below.size, rfl, by decide, by decide⟩⟩
  case round =>
    clear K6 O4
    obtain ⟨i, mg, mc, m, hi, hi20, rfl, rfl, HF⟩ := hrel
    by_cases hlt : i < L.length ∧ (i : Int) < 20
    · obtain ⟨h1, h2⟩ := hlt
      have h1' : (i : Int) < L.length := by omega
      obtain ⟨first, cs, a, rv, hP, hO, hM, hfl, hfw, hml⟩ := HF.out.all
      obtain ⟨ls, hls⟩ : ∃ ls, L[i]? = some ls := ⟨_, List.getElem?_eq_getElem h1⟩
      obtain ⟨vb, voff, vj, rfl, hcell, hT⟩ := HC.out i ls hls
      have q0 : wr.cell? ⟨vb, voff + i, none⟩ = some vj := (hP.below.cell (p := ⟨vb, voff + i, none⟩) (cell_lt hcell)).trans hcell
      have hss := HS.out ls (List.mem_of_getElem? hls)
      have HCUT := hide (cut7s_any vj ls wr (hT.below hP.below) hss.2 hss.1)
      have hx2 : ∀ r ∈ cut7 ls, r.length ≤ 200 := fun r hr => cut7_few hr
      have hxl := cut7_length ls
      obtain ⟨ja, jn, jc, hvj⟩ : ∃ a n c, vj = .slice a n c := by obtain ⟨a, c, h, _⟩ := hT; exact ⟨a, _, c, h⟩
      subst hvj
      generalize cut7 ls = x at *
      have HP := hide hP
      have HM := hide hM
      have HO := hide hO
      have HX2 := hide hx2
      have HFL := hide hfl
      clear hP hM hO hcell hT hss hls hx2 hfl
      go_wp2_with (first
        | (go_at_call 12; refine HCUT.out.mono ?_; rintro e w7 ⟨xg, xc, rfl, hown, k1⟩; have K7 := hide (HP.out.under k1); have M7 := hide (HM.out.under k1); have X7 := hide (Mr.fresh HP.out.log hown HP.out.below.size); have HADD := hide (playAdd w HV.out w.heap.size (2 + i) b 60 first cs a rv x xg xc w7 K7.out HO.out X7.out (by decide) HX2.out hxl (by omega) (by rw [HFL.out]; omega) (by omega)); clear k1 hown))
      refine HADD.out.mono ?_
      rintro e w8 ⟨rv8, (⟨rfl, _, k8⟩ | ⟨a8, rfl, k8, o8, _, hfew8⟩), hmr⟩
      · have K8 := hide k8
        have M8 := hide (hmr.1 _ _ M7.out)
        have HALL := hide (playAll w w.heap.size _ b a (logOf 60 first cs) rv8 w8 K8.out (by rw [logOf_recs, HFL.out]; omega))
        rw [logOf_recs, HFL.out] at HALL
        clear k8 hmr HADD HCUT K7 M7 X7 HP HM
        go_wp2_with (first
          | (go_at_call 20; refine HALL.out.mono ?_; rintro e w9 ⟨v9, rfl, t9, k9⟩; have M9 := hide (M8.out.under k9); have K9 := hide (K8.out.under k9); have HSA := hide (same_any v9 _ m m w9 t9 M9.out.texts (by omega)); rw [decide_eq_true rfl] at HSA; clear t9 k9)
          | (go_at_call 19; refine HSA.out.mono ?_; rintro e w10 ⟨rfl, k10⟩; have MA := hide (M9.out.under k10); have KA := hide (K9.out.under k10); clear k10))
        go_roundw
        case rel => exact ⟨i + 1, mg, mc, m, by omega, by omega, by go_num, rfl, ⟨first, cs, a, rv8, by rw [show 2 + (i + 1) = 2 + i + 1 by omega]; exact KA.out, HO.out, MA.out, HFL.out, by omega, by omega⟩⟩
        case measure => simp [intOf]; omega
      · have K8 := hide k8
        have O8 := hide o8
        have M8 := hide (hmr.1 _ _ M7.out)
        have X8 := hide (hmr.1 _ _ X7.out)
        clear k8 o8 hmr HADD HCUT K7 M7 X7 HP HM
        have hb0 : Below w8.heap.size w8 (w8.alloc (.cells #[] 9)) := (Below.refl _ _).alloc (Nat.le_refl _) _
        have HOWN0 : Hid ((w8.alloc (.cells #[] 9)).ownsRow w8.heap.size 9 1 (.slice (some ⟨w8.heap.size, 0, none⟩) 0 0) 0 []) := World.ownsRow_made w8 #[] 0 (Nat.le_refl _) (Nat.zero_le _) rfl
        have HCM := hide (cells_of_own (own_below M8.out.own hb0))
        go_wp2_with (at_builtin; refine wpList_append_own _ rfl _ _ 30 rfl w8.heap.size 9 i9 (.string ⟨#[]⟩) 1 16 under_strs hi9 hz0 hz1 hz2 rfl (by decide) _ _ _ rfl HOWN0.out ⟨mg, 0, none⟩ m.length mc (tv m) rfl ?a1 HCM.out (tv_one m) ?a3 ?a4 ?a5 ?_)
        case a1 => rw [tv_length, Nat.mul_one]
        case a3 => unfold maxLen; omega
        case a4 => omega
        case a5 => simp
        intro v1 w9 hown1 hgrow1 hne1
        obtain ⟨g1, c1, rfl⟩ := own_some hown1 hne1
        have B9 := hide (hb0.grown hgrow1 hb0.size fun k e => ownsRow_ge HOWN0.out e)
        have OW1 := hide hown1
        have HCX := hide (cells_of_own (own_below X8.out.own B9.out))
        clear hown1 hgrow1 hne1 hb0
        go_wp2_with (at_builtin; refine wpList_append_own _ rfl _ _ 30 rfl w8.heap.size 9 i9 (.string ⟨#[]⟩) 1 16 under_strs hi9 hz0 hz1 hz2 rfl (by decide) _ _ _ rfl OW1.out ⟨xg, 0, none⟩ x.length xc (tv x) rfl ?b1 HCX.out (tv_one x) ?b3 ?b4 ?b5 ?_)
        case b1 => rw [tv_length, Nat.mul_one]
        case b3 => unfold maxLen; omega
        case b4 => omega
        case b5 => exact B9.out.size
        intro v2 w10 hown2 hgrow2 hne2
        obtain ⟨g2, c2, rfl⟩ := own_some hown2 hne2
        have BA := hide (B9.out.grown hgrow2 B9.out.size fun k e => ownsRow_ge OW1.out e)
        have hlen : (m ++ x).length = m.length + x.length := List.length_append ..
        rw [← hlen] at hown2 ⊢
        rw [← tv_append] at hown2
        have HLEN := hide hlen
        have hml' : (m ++ x).length ≤ 1 + 6 * (i + 1) := by omega
        clear hlen
        have MA := hide (Mr.fresh K8.out.log hown2 K8.out.below.size)
        have KA := hide (K8.out.under BA.out)
        clear HLEN
        have HFA : Hid ((addS 60 first cs x).2.flatten = m ++ x) := by show _ = _; rw [addS_flat, HFL.out]
        generalize (addS 60 first cs x).1 = first' at *
        generalize (addS 60 first cs x).2 = cs' at *
        generalize m ++ x = m' at *
        have HALL := hide (playAll w w.heap.size _ b a8 (logOf 60 first' cs') rv8 w10 KA.out (by rw [logOf_recs, HFA.out]; omega))
        rw [logOf_recs, HFA.out] at HALL
        clear hown2 hgrow2 hne2 HOWN0 HCM OW1 HCX B9 BA M8 X8 K8
        go_wp2_with (first
          | (go_at_call 20; refine HALL.out.mono ?_; rintro e w11 ⟨v11, rfl, t11, k11⟩; have MB := hide (MA.out.under k11); have KB := hide (KA.out.under k11); have HSA := hide (same_any v11 _ m' m' w11 t11 MB.out.texts (by omega)); rw [decide_eq_true rfl] at HSA; clear t11 k11)
          | (go_at_call 19; refine HSA.out.mono ?_; rintro e w12 ⟨rfl, k12⟩; have MC := hide (MB.out.under k12); have KC := hide (KB.out.under k12); clear k12))
        go_roundw
        case rel => exact ⟨i + 1, g2, c2, m', by omega, by omega, by go_num, rfl, ⟨first', cs', a8, rv8, by rw [show 2 + (i + 1) = 2 + i + 1 by omega]; exact KC.out, O8.out, MC.out, HFA.out, by omega, by omega⟩⟩
        case measure => simp [intOf]; omega
    · obtain ⟨first, cs, a, rv, hP, hO, hM, hfl, hfw, hml⟩ := HF.out.all
      have hex : ¬ ((i : Int) < L.length) ∨ ((i : Int) < L.length ∧ ¬ ((i : Int) < 20)) := by omega
      have HP := hide hP
      have HM := hide hM
      have HO := hide hO
      have HFL := hide hfl
      clear hP hM hO hfl hlt HF
      rcases hex with e1 | ⟨e1, e2⟩
      all_goals
        go_wp2_with (first
          | (go_at_call 35; refine (playRoom _ _ _ _ _ _ _ _ _ HP.out).mono ?_; rintro e w7 ⟨rfl, k1, k2⟩; have K7 := hide k1; have M7 := hide (k2 _ _ HM.out); have HAD := hide (playAdd1 w HV.out w.heap.size _ b 60 first cs _ rv lastB w7 K7.out (HO.out.room (-1)) (show ¬ (0 : Int) ≤ -1 by decide) (by decide) (by decide) (by omega) (by rw [HFL.out]; omega) (by omega)); clear k1 k2)
          | (go_at_call 18; refine HAD.out.mono ?_; rintro e w8 ⟨rv8, a8, rfl, k1, k2, _, k3, k4⟩; have K8 := hide k1; have O8 := hide k2; have M8 := hide (k4 _ _ M7.out); have hfew8 := k3; have HFA : Hid ((addS 60 first cs [lastB]).2.flatten = m ++ [lastB]) := (by show _ = _; rw [addS_flat, HFL.out]); clear k1 k2 k3 k4; generalize (addS 60 first cs [lastB]).1 = first' at *; generalize (addS 60 first cs [lastB]).2 = cs' at *; have HOP := hide (playOpen w HV.out w.heap.size _ 60 first' cs' a8 w8 K8.out.disk K8.out.below O8.out (by decide) (by rw [HFA.out, List.length_append]; simp; omega) (by omega)))
          | (go_at_call 10; refine HOP.out.mono ?_; rintro e w9 ⟨b9, rv9, rfl, k1, k2⟩; have K9 := hide k1; have M9 := hide (k2.1 _ _ _ M8.out); have HALL := hide (playAll w w.heap.size _ b9 a8 (logOf 60 first' cs') rv9 w9 K9.out (by rw [logOf_recs, HFA.out, List.length_append]; simp; omega)); rw [logOf_recs, HFA.out] at HALL; clear k1 k2)
          | (go_at_call 20; refine HALL.out.mono ?_; rintro e w10 ⟨v10, rfl, t10, k10⟩; have MA := hide (M9.out.under k10); have KA := hide (K9.out.under k10); have T10 := hide t10; have hb0 : Below w10.heap.size w10 (w10.alloc (.cells #[] 9)) := (Below.refl _ _).alloc (Nat.le_refl _) _; have HB0 := hide hb0; have HOWN0 : Hid ((w10.alloc (.cells #[] 9)).ownsRow w10.heap.size 9 1 (.slice (some ⟨w10.heap.size, 0, none⟩) 0 0) 0 []) := World.ownsRow_made w10 #[] 0 (Nat.le_refl _) (Nat.zero_le _) rfl; have HCM := hide (cells_of_own (own_below MA.out.own hb0)); clear hb0 t10 k10)
          | (at_builtin; refine append_own_on _ rfl _ _ 30 rfl w10.heap.size 9 i9 (.string ⟨#[]⟩) 1 16 under_strs hi9 hz0 hz1 hz2 rfl (by decide) _ _ _ rfl HOWN0.out ⟨mg, 0, none⟩ m.length mc (tv m) rfl ?a1 HCM.out (tv_one m) ?a3 ?a4 ?a5 ?_))
        case a1 => rw [tv_length, Nat.mul_one]
        case a3 => unfold maxLen; omega
        case a4 => omega
        case a5 => simp
        intro v1 w11 hown1 hgrow1 hne1
        obtain ⟨g1, c1, rfl⟩ := own_some hown1 (by first | exact hne1 | (intro e; have h := (hne1.1 e).1; cases h))
        have B11 := hide (HB0.out.grown hgrow1 HB0.out.size fun k e => ownsRow_ge HOWN0.out e)
        have OW1 := hide hown1
        clear hown1 hgrow1 hne1 HB0 HOWN0 HCM
        go_wp2_with (at_builtin; refine append_own_on _ rfl _ _ 30 rfl w10.heap.size 9 i9 (.string ⟨#[]⟩) 1 16 under_strs hi9 hz0 hz1 hz2 rfl (by decide) _ _ _ rfl (OW1.out.alloc _) ⟨w11.heap.size, 0, none⟩ 1 1 [.string ⟨lastB.toArray⟩] rfl rfl (cell_one_new _ _ _) ?b2 ?b3 ?b4 ?b5 ?_)
        case b2 => intro u hu; simp at hu; subst hu; rfl
        case b3 => unfold maxLen; omega
        case b4 => omega
        case b5 => have h1 := B11.out.size; simp; omega
        intro v2 w12 hown2 hgrow2 hne2
        have hb11 := B11.out.alloc B11.out.size (.cells #[.string ⟨lastB.toArray⟩] 9)
        have B12 := hide (hb11.grown hgrow2 hb11.size fun k e => ownsRow_ge OW1.out e)
        obtain ⟨g2, c2, rfl⟩ := own_some hown2 (by first | exact hne2 | (intro e; have h := (hne2.1 e).1; cases h))
        have OT : Hid (Texts w12 (.slice (some ⟨g2, 0, none⟩) (m.length + 1) c2) (m ++ [lastB])) := Texts.of_own (by
          rw [List.length_append, List.map_append]
          exact hown2)
        have HSA := hide (same_any v10 _ (m ++ [lastB]) (m ++ [lastB]) w12 (T10.out.below B12.out) OT.out (by rw [List.length_append]; simp; omega))
        rw [decide_eq_true rfl] at HSA
        have KB := hide (KA.out.under B12.out)
        clear hown2 hgrow2 hne2 hb11 OW1 B11 B12 OT T10
        go_wp2_with (go_at_call 19; refine HSA.out.mono ?_; rintro e w13 ⟨rfl, k13⟩; have KC := hide (KB.out.under k13); clear k13)
        go_ret
        exact ⟨by rfl, KC.out.below⟩
end Go.Proofs.YtoineobjmllicaaGreatDoor
