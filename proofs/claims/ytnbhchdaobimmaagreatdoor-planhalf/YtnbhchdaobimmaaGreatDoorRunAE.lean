/- Several texts in one: MoveSearch, MoveTree. -/
import Derived.Test.YtnbhchdaobimmaaGreatDoorMoveCompare
import Derived.Test.YtnbhchdaobimmaaGreatDoorOpAll
import Derived.Deep.Cut
/- Contract: where an operation stands among those that were done. -/
namespace Go.Mov
open Go.RowKit
/-- A slice value of what was done. -/
def StepsAt (w : World) (v : Value) (ss : List Sp) : Prop :=
 (v = .slice none 0 0 ∧ ss = []) ∨ ∃ g off cap, v = .slice (some ⟨g, off, none⟩) ss.length cap ∧ g < w.heap.size ∧ ss.length ≤ cap ∧ ∀ i s, ss[i]? = some s → w.rangeAt g (off + i * 17) s.cs
theorem StepsAt.below {w w' : World} {v : Value} {ss : List Sp} (h : StepsAt w v ss) (k : Below w.heap.size w w') : StepsAt w' v ss := by
 rcases h with h | ⟨g, off, cap, h1, h2, h3, h4⟩
 ·exact .inl h
 ·refine .inr ⟨g, off, cap, h1, Nat.lt_of_lt_of_le h2 k.size, h3, fun i s hs j u hu => ?_⟩
  rw [← h4 i s hs j u hu]
  exact k.cell (p := ⟨g, off + i * 17 + j, none⟩) h2
theorem StepsAt.form {w : World} {v : Value} {ss : List Sp} (h : StepsAt w v ss) : ∃ a c, v = .slice a ss.length c := by
 rcases h with ⟨rfl, rfl⟩ | ⟨g, off, cap, rfl, _⟩
 ·exact ⟨_, _, rfl⟩
 ·exact ⟨_, _, rfl⟩
theorem StepsAt.at {w : World} {a : Option Addr} {n c : Nat} {ss : List Sp} (h : StepsAt w (.slice a n c) ss) (hn : ss ≠ []) : ∃ g off, a = some ⟨g, off, none⟩ ∧ n = ss.length ∧ ss.length ≤ c ∧ g < w.heap.size ∧ ∀ i s, ss[i]? = some s → w.rangeAt g (off + i * 17) s.cs := by
 rcases h with ⟨_, h⟩ | ⟨g, off, cap, h1, h2, h3, h4⟩
 ·exact absurd h hn
 ·simp only [Value.slice.injEq] at h1
  obtain ⟨rfl, rfl, rfl⟩ := h1
  exact ⟨g, off, rfl, rfl, h3, h2, h4⟩
theorem ord_at {ss : List Sp} (ho : Ord (ss.map (·.en))) {i j : Nat} {a b : Sp} (ha : ss[i]? = some a) (hb : ss[j]? = some b) (h : i < j) : Bf a.en b.en := by
 obtain ⟨h1, rfl⟩ := List.getElem?_eq_some_iff.1 ha
 obtain ⟨h2, rfl⟩ := List.getElem?_eq_some_iff.1 hb
 have := List.pairwise_iff_getElem.1 ho i j (by simpa using h1) (by simpa using h2) h
 simpa using this
theorem place_of {ss : List Sp} {e : En} (ho : Ord (ss.map (·.en))) {n : Nat} (hn : n ≤ ss.length) (h1 : ∀ t s, t < n → ss[t]? = some s → cmpE s.en e < 0) (h2 : ∀ t s, n ≤ t → ss[t]? = some s → ¬ cmpE s.en e < 0) : place (ss.map (·.en)) e = n := by
 obtain ⟨p1, p2⟩ := place_spec (e := e) ho
 have hp := place_le (ss.map (·.en)) e
 generalize hq : place (ss.map (·.en)) e = p at *
 rw [List.length_map] at hp
 rcases Nat.lt_trichotomy p n with h | h | h
 ·exfalso
  have hlt : p < ss.length := by omega
  have e1 : ss[p]? = some ss[p] := List.getElem?_eq_getElem hlt
  refine p2 ss[p].en ?_ (cmpE_lt.1 (h1 p _ h e1))
  rw [List.mem_iff_getElem?]
  exact ⟨0, by rw [List.getElem?_drop, List.getElem?_map, Nat.add_zero, e1]; rfl⟩
 ·exact h
 ·exfalso
  have hlt : n < ss.length := by omega
  have e1 : ss[n]? = some ss[n] := List.getElem?_eq_getElem hlt
  refine h2 n _ (Nat.le_refl _) e1 (cmpE_lt.2 (p1 ss[n].en ?_))
  rw [List.mem_iff_getElem?]
  exact ⟨n, by rw [List.getElem?_take_of_lt h, List.getElem?_map, e1]; rfl⟩
theorem Sp.cs_length (s : Sp) : s.cs.length = 17 := rfl
theorem cs_at : ∀ {ss : List Sp} {i : Nat} {s : Sp}, ss[i]? = some s → ∀ j u, s.cs[j]? = some u → (ss.flatMap Sp.cs)[i * 17 + j]? = some u
 | [], i, s, h, _, _, _ => by simp at h
 | a :: r, 0, s, h, j, u, hu => by
  simp only [List.getElem?_cons_zero, Option.some.injEq] at h
  subst h
  rw [List.flatMap_cons, List.getElem?_append_left]
  ·simpa using hu
  ·have := (List.getElem?_eq_some_iff.1 hu).1
   simpa using this
 | a :: r, i + 1, s, h, j, u, hu => by
  simp only [List.getElem?_cons_succ] at h
  rw [List.flatMap_cons, List.getElem?_append_right (by rw [Sp.cs_length]; omega), Sp.cs_length, show (i + 1) * 17 + j - 17 = i * 17 + j by omega]
  exact cs_at h j u hu
theorem StepsAt.of_own {w : World} {base e : Nat} {v : Value} {ss : List Sp} (h : w.ownsRow base e 17 v ss.length (ss.flatMap Sp.cs)) : StepsAt w v ss := by
 rcases h.2 with ⟨h1, h2⟩ | ⟨g, cap, cur, h1, h2, h3, h4, h5, h6, h7⟩
 ·exact .inl ⟨h1, List.length_eq_zero_iff.1 h2⟩
 ·refine .inr ⟨g, 0, cap, h1, (Array.getElem?_eq_some_iff.1 h3).1, h4, fun i s hs j u hu => ?_⟩
  rw [cell_of_row _ _ _ _ _ _ h3]
  have hlt : i * 17 + j < ss.length * 17 := by
   have a1 := (List.getElem?_eq_some_iff.1 hs).1
   have a2 := (List.getElem?_eq_some_iff.1 hu).1
   rw [Sp.cs_length] at a2
   omega
  have := cs_at hs j u hu
  rw [← h7, List.getElem?_take_of_lt hlt] at this
  simpa using this
end Go.Mov
namespace Go.Proofs.YtnbhchdaobimmaaGreatDoor
open Go.RowKit Go.Opn Go.Stamp Go.MapInt Go.Mov
attribute [local go_sem] Oper.semAt_some
set_option maxRecDepth 100000 in
theorem searchCmp_any (s : Sp) (e : En) (w : World) : Calls Tryz.prog 50 #[s.v, e.v] w fun r w' => r = .returned (.int .i64 (cmpE s.en e)) ∧ Below w.heap.size w w' := by
 have HC := hide (compareE_any s.en e)
 obtain ⟨⟨⟨k1, ⟨c1, t1⟩, th1, pa1, nm1, d1, g1, z1⟩, h1⟩, was⟩ := s
 obtain ⟨⟨k2, ⟨c2, t2⟩, th2, pa2, nm2, d2, g2, z2⟩, h2⟩ := e
 unfold Sp.v Sp.x
 unfold En.v at *
 dsimp only at *
 generalize cmpE _ _ = E at *
 generalize was.getD Th.zero = x
 generalize was.isSome = is
 go_enter Tryz.func50, Tryz.ntmps50
 go_wp2_with (go_at_call 51; refine (HC.out _).mono ?_; rintro e w1 ⟨rfl, k⟩)
 go_ret
 exact ⟨rfl, (((Below.refl _ w).alloc (Nat.le_refl _) _).alloc (by simp) _).trans (k.mono (by simp; omega))⟩
set_option maxRecDepth 100000 in
theorem rangeAt_below {w v : World} {g o : Nat} {cs : List Value} (h : w.rangeAt g o cs) (hg : g < w.heap.size) (k : Below w.heap.size w v) : v.rangeAt g o cs := fun j u hu => (k.cell (p := ⟨g, o + j, none⟩) hg).trans (h j u hu)
set_option maxRecDepth 100000 in
theorem infoSp : (Tryz.prog.info? 118).map (·.size) = some 17 := by kernel_rfl
set_option maxRecDepth 100000 in
theorem infoEn : (Tryz.prog.info? 68).map (·.size) = some 10 := by kernel_rfl
set_option maxHeartbeats 4000000 in
set_option maxRecDepth 100000 in
theorem search_any (v : Value) (ss : List Sp) (e : En) (w : World) (hR : StepsAt w v ss) (hn : ss.length ≤ 1000000) (ho : Ord (ss.map (·.en))) :
  Calls Tryz.prog 49 #[v, e.v, .func (.func 50) #[] #[]] w fun r w' =>
   r = .returned (.tuple #[.int .i64 (place (ss.map (·.en)) e : Nat), .bool (known (ss.map (·.en)) e)]) ∧ Below w.heap.size w w' := by
 obtain ⟨a, c, rfl⟩ := hR.form
 obtain ⟨ec, hec⟩ : ∃ ec, ec = e.v := ⟨_, rfl⟩
 have HC : Hid (∀ (s : Sp) (w : World), Calls Tryz.prog 50 #[.agg s.cs.toArray, .agg e.cs.toArray] w fun r w' => r = .returned (.int .i64 (cmpE s.en e)) ∧ Below w.heap.size w w') := fun s w => searchCmp_any s e w
 have hev : e.v = .agg (e.cs.toArray) := rfl
 have HR := hide hR
 have HO := hide ho
 have I0 : Hid (Below w.heap.size w (w.alloc (.cells e.cs.toArray 68)) ∧ (w.alloc (.cells e.cs.toArray 68)).heap[w.heap.size]? = some (.cells e.cs.toArray 68 (0, 0))) := ⟨(Below.refl _ w).alloc (Nat.le_refl _) _, heap_alloc_new w _⟩
 clear hR ho hec
 go_enter Tryz.func49, Tryz.ntmps49
 go_wp2_with fail
 go_loopw [9, 10] (fun v9 v10 wr => ∃ lo hi : Nat, v9 = .int .i64 lo ∧ v10 = .int .i64 hi ∧ lo ≤ hi ∧ hi ≤ ss.length ∧ Hid ((Below w.heap.size w wr ∧ wr.heap[w.heap.size]? = some (.cells e.cs.toArray 68 (0, 0))) ∧ (∀ t s, t < lo → ss[t]? = some s → cmpE s.en e < 0) ∧ (∀ t s, hi ≤ t → ss[t]? = some s → ¬ cmpE s.en e < 0))) (fun v9 v10 _ => (intOf v10).toNat - (intOf v9).toNat)
 case atStart => exact ⟨0, ss.length, rfl, rfl, Nat.zero_le _, Nat.le_refl _, I0.out, (fun t s h => absurd h (Nat.not_lt_zero _)), fun t s h h2 => absurd (List.getElem?_eq_some_iff.1 h2).1 (by omega)⟩
 case round =>
  obtain ⟨lo, hi, rfl, rfl, hlh, hhi, HI⟩ := hrel
  clear I0
  by_cases hlt : lo < hi
  ·have hlt' : (lo : Int) < hi := by omega
   obtain ⟨g, off, ha, _, hcap, hgl, hrg⟩ := HR.out.at (fun e => by rw [e] at hhi; simp at hhi; omega)
   subst ha
   obtain ⟨s, hs⟩ : ∃ s, ss[(lo + hi) / 2]? = some s := ⟨_, List.getElem?_eq_getElem (by omega)⟩
   have HS := hide hs
   have HG := hide (And.intro hgl hrg)
   clear hs hgl hrg
   go_upto_region 5 with fail
   refine QuietCalls.region (by kernel_rfl) (by kernel_rfl) ?_
   have hm0 : (0 : Int) ≤ (lo + hi) / 2 := by omega
   have hm1 : ((lo : Int) + hi) / 2 < ss.length := by omega
   iterate 4 (first | go_big_quiet_step (fail) | quiet_step (fail))
   refine QuietCalls.loadMid rfl 118 _ rfl g (off + (lo + hi) / 2 * 17) rfl s.cs _ (fun v k => rangeAt_below (HG.out.2 _ s HS.out) HG.out.1 (HI.out.1.1.trans (k.mono HI.out.1.1.size))) Tryz.underlying118 rfl infoSp ?_; simp only [Act.put, List.setIfInBounds_toArray, List.set_cons_succ, List.set_cons_zero]
   refine QuietCalls.load rfl 68 _ rfl _ rfl _ _ _ _ HI.out.1.2 Tryz.underlying68 rfl infoEn ?_; simp only [Act.put, List.setIfInBounds_toArray, List.set_cons_succ, List.set_cons_zero]
   refine QuietCalls.call rfl 50 #[.agg s.cs.toArray, .agg e.cs.toArray] (.int .i64 (cmpE s.en e)) (fun v _ => HC.out s v) (fun v => by go_simp) ?_; simp only [Act.put, List.setIfInBounds_toArray, List.set_cons_succ, List.set_cons_zero]
   by_cases hc : cmpE s.en e < 0
   ·iterate 1 (first | go_big_quiet_step (fail) | quiet_step (fail))
    refine wpQuiet_nil ?_
    intro w2 k2
    have HI2 : Hid (Below w.heap.size w w2 ∧ w2.heap[w.heap.size]? = some (.cells e.cs.toArray 68 (0, 0))) := ⟨HI.out.1.1.trans (k2.mono HI.out.1.1.size), (k2.block _ (Array.getElem?_eq_some_iff.1 HI.out.1.2).1).trans HI.out.1.2⟩
    clear k2
    go_wp2_with fail
    go_roundw
    case rel =>
     refine ⟨(lo + hi) / 2 + 1, hi, by congr 1 <;> omega, rfl, by omega, hhi, HI2.out, fun t s' ht hs' => ?_, HI.out.2.2⟩
     by_cases e1 : t = (lo + hi) / 2
     ·subst e1
      rw [HS.out] at hs'
      cases hs'
      exact hc
     ·exact cmpE_lt.2 ((ord_at HO.out hs' HS.out (by omega)).trans (cmpE_lt.1 hc))
    case measure => simp only [intOf]; omega
   ·iterate 1 (first | go_big_quiet_step (fail) | quiet_step (fail))
    refine wpQuiet_nil ?_
    intro w2 k2
    have HI2 : Hid (Below w.heap.size w w2 ∧ w2.heap[w.heap.size]? = some (.cells e.cs.toArray 68 (0, 0))) := ⟨HI.out.1.1.trans (k2.mono HI.out.1.1.size), (k2.block _ (Array.getElem?_eq_some_iff.1 HI.out.1.2).1).trans HI.out.1.2⟩
    clear k2
    go_wp2_with fail
    go_roundw
    case rel =>
     refine ⟨lo, (lo + hi) / 2, rfl, by congr 1 <;> omega, by omega, by omega, HI2.out, HI.out.2.1, fun t s' ht hs' hb => ?_⟩
     by_cases e1 : t = (lo + hi) / 2
     ·subst e1
      rw [HS.out] at hs'
      cases hs'
      exact hc hb
     ·exact hc (cmpE_lt.2 ((ord_at HO.out HS.out hs' (by omega)).trans (cmpE_lt.1 hb)))
    case measure => simp only [intOf]; omega
  ·obtain rfl : hi = lo := by omega
   have HP : Hid (place (ss.map (·.en)) e = hi) := place_of HO.out hhi HI.out.2.1 HI.out.2.2
   by_cases hlt2 : hi < ss.length
   ·have hlt2' : (hi : Int) < ss.length := by omega
    obtain ⟨g, off, ha, _, hcap, hgl, hrg⟩ := HR.out.at (fun e => by rw [e] at hlt2; simp at hlt2)
    subst ha
    obtain ⟨s, hs⟩ : ∃ s, ss[hi]? = some s := ⟨_, List.getElem?_eq_getElem hlt2⟩
    have HK : Hid (known (ss.map (·.en)) e = (cmpE s.en e == 0)) := by show _ = _; unfold known; rw [HP.out, List.getElem?_map, hs]; rfl
    have HS := hide hs
    have HG := hide (And.intro hgl hrg)
    clear hs hgl hrg
    go_upto_region 8 with fail
    refine QuietCalls.region (by kernel_rfl) (by kernel_rfl) ?_
    iterate 9 (first | go_big_quiet_step (fail) | quiet_step (fail))
    refine QuietCalls.loadMid rfl 118 _ rfl g (off + hi * 17) rfl s.cs _ (fun v k => rangeAt_below (HG.out.2 _ s HS.out) HG.out.1 (HI.out.1.1.trans (k.mono HI.out.1.1.size))) Tryz.underlying118 rfl infoSp ?_; simp only [Act.put, List.setIfInBounds_toArray, List.set_cons_succ, List.set_cons_zero]
    refine QuietCalls.load rfl 68 _ rfl _ rfl _ _ _ _ HI.out.1.2 Tryz.underlying68 rfl infoEn ?_; simp only [Act.put, List.setIfInBounds_toArray, List.set_cons_succ, List.set_cons_zero]
    refine QuietCalls.call rfl 50 #[.agg s.cs.toArray, .agg e.cs.toArray] (.int .i64 (cmpE s.en e)) (fun v _ => HC.out s v) (fun v => by go_simp) ?_; simp only [Act.put, List.setIfInBounds_toArray, List.set_cons_succ, List.set_cons_zero]
    generalize cmpE s.en e = C at *
    iterate 4 (first | go_big_quiet_step (fail) | quiet_step (fail))
    refine wpQuiet_nil ?_
    intro w2 k2
    go_wp2_with fail
    go_ret2
    exact ⟨by rw [HP.out, HK.out]; rfl, HI.out.1.1.trans (k2.mono HI.out.1.1.size)⟩
   ·have hlt2' : ¬ (hi : Int) < ss.length := by omega
    have HK : Hid (known (ss.map (·.en)) e = false) := by show _ = _; unfold known; rw [HP.out, List.getElem?_map, List.getElem?_eq_none (by omega)]; rfl
    go_upto_region 8 with fail
    refine QuietCalls.region (by kernel_rfl) (by kernel_rfl) ?_
    iterate 16 (first | go_big_quiet_step (fail) | quiet_step (fail))
    refine wpQuiet_nil ?_
    intro w2 k2
    go_wp2_with fail
    go_ret2
    exact ⟨by rw [HP.out, HK.out]; rfl, HI.out.1.1.trans (k2.mono HI.out.1.1.size)⟩
end Go.Proofs.YtnbhchdaobimmaaGreatDoor
/- A tree in memory, its things and its row apart: what turns it; of no program. -/
theorem Go.old_alloc_MoveTree (w : Go.World) (o : Go.Obj) (i : Nat) (h : i < w.heap.size) : (w.alloc o).heap[i]? = w.heap[i]? := by first | exact Go.heap_alloc_old w o i h | exact Go.heap_alloc_old w o h
namespace Go.Mov
open Go.RowKit Go.MapInt
variable {P : Program} {kt Tt Ts base : Nat} {F : Ft} {t : Ths} {ss : List Sp} {u : Int} {w w' : World}
/-- A tree: its things t, what was done ss, u taken back. -/
structure TreeG (P : Program) (kt Tt Ts base : Nat) (F : Ft) (t : Ths) (ss : List Sp) (u : Int) (w : World) : Prop where
 blk : w.heap[F.b]? = some (.cells #[.map F.mb, F.lv, .int .i64 u] Tt (0, 0))
 map : MapAt P kt w F.mb t
 row : w.ownsRow base Ts 17 F.lv ss.length (ss.flatMap Sp.cs)
 low : ∀ x, F.has x → base ≤ x
theorem TreeG.lt (h : TreeG P kt Tt Ts base F t ss u w) : ∀ x, F.has x → x < w.heap.size := by
 rintro x (rfl | hx | hx)
 ·exact (Array.getElem?_eq_some_iff.1 h.blk).1
 ·exact h.map.lt hx
 ·exact (h.row.lt x hx).2
theorem TreeG.ths (h : TreeG P kt Tt Ts base F t ss u w) : ThsAt P kt F.b F.mb t w := ⟨(cell_of_row _ _ _ _ _ _ h.blk).trans rfl, h.map⟩
theorem TreeG.c1 (h : TreeG P kt Tt Ts base F t ss u w) : w.cell? ⟨F.b, 1, none⟩ = some F.lv := (cell_of_row _ _ _ _ _ _ h.blk).trans rfl
theorem TreeG.c2 (h : TreeG P kt Tt Ts base F t ss u w) : w.cell? ⟨F.b, 2, none⟩ = some (.int .i64 u) := (cell_of_row _ _ _ _ _ _ h.blk).trans rfl
theorem TreeG.fz (h : TreeG P kt Tt Ts base F t ss u w) (i : Nat) : w.frozen? ⟨F.b, i, none⟩ = false := frozen_of_row _ _ _ _ _ h.blk
theorem TreeG.steps (h : TreeG P kt Tt Ts base F t ss u w) : StepsAt w F.lv ss := StepsAt.of_own h.row
theorem own_kept {w w' : World} {base e z k : Nat} {v : Value} {xs : List Value} (h : w.ownsRow base e z v k xs) (hb : ∀ g, v.ownBlock = some g → w'.heap[g]? = w.heap[g]?) : w'.ownsRow base e z v k xs := by
 refine ⟨h.1, ?_⟩
 rcases h.2 with h2 | ⟨g, cap, cur, h1, h2, h3, h4⟩
 ·exact .inl h2
 ·exact .inr ⟨g, cap, cur, h1, h2, (hb g (by rw [h1]; rfl)).trans h3, h4⟩
theorem TreeG.kept (h : TreeG P kt Tt Ts base F t ss u w) (hb : ∀ x, F.has x → w'.heap[x]? = w.heap[x]?) : TreeG P kt Tt Ts base F t ss u w' :=
 ⟨(hb _ (.inl rfl)).trans h.blk, h.map.kept fun b e => hb b (.inr (.inl e)), own_kept h.row fun g e => hb g (.inr (.inr e)), h.low⟩
theorem TreeG.below (h : TreeG P kt Tt Ts base F t ss u w) (k : Below w.heap.size w w') : TreeG P kt Tt Ts base F t ss u w' := h.kept fun x hx => k.block x (h.lt x hx)
theorem row_tag {w : World} {base e z k g : Nat} {v : Value} {xs : List Value} (h : w.ownsRow base e z v k xs) (hg : v.ownBlock = some g) : ∃ cur, w.heap[g]? = some (.cells cur e (0, 0)) := by
 rcases h.2 with ⟨h1, _⟩ | ⟨g', cap, cur, h1, _, h3, _⟩
 ·rw [h1] at hg; cases hg
 ·rw [h1] at hg; cases hg; exact ⟨cur, h3⟩
theorem TreeG.ne_row (h : TreeG P kt Tt Ts base F t ss u w) (hT : Tt ≠ Ts) : F.lv.ownBlock ≠ some F.b := fun e => by
 obtain ⟨cur, hc⟩ := row_tag h.row e
 rw [h.blk] at hc
 simp only [Option.some.injEq, Obj.cells.injEq] at hc
 exact hT hc.2.1
theorem TreeG.ne_map (h : TreeG P kt Tt Ts base F t ss u w) : F.mb ≠ some F.b := fun e => by
 obtain ⟨es, cl, hc⟩ := h.map.kind e
 rw [h.blk] at hc
 cases hc
theorem TreeG.map_row (h : TreeG P kt Tt Ts base F t ss u w) {m : Nat} (hm : F.mb = some m) : F.lv.ownBlock ≠ some m := fun e => by
 obtain ⟨cur, hc⟩ := row_tag h.row e
 obtain ⟨es, cl, hk⟩ := h.map.kind hm
 rw [hc] at hk
 cases hk
/-- The map has turned. -/
theorem TreeG.setMap (h : TreeG P kt Tt Ts base F t ss u w) {m : Nat} (hm : F.mb = some m) (hg : w.grownBy w' (some m)) {t' : Ths} (hM : MapAt P kt w' (some m) t') : TreeG P kt Tt Ts base F t' ss u w' :=
 ⟨(hg.block _ (h.lt _ (.inl rfl)) (fun e => h.ne_map (by rw [hm, e]))).trans h.blk, by rw [hm]; exact hM, own_kept h.row fun g e => hg.block g (h.lt g (.inr (.inr e))) (fun e2 => h.map_row hm (by rw [e, e2])), h.low⟩
/-- The row has grown, or is another one. -/
theorem TreeG.setLog (h : TreeG P kt Tt Ts base F t ss u w) (hT : Tt ≠ Ts) (hg : w.grownBy w' F.lv.ownBlock) {v' : Value} {ss' : List Sp} (hown : w'.ownsRow base Ts 17 v' ss'.length (ss'.flatMap Sp.cs)) (hv : ∀ x, v'.ownBlock = some x → F.lv.ownBlock = some x ∨ w.heap.size ≤ x) (hb : base ≤ w.heap.size) :
  TreeG P kt Tt Ts base ⟨F.b, F.mb, v'⟩ t ss' u (w'.setCell ⟨F.b, 1, none⟩ v') := by
 have hblk : w'.heap[F.b]? = some (.cells #[.map F.mb, F.lv, .int .i64 u] Tt (0, 0)) := (hg.block _ (h.lt _ (.inl rfl)) (fun e => h.ne_row hT e.symm)).trans h.blk
 have hne : ∀ x, v'.ownBlock = some x → x ≠ F.b := by
  rintro x hx rfl
  obtain ⟨cur, hc⟩ := row_tag hown hx
  rw [hblk] at hc
  simp only [Option.some.injEq, Obj.cells.injEq] at hc
  exact hT hc.2.1
 refine ⟨?_, ?_, own_kept hown fun g e => heap_setCell_other _ _ _ _ (hne g e), ?_⟩
 ·have := heap_setCell_same _ _ 1 _ _ v' hblk
  exact this
 ·refine (h.map.kept (w' := w') fun b e => hg.block b (h.map.lt e) (fun e2 => h.map_row e e2.symm)).kept fun b e => heap_setCell_other _ _ _ _ (fun e2 => h.ne_map (by rw [e, e2]))
 ·rintro x (rfl | hx | hx)
  ·exact h.low _ (.inl rfl)
  ·exact h.low _ (.inr (.inl hx))
  ·rcases hv x hx with e | e
   ·exact h.low _ (.inr (.inr e))
   ·omega
/-- A map is made. -/
theorem TreeG.newMap (h : TreeG P kt Tt Ts base F [] ss u w) (hT : Tt ≠ Ts) (hb : base ≤ w.heap.size) :
  TreeG P kt Tt Ts base ⟨F.b, some w.heap.size, F.lv⟩ [] ss u ((w.alloc (.map #[] 0)).setCell ⟨F.b, 0, none⟩ (.map (some w.heap.size))) := by
 have hblk : (w.alloc (.map #[] 0)).heap[F.b]? = some (.cells #[.map F.mb, F.lv, .int .i64 u] Tt (0, 0)) := (Go.old_alloc_MoveTree _ _ _ (h.lt _ (.inl rfl))).trans h.blk
 have hbl := h.lt _ (.inl rfl)
 refine ⟨?_, ?_, own_kept h.row fun g e => (heap_setCell_other _ _ _ _ (fun e2 => h.ne_row hT (by rw [e, e2]))).trans (Go.old_alloc_MoveTree _ _ _ (h.lt g (.inr (.inr e)))), ?_⟩
 ·have := heap_setCell_same _ _ 0 _ _ (.map (some w.heap.size)) hblk
  exact this
 ·refine (MapAt.made P kt w).kept fun b e => heap_setCell_other _ _ _ _ (fun e2 => ?_)
  cases e
  have e2 : w.heap.size = F.b := e2
  omega
 ·rintro x (rfl | hx | hx)
  ·exact h.low _ (.inl rfl)
  ·cases hx; exact hb
  ·exact h.low _ (.inr (.inr hx))
theorem TreeG.undone (h : TreeG P kt Tt Ts base F t ss u w) (hT : Tt ≠ Ts) (n : Int) : TreeG P kt Tt Ts base F t ss n (w.setCell ⟨F.b, 2, none⟩ (.int .i64 n)) := by
 refine ⟨?_, h.map.kept fun b e => heap_setCell_other _ _ _ _ (fun e2 => h.ne_map (by rw [e, e2])), own_kept h.row fun g e => heap_setCell_other _ _ _ _ (fun e2 => h.ne_row hT (by rw [e, e2])), h.low⟩
 have := heap_setCell_same _ _ 2 _ _ (.int .i64 n) h.blk
 exact this
theorem TreeAt.g {l : List En} (h : TreeAt P kt Tt Ts base F l u w) : TreeG P kt Tt Ts base F (Mov.ths [] l) (sps [] l) u w := ⟨h.blk, h.map, by rw [sps_length]; exact h.row, h.low⟩
theorem TreeG.at {l : List En} (h : TreeG P kt Tt Ts base F (Mov.ths [] l) (sps [] l) u w) (hf : ∀ e ∈ l, e.Fits) (ho : Ord l) : TreeAt P kt Tt Ts base F l u w := ⟨h.blk, h.map, by have := h.row; rw [sps_length] at this; exact this, h.low, hf, ho⟩
theorem TreeAt.fine {l : List En} (h : TreeAt P kt Tt Ts base F l u w) : Fine (Mov.ths [] l) := ths_fine Fine.nil h.fits
theorem Tn.of_grown {w w' : World} {row : Option Nat} (hg : w.grownBy w' row) (hr : ∀ x, row = some x → F.has x) : Tn F w w' := ⟨hg.os, hg.tape, hg.output, hg.size, fun k hk hn => hg.block k hk fun e => hn (hr k e.symm)⟩
theorem Tn.of_set (w : World) {a : Addr} (v : Value) (h : F.has a.block) : Tn F w (w.setCell a v) := ⟨rfl, rfl, rfl, by simp, fun k _ hn => heap_setCell_other _ _ _ _ (fun e => hn (e ▸ h))⟩
end Go.Mov
