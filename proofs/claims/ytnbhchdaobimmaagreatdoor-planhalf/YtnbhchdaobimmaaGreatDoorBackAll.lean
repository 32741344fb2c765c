/- Several texts in one: MoveClone, MoveBackOf, MoveBackMem, MoveBackSome, MoveBackEq, MoveBackNil, MoveBack. -/
import Derived.Test.YtnbhchdaobimmaaGreatDoorRunAE
import Derived.Test.YtnbhchdaobimmaaGreatDoorMunAB
import Derived.Deep.AppendLies
import Derived.Test.YtnbhchdaobimmaaGreatDoorMoveBecomes
import Derived.Test.YtnbhchdaobimmaaGreatDoorRoundTail
/- Contracts: what stands behind a place is kept aside, and gone over from its end. -/
namespace Go.Proofs.YtnbhchdaobimmaaGreatDoor
open Go.RowKit Go.Opn Go.Stamp Go.MapInt Go.Mov Go.Shelf
attribute [local go_sem] Oper.semAt_some
set_option maxRecDepth 100000 in
theorem infoSp3 : (Tryz.prog.info? 118).map (fun i => (i.zero, i.size, i.bytes)) = some (some (Sp.mk ⟨⟨0, ⟨0, 0⟩, 0, 0, ⟨#[]⟩, false, ⟨#[]⟩, 0⟩, ⟨#[]⟩⟩ none).v, 17, 176) := by kernel_rfl
set_option maxRecDepth 100000 in
theorem cs_one (s : Sp) : ∀ u ∈ s.cs, u.oneCell' = true := by
 intro u hu
 unfold Sp.cs En.cs Th.cs at hu
 simp only [List.cons_append, List.nil_append, List.mem_cons, List.not_mem_nil, or_false] at hu
 rcases hu with rfl | rfl | rfl | rfl | rfl | rfl | rfl | rfl | rfl | rfl | rfl | rfl | rfl | rfl | rfl | rfl | rfl <;> rfl
set_option maxRecDepth 100000 in
theorem flat_at {ss : List Sp} : ∀ {j : Nat} {u : Value}, (ss.flatMap Sp.cs)[j]? = some u → ∃ s, ss[j / 17]? = some s ∧ s.cs[j % 17]? = some u := by
 induction ss with
 | nil => intro j u h; simp at h
 | cons a r ih =>
  intro j u h
  rw [List.flatMap_cons] at h
  by_cases hj : j < 17
  ·rw [List.getElem?_append_left (by rw [Sp.cs_length]; exact hj)] at h
   exact ⟨a, by rw [show j / 17 = 0 by omega]; rfl, by rw [show j % 17 = j by omega]; exact h⟩
  ·rw [List.getElem?_append_right (by rw [Sp.cs_length]; omega), Sp.cs_length] at h
   obtain ⟨s, h1, h2⟩ := ih h
   refine ⟨s, ?_, by rw [show j % 17 = (j - 17) % 17 by omega]; exact h2⟩
   rw [show j / 17 = (j - 17) / 17 + 1 by omega, List.getElem?_cons_succ]
   exact h1
set_option maxRecDepth 100000 in
theorem flat_length (ss : List Sp) : (ss.flatMap Sp.cs).length = ss.length * 17 := by
 induction ss with
 | nil => rfl
 | cons a r ih => rw [List.flatMap_cons, List.length_append, ih, Sp.cs_length, List.length_cons]; omega
set_option maxRecDepth 100000 in
theorem nilSp1 (w : World) : (binOp .eql 108 (.slice none 0 0) (.slice none 0 0)).run Tryz.prog w = .ok (.bool true) w := by kernel_rfl
set_option maxRecDepth 100000 in
theorem nilSp2 (g off n cap : Nat) (w : World) : (binOp .eql 108 (.slice (some ⟨g, off, none⟩) n cap) (.slice none 0 0)).run Tryz.prog w = .ok (.bool false) w := by kernel_rfl
set_option maxHeartbeats 2000000 in
set_option maxRecDepth 100000 in
theorem cloneSp_any (v : Value) (ss : List Sp) (w : World) (hR : StepsAt w v ss) (hn : ss.length ≤ 1000000) :
  Calls Tryz.prog 76 #[v] w fun r w' => ∃ v', r = .returned v' ∧ w'.ownsRow w.heap.size 118 17 v' ss.length (ss.flatMap Sp.cs) ∧ Below w.heap.size w w' := by
 obtain ⟨i0, hi, hz0, hz1, hz2⟩ := info_parts infoSp3
 rcases hR with ⟨rfl, rfl⟩ | ⟨g, off, cap, rfl, hg, hcap, hrg⟩
 ·have hb := nilSp1
  go_enter Tryz.func76, Tryz.ntmps76
  go_wp2
  go_ret
  exact ⟨_, rfl, World.ownsRow_nil _ _ _ _, Below.refl _ _⟩
 ·have hnews : ∀ j u, (ss.flatMap Sp.cs)[j]? = some u → w.cell? ((⟨g, off, none⟩ : Addr).add j) = some u := by
   intro j u hu
   obtain ⟨s, h1, h2⟩ := flat_at hu
   have := hrg _ s h1 _ u h2
   rw [Addr.add_mid]
   rw [show off + j / 17 * 17 + j % 17 = off + j by omega] at this
   exact this
  have hone : ∀ u ∈ ss.flatMap Sp.cs, u.oneCell' = true := by
   intro u hu
   obtain ⟨s, _, h2⟩ := List.mem_flatMap.1 hu
   exact cs_one s u h2
  have H := hide (And.intro hnews hone)
  have hb := nilSp2 g off ss.length cap
  clear hrg hnews hone
  go_enter Tryz.func76, Tryz.ntmps76
  go_wp2_with (at_builtin; refine wpList_append_own _ rfl _ _ 108 rfl w.heap.size 118 i0 _ 17 176 Tryz.underlying108 hi hz0 hz1 hz2 rfl (by decide) _ 0 [] rfl ?a1 ⟨g, off, none⟩ ss.length cap (ss.flatMap Sp.cs) rfl (flat_length ss) ?a2 H.out.2 ?a3 ?a4 ?a5 ?_)
  case a1 => exact World.ownsRow_made w #[] 0 (Nat.le_refl _) (Nat.zero_le _) rfl
  case a2 =>
   intro j u hu
   have hb := (Below.refl w.heap.size w).alloc (Nat.le_refl _) (.cells #[] 118)
   rw [Addr.add_mid]
   refine (hb.cell (p := ⟨g, off + j, none⟩) hg).trans ?_
   have := H.out.1 j u hu
   rwa [Addr.add_mid] at this
  case a3 => unfold maxLen; omega
  case a4 => omega
  case a5 => simp
  intro v' w3 hown hgrow _
  have H3 : Hid (w3.ownsRow w.heap.size 118 17 v' ss.length (ss.flatMap Sp.cs) ∧ Below w.heap.size w w3) := by
   refine ⟨by simpa using hown, ?_⟩
   have hb := (Below.refl w.heap.size w).alloc (Nat.le_refl _) (.cells #[] 118)
   exact hb.grown hgrow hb.size fun k e => by simp [Value.ownBlock] at e; omega
  obtain ⟨va, vc, rfl⟩ : ∃ a c, v' = .slice a ss.length c := by
   rcases H3.out.1.2 with ⟨h1, h2⟩ | ⟨g, cap, cur, h1, _⟩
   ·exact ⟨none, 0, by rw [h1, h2]⟩
   ·exact ⟨_, _, h1⟩
  clear hown hgrow
  go_wp2_with fail
  go_ret
  exact ⟨_, rfl, H3.out⟩
set_option maxRecDepth 100000 in
theorem backward_any (a : Option Addr) (n c : Nat) (w : World) : Calls Tryz.prog 77 #[.slice a n c] w fun e w' => e = .returned (.func (.func 108) #[] #[.pointer (some ⟨w.heap.size, 0, none⟩)]) ∧ w' = w.alloc (.cells #[.slice a n c] 108) := by
 go_enter Tryz.func77, Tryz.ntmps77
 go_wp2
 go_ret
 exact ⟨rfl, rfl⟩
set_option maxRecDepth 100000 in
theorem cells17 {w : World} {g o : Nat} {s : Sp} (h : w.rangeAt g o s.cs) : w.cell? ⟨g, o, none⟩ = some (.int .i64 s.en.op.kind) ∧ w.cell? ⟨g, o + 1, none⟩ = some (.int .u64 s.en.op.tm.c) ∧ w.cell? ⟨g, o + 2, none⟩ = some (.int .i64 s.en.op.tm.k) ∧ w.cell? ⟨g, o + 3, none⟩ = some (.int .u64 s.en.op.thing) ∧ w.cell? ⟨g, o + 4, none⟩ = some (.int .u64 s.en.op.par) ∧ w.cell? ⟨g, o + 5, none⟩ = some (.string s.en.op.name) ∧ w.cell? ⟨g, o + 6, none⟩ = some (.bool s.en.op.dir) ∧ w.cell? ⟨g, o + 7, none⟩ = some (.string s.en.op.dg) ∧ w.cell? ⟨g, o + 8, none⟩ = some (.int .i64 s.en.op.size) ∧ w.cell? ⟨g, o + 9, none⟩ = some (.string s.en.h) ∧ w.cell? ⟨g, o + 10, none⟩ = some (.int .u64 s.x.id) ∧ w.cell? ⟨g, o + 11, none⟩ = some (.int .u64 s.x.par) ∧ w.cell? ⟨g, o + 12, none⟩ = some (.string s.x.name) ∧ w.cell? ⟨g, o + 13, none⟩ = some (.bool s.x.dir) ∧ w.cell? ⟨g, o + 14, none⟩ = some (.string s.x.dg) ∧ w.cell? ⟨g, o + 15, none⟩ = some (.int .i64 s.x.size) ∧ w.cell? ⟨g, o + 16, none⟩ = some (.bool s.was.isSome) :=
 ⟨h 0 _ rfl, h 1 _ rfl, h 2 _ rfl, h 3 _ rfl, h 4 _ rfl, h 5 _ rfl, h 6 _ rfl, h 7 _ rfl, h 8 _ rfl, h 9 _ rfl, h 10 _ rfl, h 11 _ rfl, h 12 _ rfl, h 13 _ rfl, h 14 _ rfl, h 15 _ rfl, h 16 _ rfl⟩
/-- What going backward keeps: the box, and the row. -/
def KpB (bx g : Nat) (W W' : World) : Prop := W.heap.size ≤ W'.heap.size ∧ W'.heap[bx]? = W.heap[bx]? ∧ W'.heap[g]? = W.heap[g]?
set_option maxRecDepth 100000 in
theorem cell_same {w w' : World} {b i : Nat} (h : w'.heap[b]? = w.heap[b]?) : w'.cell? ⟨b, i, none⟩ = w.cell? ⟨b, i, none⟩ := by unfold World.cell?; dsimp only; rw [h]
end Go.Proofs.YtnbhchdaobimmaaGreatDoor
/- Contract: what was done, gone over from its end, each with a fact that all have. -/
namespace Go.Proofs.YtnbhchdaobimmaaGreatDoor
open Go.RowKit Go.Opn Go.Stamp Go.MapInt Go.Mov Go.Shelf
attribute [local go_sem] Oper.semAt_some
abbrev Bp (p : Sp → Prop) := { x : Nat × Sp // p x.2 }
set_option maxHeartbeats 4000000 in
set_option maxRecDepth 100000 in
theorem back_of {a : Option Addr} {c : Nat} (p : Sp → Prop) (ss : List Sp) (hp : ∀ s ∈ ss, p s) (bx g m : Nat) (w0 : World) (hb : w0.cell? ⟨bx, 0, none⟩ = some (.slice a ss.length c)) (hg : ∀ x, a = some x → x.block = g) (hR : StepsAt w0 (.slice a ss.length c) ss) (hn : ss.length ≤ 1000000) :
  SeqStopsK Fence.wide m Tryz.prog 108 #[.pointer (some ⟨bx, 0, none⟩)] (fun x : Bp p => #[.int .i64 x.1.1, x.1.2.v]) (KpB bx g) (fun xs => xs.map (·.1.2) = ss.reverse) (fun _ => True) ss.length w0 := by
 intro l J Jx W hW hJ hJx hY h0
 refine callsIn_of_wp Tryz.func108 rfl trivial ?_ rfl
 simp only [Tryz.ntmps108, List.size_toArray, List.length_cons, List.length_nil, Nat.reduceAdd, Nat.reduceSub, Array.replicate_succ, Array.replicate_zero, List.push_toArray, List.append_toArray, List.nil_append, List.cons_append]
 have hbW : W.cell? ⟨bx, 0, none⟩ = some (.slice a ss.length c) := (hW.cell (p := ⟨bx, 0, none⟩) (cell_lt hb)).trans hb
 have HY := hide hY
 have H0 := hide (And.intro h0 (And.intro hbW (hR.below hW)))
 have HG := hide hg
 clear hY h0 hW hJ hJx hg hb hR
 gi_wp2_with fail
 gi_loopw [3] (fun vs wr => ∃ (k : Nat) (pre : List (Bp p)), vs = .int .i64 ((k : Int) - 1) ∧ k ≤ ss.length ∧ Hid (pre.map (·.1.2) = (ss.drop k).reverse ∧ J pre wr ∧ wr.cell? ⟨bx, 0, none⟩ = some (.slice a ss.length c) ∧ StepsAt wr (.slice a ss.length c) ss)) (fun vs _ => (intOf vs + 1).toNat)
 case atStart => exact ⟨ss.length, [], rfl, Nat.le_refl _, by simp, H0.out⟩
 case round =>
  obtain ⟨k, pre, rfl, hk, HP⟩ := hrel
  clear H0
  cases k with
  | zero =>
   gi_wp2_with fail
   go_end0
   refine ⟨⟨_, rfl⟩, .inl ⟨pre, ?_, HP.out.2.1⟩⟩
   have := HP.out.1
   simpa using this
  | succ k =>
   have hlen : pre.length = ss.length - (k + 1) := by have := congrArg List.length HP.out.1; simpa using this
   obtain ⟨s, hs⟩ : ∃ s, ss[k]? = some s := ⟨_, List.getElem?_eq_getElem (by omega)⟩
   have hps : p s := hp s (List.mem_of_getElem? hs)
   obtain ⟨gg, off, ha, _, hcap, hgl, hrg⟩ := HP.out.2.2.2.at (fun e => by rw [e] at hk; simp at hk)
   obtain ⟨fn, tmps, assign, body, hy, hR⟩ := HY.out pre ⟨(k, s), hps⟩ wr HP.out.2.1 (by omega)
   have c0 := HP.out.2.2.1
   subst ha
   obtain ⟨d0, d1, d2, d3, d4, d5, d6, d7, d8, d9, d10, d11, d12, d13, d14, d15, d16⟩ := cells17 (hrg k s hs)
   dsimp only at hy
   unfold Sp.v at hy
   have e1 : ((k + 1 : Nat) : Int) - 1 = k := by omega
   rw [e1]
   have hkl : (k : Int) < ss.length := by omega
   have hk0 : (0 : Int) ≤ k := by omega
   have HS := hide (And.intro hs (And.intro hgl hrg))
   clear hs hgl hrg hlen
   gi_wp2_with fail
   refine ⟨fun h => (by cases h), hR.mono ?_⟩
   rintro e W3 (⟨rfl, hJ3, hk3⟩ | ⟨rfl, hJx3⟩)
   ·have hH : Hid (J (pre ++ [⟨(k, s), hps⟩]) W3 ∧ W3.cell? ⟨bx, 0, none⟩ = some (.slice (some ⟨gg, off, none⟩) ss.length c) ∧ StepsAt W3 (.slice (some ⟨gg, off, none⟩) ss.length c) ss) := by
     refine ⟨hJ3, (cell_same hk3.2.1).trans HP.out.2.2.1, .inr ⟨gg, off, c, rfl, Nat.lt_of_lt_of_le HS.out.2.1 hk3.1, hcap, fun i s' hs' j u hu => ?_⟩⟩
     have hgg : gg = g := HG.out _ rfl
     have e4 : W3.heap[gg]? = wr.heap[gg]? := hgg ▸ hk3.2.2
     exact (cell_same e4).trans (HS.out.2.2 i s' hs' j u hu)
    clear hJ3 hk3 hR hy
    gi_wp2_with fail
    go_roundw
    case rel =>
     refine ⟨k, pre ++ [⟨(k, s), hps⟩], rfl, by omega, ?_, hH.out⟩
     rw [List.map_append, HP.out.1]
     have e2 : ss.drop k = s :: ss.drop (k + 1) := by
      rw [List.drop_eq_getElem_cons (by omega)]
      have := HS.out.1
      rw [List.getElem?_eq_getElem (by omega)] at this
      rw [Option.some.inj this]
     rw [e2, List.reverse_cons]
     rfl
    case measure => simp only [intOf]; omega
   ·clear hR hy
    gi_wp2_with fail
    refine bodyPost_ret (results_none rfl _ _ _) rfl ?_
    exact ⟨⟨_, rfl⟩, .inr ⟨pre ++ [⟨(k, s), hps⟩], trivial, hJx3⟩⟩
end Go.Proofs.YtnbhchdaobimmaaGreatDoor
/- What is taken back: its memory, round by round. -/
namespace Go.Mov
open Go.RowKit Go.MapInt
theorem StepsAt.dropped {w : World} {g off c n : Nat} {ss : List Sp} (h : StepsAt w (.slice (some ⟨g, off, none⟩) ss.length c) ss) (hn : n ≤ ss.length) : StepsAt w (.slice (some ⟨g, off + n * 17, none⟩) (ss.length - n) (c - n)) (ss.drop n) := by
 rcases h with ⟨h, _⟩ | ⟨g', off', cap, h1, h2, h3, h4⟩
 ·cases h
 ·simp only [Value.slice.injEq, Option.some.injEq, Addr.mk.injEq, and_true, true_and] at h1
  obtain ⟨⟨rfl, rfl⟩, rfl⟩ := h1
  refine .inr ⟨g, off + n * 17, c - n, by rw [List.length_drop], h2, by rw [List.length_drop]; omega, fun i s hs => ?_⟩
  rw [List.getElem?_drop] at hs
  have := h4 _ s hs
  rw [show off + n * 17 + i * 17 = off + (n + i) * 17 by omega]
  exact this
theorem own_take {w : World} {base e g c L n : Nat} {xs : List Value} (h : w.ownsRow base e 17 (.slice (some ⟨g, 0, none⟩) L c) L xs) (hn : n ≤ L) : w.ownsRow base e 17 (.slice (some ⟨g, 0, none⟩) n c) n (xs.take (n * 17)) := by
 rcases h.2 with ⟨h1, _⟩ | ⟨g', cap, cur, h1, h2, h3, h4, h5, h6, h7⟩
 ·cases h1
 ·simp only [Value.slice.injEq, Option.some.injEq, Addr.mk.injEq, and_true, true_and] at h1
  obtain ⟨rfl, rfl⟩ := h1
  have hl := h.1
  refine ⟨by rw [List.length_take, hl]; exact Nat.min_eq_left (Nat.mul_le_mul_right _ hn), .inr ⟨g, c, cur, rfl, h2, h3, by omega, h5, h6, ?_⟩⟩
  rw [← h7, List.take_take, Nat.min_eq_left (Nat.mul_le_mul_right _ hn)]
theorem flat_take {a b : List Sp} : ((a ++ b).flatMap Sp.cs).take (a.length * 17) = a.flatMap Sp.cs := by
 rw [List.flatMap_append]
 have : (a.flatMap Sp.cs).length = a.length * 17 := by
  induction a with
  | nil => rfl
  | cons x r ih => rw [List.flatMap_cons, List.length_append, ih, Sp.cs_length, List.length_cons]; omega
 rw [← this, List.take_left]
/-- What is kept of one that is taken back. -/
def Bk (mb : Option Nat) (s : Sp) : Prop := Num s.en.op.thing ∧ (∀ y, s.was = some y → y.id = s.en.op.thing ∧ y.Fits) ∧ (mb = none → s.was = none)
theorem undo_all : ∀ (d : List En) {t : Ths}, Fine t → (∀ e ∈ d, e.Fits) → (sps t d).reverse.foldl undo (ths t d) = t
 | [], _, _, _ => rfl
 | e :: r, t, h, hf => by
  show ((_ :: sps (Mov.made t e.op) r).reverse).foldl undo (ths (Mov.made t e.op) r) = t
  rw [List.reverse_cons, List.foldl_append, undo_all r (h.made (hf e (by simp)).1) fun x hx => hf x (by simp [hx])]
  exact undo_made h e
theorem put_ne (l : Ths) (x : Th) : Mov.put l x ≠ [] := by
 cases l with
 | nil => simp [Mov.put]
 | cons y r => unfold Mov.put; split <;> (try split) <;> simp
theorem ths_nil : ∀ (d : List En) {t : Ths}, ths t d = [] → t = []
 | [], _, h => h
 | e :: r, t, h => by
  have h1 := ths_nil r (t := Mov.made t e.op) h
  unfold Mov.made at h1
  split at h1
  ·exact absurd h1 (put_ne _ _)
  ·exact h1
theorem sps_bk (mb : Option Nat) : ∀ (d : List En) {t : Ths}, Fine t → (∀ e ∈ d, e.Fits) → (mb = none → ths t d = []) → ∀ s ∈ sps t d, Bk mb s
 | [], _, _, _, _, s, hs => by cases hs
 | e :: r, t, h, hf, hm, s, hs => by
  rcases List.mem_cons.1 hs with rfl | hs
  ·refine ⟨(hf e (by simp)).1.thing, fun y hy => ?_, fun hn => ?_⟩
   ·have := look_mem hy
    exact ⟨this.2, h.fits y this.1⟩
   ·have := ths_nil (e :: r) (hm hn)
    show Mov.look t e.op.thing = none
    rw [this]; rfl
  ·exact sps_bk mb r (h.made (hf e (by simp)).1) (fun x hx => hf x (by simp [hx])) hm s hs
end Go.Mov
namespace Go.Proofs.YtnbhchdaobimmaaGreatDoor
open Go.RowKit Go.Opn Go.Stamp Go.MapInt Go.Mov Go.Shelf
attribute [local go_sem] Oper.semAt_some
set_option maxRecDepth 100000 in
theorem own_form {W : World} {base e z k : Nat} {v : Value} {xs : List Value} (h : W.ownsRow base e z v k xs) : ∃ a c, v = .slice a k c := by
 rcases h.2 with ⟨h1, h2⟩ | ⟨g, cap, cur, h1, _⟩
 ·exact ⟨none, 0, by rw [h1, h2]⟩
 ·exact ⟨_, _, h1⟩
set_option maxRecDepth 100000 in
theorem own_low {W : World} {base base' e z k : Nat} {v : Value} {xs : List Value} (h : W.ownsRow base e z v k xs) (hb : base' ≤ base) : W.ownsRow base' e z v k xs := by
 refine ⟨h.1, ?_⟩
 rcases h.2 with h2 | ⟨g, cap, cur, h1, h2, h3⟩
 ·exact .inl h2
 ·exact .inr ⟨g, cap, cur, h1, Nat.le_trans hb h2, h3⟩
set_option maxRecDepth 100000 in
theorem del_nil (k : Int) (ty : TypeId) (w : World) : (Builtin.delete_ #[107, 49] ty #[.map none, .int .u64 k]).run Tryz.prog w = .ok (.tuple #[]) w := by kernel_rfl
set_option maxRecDepth 100000 in
theorem putObj_other {W : World} {l k : Nat} {o : Obj} (h : k ≠ l) : (W.putObj l o).heap[k]? = W.heap[k]? := by
 unfold World.putObj
 simp [Ne.symm h]
set_option maxRecDepth 100000 in
theorem KpB_t (bx g : Nat) {A B C : World} (h : KpB bx g A B) (k : KpB bx g B C) : KpB bx g A C := ⟨Nat.le_trans h.1 k.1, k.2.1.trans h.2.1, k.2.2.trans h.2.2⟩
set_option maxRecDepth 100000 in
theorem KpB_b (bx g B : Nat) (h1 : bx < B) (h2 : g < B) (W : World) (l : Nat) (o o' : Obj) (hl : B ≤ l) (_ : W.heap[l]? = some o) (_ : o.isCells = false) (_ : o.isWalk = false) : KpB bx g W (W.putObj l o') := by
 have hg := grownBy_putObj' W l o'
 exact ⟨hg.size, putObj_other (by omega), putObj_other (by omega)⟩
/-- What stands between two rounds of taking back. -/
structure Tb (base : Nat) (F F2 : Ft) (l : List En) (n : Nat) (u : Int) (w w3 : World) (va : Option Addr) (vcc gc : Nat) (ss : List Sp) (W : World) : Prop where
 g : TreeG Tryz.prog 49 110 118 base F2 (ss.foldl undo (ths [] l)) (sps [] (l.take n)) u W
 rises : Rises (ss.foldl undo (ths [] l))
 fits : ∀ x ∈ ss.foldl undo (ths [] l), x.Fits
 len : (ss.foldl undo (ths [] l)).length ≤ l.length + ss.length
 t : W.heap[w.heap.size]? = some (.cells #[.pointer (some ⟨F2.b, 0, none⟩)] 23 (0, 0))
 own : W.ownsRow (w.heap.size + 1) 118 17 (.slice va (l.length - n) vcc) (l.length - n) ((sps (ths [] (l.take n)) (l.drop n)).flatMap Sp.cs)
 lt : ∀ x, F2.has x → x < w.heap.size
 olt : ∀ x, (Value.slice va (l.length - n) vcc).ownBlock = some x → x < w3.heap.size
 tn : Tn F w W
 sz : w.heap.size + 1 ≤ w3.heap.size
 wz : w3.heap.size + 1 ≤ W.heap.size
set_option maxRecDepth 100000 in
theorem Tb.kept {base : Nat} {F F2 : Ft} {l : List En} {n : Nat} {u : Int} {w w3 : World} {va : Option Addr} {vcc gc : Nat} {ss : List Sp} {A B : World} (h : Tb base F F2 l n u w w3 va vcc gc ss A) (hb : ∀ k, k < A.heap.size → k < w3.heap.size + 1 → B.heap[k]? = A.heap[k]?) (hAB : A.heap.size ≤ B.heap.size) (tn : Tn F w B) : Tb base F F2 l n u w w3 va vcc gc ss B := by
 have hsz := h.sz
 refine ⟨h.g.kept fun x hx => hb x (h.g.lt x hx) (by have := h.lt x hx; omega), h.rises, h.fits, h.len, (hb _ (Array.getElem?_eq_some_iff.1 h.t).1 (by omega)).trans h.t, own_kept h.own fun x hx => hb x (h.own.lt x hx).2 (by have := h.olt x hx; omega), h.lt, h.olt, tn, h.sz, Nat.le_trans h.wz hAB⟩
set_option maxRecDepth 100000 in
theorem Tb.same {base : Nat} {F F2 : Ft} {l : List En} {n : Nat} {u : Int} {w w3 : World} {va : Option Addr} {vcc gc : Nat} {ss : List Sp} {s : Sp} {A : World} (h : Tb base F F2 l n u w w3 va vcc gc ss A) (he : undo (ss.foldl undo (ths [] l)) s = ss.foldl undo (ths [] l)) : Tb base F F2 l n u w w3 va vcc gc (ss ++ [s]) A := by
 have hlen := h.len
 have e : (ss ++ [s]).foldl undo (ths [] l) = ss.foldl undo (ths [] l) := by rw [List.foldl_append]; exact he
 refine ⟨?_, ?_, ?_, ?_, h.t, h.own, h.lt, h.olt, h.tn, h.sz, h.wz⟩
 ·rw [e]; exact h.g
 ·rw [e]; exact h.rises
 ·rw [e]; exact h.fits
 ·rw [e, List.length_append]; omega
set_option maxRecDepth 100000 in
theorem Tb.turned {base : Nat} {F F2 : Ft} {l : List En} {n : Nat} {u : Int} {w w3 : World} {va : Option Addr} {vcc gc m : Nat} {ss : List Sp} {s : Sp} {A B : World} (h : Tb base F F2 l n u w w3 va vcc gc ss A) (hm : F2.mb = some m) (hF : F.has m) (hg : A.grownBy B (some m)) (hM : MapAt Tryz.prog 49 B (some m) (undo (ss.foldl undo (ths [] l)) s))
  (hr : Rises (undo (ss.foldl undo (ths [] l)) s)) (hf : ∀ x ∈ undo (ss.foldl undo (ths [] l)) s, x.Fits) (hl : (undo (ss.foldl undo (ths [] l)) s).length ≤ (ss.foldl undo (ths [] l)).length + 1) : Tb base F F2 l n u w w3 va vcc gc (ss ++ [s]) B := by
 have hml := h.lt m (.inr (.inl hm))
 have hlen := h.len
 have hsz := h.sz
 have e : (ss ++ [s]).foldl undo (ths [] l) = undo (ss.foldl undo (ths [] l)) s := by rw [List.foldl_append]; rfl
 refine ⟨?_, ?_, ?_, ?_, (hg.block _ (Array.getElem?_eq_some_iff.1 h.t).1 (fun e => by cases e; omega)).trans h.t, own_kept h.own fun x hx => hg.block x (h.own.lt x hx).2 (fun e => by have := (h.own.lt x hx).1; cases e; omega), h.lt, h.olt, h.tn.trans (Tn.of_grown (F := F) hg fun x hx => by cases hx; exact hF) (F.to_refl _), h.sz, Nat.le_trans h.wz hg.size⟩
 ·rw [e]; exact h.g.setMap hm hg hM
 ·rw [e]; exact hr
 ·rw [e]; exact hf
 ·rw [e, List.length_append]; simp only [List.length_singleton]; omega
end Go.Proofs.YtnbhchdaobimmaaGreatDoor
/- Contract: all from a place on is taken back, the last one first: where there is room behind. -/
namespace Go.Proofs.YtnbhchdaobimmaaGreatDoor
open Go.RowKit Go.Opn Go.Stamp Go.MapInt Go.Mov Go.Shelf
attribute [local go_sem] Oper.semAt_some
set_option maxHeartbeats 4000000 in
set_option maxRecDepth 100000 in
theorem takeBack_some {base : Nat} {F : Ft} {l : List En} {u : Int} (n : Nat) (w : World) (h : TreeAt Tryz.prog 49 110 118 base F l u w) (hn : n ≤ l.length) (hl : l.length ≤ 100000) (hb : base ≤ w.heap.size) (hw : ∃ g c, F.lv = .slice (some ⟨g, 0, none⟩) l.length c ∧ ¬ c = n) :
  Calls Tryz.prog 52 #[.pointer (some ⟨F.b, 0, none⟩), .int .i64 n] w fun r w' =>
   ∃ F' v', r = .returned v' ∧ F'.b = F.b ∧ TreeAt Tryz.prog 49 110 118 base F' (l.take n) u w' ∧ w'.ownsRow w.heap.size 118 17 v' (l.length - n) ((sps (ths [] (l.take n)) (l.drop n)).flatMap Sp.cs) ∧ (∀ x, F'.has x → F.has x) ∧ Tn F w w' := by
 refine (callsIn_wide (n := 9)).1 ?_
 refine callsIn_of_wp_marks Tryz.func52 rfl trivial ?_ rfl
 simp only [Tryz.ntmps52, List.size_toArray, List.length_cons, List.length_nil, Nat.reduceAdd, Nat.reduceSub, Array.replicate_succ, Array.replicate_zero, List.push_toArray, List.append_toArray, List.nil_append, List.cons_append]
 have HT := hide h
 have hll : (sps [] l).length = l.length := sps_length _ _
 have hE : Hid (sps [] l = sps [] (l.take n) ++ sps (ths [] (l.take n)) (l.drop n)) := by
  show _ = _
  conv => lhs; rw [← List.take_append_drop n l]
  rw [sps_append]
 have htl : (sps [] (l.take n)).length = n := by rw [sps_length, List.length_take, Nat.min_eq_left hn]
 have hD : Hid ((sps [] l).drop n = sps (ths [] (l.take n)) (l.drop n)) := by
  show _ = _
  rw [hE.out]
  have e1 := List.drop_left (l₁ := sps [] (l.take n)) (l₂ := sps (ths [] (l.take n)) (l.drop n))
  rw [htl] at e1
  exact e1
 have kA := ((Below.refl _ w).alloc (Nat.le_refl _) (.cells #[.pointer (some ⟨F.b, 0, none⟩)] 23))
 have I0 := hide (HT.out.g.below kA)
 have KA := hide kA
 have c1 := I0.out.c1
 have hn' : (n : Int) ≤ l.length := by omega
 have hn0 : (0 : Int) ≤ n := by omega
 -- what is sliced off: three ways
 obtain ⟨la, lc, hlv⟩ := I0.out.steps.form
 have hcap : l.length ≤ lc := by
  rcases HT.out.row.2 with ⟨hv, h0⟩ | ⟨g, cap, cur, hv, hg1, hg2, hg3, hg4, hg5, hg6⟩
  ·rw [h0]; exact Nat.zero_le _
  ·rw [hv] at hlv; simp only [Value.slice.injEq] at hlv; omega
 rw [hll] at hlv
 have hcapI : (l.length : Int) ≤ lc := by omega
 have hcapn : (n : Int) ≤ lc := by omega
 rw [hlv] at c1
 have HC : Hid (∀ v va c2, Below (w.alloc (.cells #[.pointer (some ⟨F.b, 0, none⟩)] 23)).heap.size (w.alloc (.cells #[.pointer (some ⟨F.b, 0, none⟩)] 23)) v → (lc = n ∧ va = la ∧ c2 = 0 ∨ ¬ lc = n ∧ va = la.map (fun x => ⟨x.block, n * 17, none⟩) ∧ c2 = lc - n) → Calls Tryz.prog 76 #[.slice va (l.length - n) c2] v fun r w' => ∃ v', r = .returned v' ∧ w'.ownsRow v.heap.size 118 17 v' (l.length - n) ((sps (ths [] (l.take n)) (l.drop n)).flatMap Sp.cs) ∧ Below v.heap.size v w') := by
  intro v va c2 k hva
  have hlen : (sps (ths [] (l.take n)) (l.drop n)).length = l.length - n := by rw [sps_length, List.length_drop]
  have hst : StepsAt v (.slice va (l.length - n) c2) (sps (ths [] (l.take n)) (l.drop n)) := by
   refine StepsAt.below ?_ k
   have hs0 := I0.out.steps
   rw [hlv] at hs0
   rcases hva with ⟨h1, h2, h3⟩ | ⟨h1, h2, h3⟩
   ·have hz : l.length = n := by omega
    rcases hs0 with ⟨e1, e2⟩ | ⟨g, off, cap, e1, e2, e3, e4⟩
    ·simp only [Value.slice.injEq] at e1
     refine .inl ⟨by rw [h2, h3, e1.1, hz, Nat.sub_self], ?_⟩
     exact List.length_eq_zero_iff.1 (by rw [hlen]; omega)
    ·simp only [Value.slice.injEq] at e1
     refine .inr ⟨g, off, 0, by rw [h2, h3, e1.1, hlen], e2, by rw [hlen]; omega, fun i s hs => ?_⟩
     have := (List.getElem?_eq_some_iff.1 hs).1
     omega
   ·rcases hs0 with ⟨e1, e2⟩ | ⟨g, off, cap, e1, e2, e3, e4⟩
    ·simp only [Value.slice.injEq] at e1
     have hz : l.length = 0 := by rw [← hll, e2]; rfl
     exact absurd e1.2.2 (by omega)
    ·have hs1 : StepsAt (w.alloc (.cells #[.pointer (some ⟨F.b, 0, none⟩)] 23)) (.slice (some ⟨g, off, none⟩) (sps [] l).length lc) (sps [] l) := by
      have := I0.out.steps
      rw [hlv] at this
      simp only [Value.slice.injEq] at e1
      rw [e1.1, ← hll] at this
      exact this
     have h5 := hs1.dropped (n := n) (by omega)
     rw [hD.out, hll] at h5
     have hoff : off = 0 := by
      rcases HT.out.row.2 with ⟨hv, h0⟩ | ⟨g', cap', cur, hv, _⟩
      ·rw [hv] at hlv; simp only [Value.slice.injEq] at hlv e1; rw [← hlv.1] at e1; cases e1.1
      ·rw [hv] at hlv; simp only [Value.slice.injEq] at hlv e1; rw [← hlv.1] at e1; have := e1.1; simp only [Option.some.injEq, Addr.mk.injEq] at this; omega
     simp only [Value.slice.injEq] at e1
     rw [hoff, Nat.zero_add] at h5
     rw [h2, h3, e1.1]
     exact h5
  have := cloneSp_any _ _ v hst (by rw [hlen]; omega)
  rw [hlen] at this
  exact this
 have hla : la = none ∨ ∃ g, la = some ⟨g, 0, none⟩ := by
  rcases HT.out.row.2 with ⟨hv, h0⟩ | ⟨g', cap', cur, hv, _⟩
  ·rw [hv] at hlv; simp only [Value.slice.injEq] at hlv; exact .inl hlv.1.symm
  ·rw [hv] at hlv; simp only [Value.slice.injEq] at hlv; exact .inr ⟨g', hlv.1.symm⟩
 have HL := hide (And.intro hlv (And.intro hcap (And.intro hll htl)))
 clear hll htl h hlv hcap
 obtain ⟨g, hg, hcn⟩ : ∃ g, la = some ⟨g, 0, none⟩ ∧ ¬ lc = n := by
  obtain ⟨g, c, h1, h2⟩ := hw
  have h3 := HL.out.1
  rw [h1] at h3
  simp only [Value.slice.injEq] at h3
  exact ⟨g, h3.1.symm, by omega⟩
 subst hg
 clear hw hla
 have hcn2 : ¬ (lc : Int) = n := by omega
 gi_wp2_with (refine ⟨trivial, ?_⟩; gi_at_call 76; refine (callsIn_wide.2 (HC.out _ _ _ (Below.refl _ _) (.inr ⟨hcn, rfl, rfl⟩))).mono ?_; rintro e w1 ⟨vc, rfl, hown, kC⟩; have I1 := hide (I0.out.below kC); have HO := hide hown; have KC := hide kC; obtain ⟨va, vcc, rfl⟩ := own_form HO.out; clear hown kC)
 have b1 := I1.out.c1
 have f1 := I1.out.fz 1
 rw [HL.out.1] at b1
 have t1 : w1.cell? ⟨w.heap.size, 0, none⟩ = some (.pointer (some ⟨F.b, 0, none⟩)) := (KC.out.cell (p := ⟨w.heap.size, 0, none⟩) (by simp)).trans ((cell_of_row _ _ _ _ _ _ (heap_alloc_new w _)).trans rfl)
 gi_region
 have I2 : Hid (TreeG Tryz.prog 49 110 118 base ⟨F.b, F.mb, .slice (some ⟨g, 0, none⟩) n lc⟩ (ths [] l) (sps [] (l.take n)) u (w1.setCell ⟨F.b, 1, none⟩ (.slice (some ⟨g, 0, none⟩) n lc))) := by
  have hrow := I1.out.row
  rw [HL.out.1, HL.out.2.2.1] at hrow
  have htk := own_take hrow hn
  rw [hE.out] at htk
  have e2 : ((sps [] (l.take n) ++ sps (ths [] (l.take n)) (l.drop n)).flatMap Sp.cs).take (n * 17) = (sps [] (l.take n)).flatMap Sp.cs := by
   have e3 := flat_take (a := sps [] (l.take n)) (b := sps (ths [] (l.take n)) (l.drop n))
   rw [HL.out.2.2.2] at e3
   exact e3
  rw [e2] at htk
  refine I1.out.setLog (by decide) ⟨rfl, rfl, rfl, Nat.le_refl _, fun _ _ _ => rfl⟩ (ss' := sps [] (l.take n)) (by rw [HL.out.2.2.2]; exact htk) (fun x hx => .inl (by rw [HL.out.1]; cases hx; rfl)) (Nat.le_trans hb (Nat.le_trans (by simp) KC.out.size))
 have hgb := I1.out.lt _ (.inl rfl)
 have hsz1 : w.heap.size + 1 ≤ w1.heap.size := by have := KC.out.size; simpa using this
 have hFlt := HT.out.g.lt _ (.inl rfl)
 have I3 := hide (I2.out.below ((Below.refl _ _).drew))
 have HO3 : Hid ((w1.setCell ⟨F.b, 1, none⟩ (.slice (some ⟨g, 0, none⟩) n lc)).drew.ownsRow (w.heap.size + 1) 118 17 (.slice va (l.length - n) vcc) (l.length - n) ((sps (ths [] (l.take n)) (l.drop n)).flatMap Sp.cs)) := by
  have h1 := HO.out
  simp only [World.size_alloc] at h1
  refine own_kept h1 fun x hx => ?_
  have := (h1.lt x hx).1
  exact heap_setCell_other _ _ _ _ (by show x ≠ F.b; omega)
 have T3 : (w1.setCell ⟨F.b, 1, none⟩ (.slice (some ⟨g, 0, none⟩) n lc)).drew.heap[w.heap.size]? = some (.cells #[.pointer (some ⟨F.b, 0, none⟩)] 23 (0, 0)) := by
  have h1 : w1.heap[w.heap.size]? = some (.cells #[.pointer (some ⟨F.b, 0, none⟩)] 23 (0, 0)) := (KC.out.block _ (by simp)).trans (heap_alloc_new w _)
  exact (heap_setCell_other _ _ _ _ (by show w.heap.size ≠ F.b; omega)).trans h1
 have TN3 : Hid (Tn F w (w1.setCell ⟨F.b, 1, none⟩ (.slice (some ⟨g, 0, none⟩) n lc)).drew) := by
  have k1 : Below w.heap.size w w1 := KA.out.trans (KC.out.mono (by simp))
  exact ((Tn.of_below k1).trans (Tn.of_set w1 _ (.inl rfl)) (F.to_refl _)).trans (Tn.of_below ((Below.refl _ _).drew)) (F.to_refl _)
 have SZ3 : Hid (w.heap.size + 1 ≤ (w1.setCell ⟨F.b, 1, none⟩ (.slice (some ⟨g, 0, none⟩) n lc)).drew.heap.size) := by show _ ≤ _; simpa using hsz1
 generalize (w1.setCell ⟨F.b, 1, none⟩ (.slice (some ⟨g, 0, none⟩) n lc)).drew = w3 at I3 HO3 T3 TN3 SZ3 ⊢
 clear I2 I1 HO KC b1 f1 t1 hsz1 hgb
 gi_wp2_with (refine ⟨trivial, ?_⟩; gi_at_call 77; refine (callsIn_wide.2 (backward_any _ _ _ _)).mono ?_; rintro e w4 ⟨rfl, rfl⟩)
 have hbkA : ∀ s ∈ sps (ths [] (l.take n)) (l.drop n), Bk F.mb s := by
  refine sps_bk F.mb _ (ths_fine Fine.nil fun e he => HT.out.fits e (List.mem_of_mem_take he)) (fun e he => HT.out.fits e (List.mem_of_mem_drop he)) fun hm => ?_
  rw [← ths_append, List.take_append_drop]
  rcases HT.out.map with ⟨_, h1⟩ | ⟨b, h1, _⟩
  ·exact h1
  ·rw [hm] at h1; cases h1
 have W0e : (w3.alloc (.cells #[.slice va (l.length - n) vcc] 108)).heap.size = w3.heap.size + 1 := by simp
 obtain ⟨gc, hgc, hgl, hgw⟩ : ∃ gc, (∀ x, va = some x → x.block = gc) ∧ gc < w3.heap.size + 1 ∧ w.heap.size ≤ gc := by
  have h3 := SZ3.out
  cases va with
  | none => exact ⟨w3.heap.size, (fun x h => by cases h), by omega, by omega⟩
  | some x => exact ⟨x.block, (fun y h => by cases h; rfl), by have := (HO3.out.lt x.block rfl).2; omega, by have := (HO3.out.lt x.block rfl).1; omega⟩
 have hlen : (sps (ths [] (l.take n)) (l.drop n)).length = l.length - n := by rw [sps_length, List.length_drop]
 have hst3 : StepsAt (w3.alloc (.cells #[.slice va (l.length - n) vcc] 108)) (.slice va (sps (ths [] (l.take n)) (l.drop n)).length vcc) (sps (ths [] (l.take n)) (l.drop n)) := by
  have h1 := HO3.out
  rw [← hlen] at h1
  exact (StepsAt.of_own h1).below ((Below.refl _ w3).alloc (Nat.le_refl _) _)
 have hbx3 : (w3.alloc (.cells #[.slice va (l.length - n) vcc] 108)).cell? ⟨w3.heap.size, 0, none⟩ = some (.slice va (sps (ths [] (l.take n)) (l.drop n)).length vcc) := by
  rw [hlen]; exact (cell_of_row _ _ _ _ _ _ (heap_alloc_new w3 _)).trans rfl
 refine wpIn_rangeFunc_ownH rfl (by decide) (gf := 108) (lb := #[.pointer (some ⟨w3.heap.size, 0, none⟩)]) rfl trivial (enters_of Tryz.func108 (by kernel_rfl) rfl)
  (back_of (Bk F.mb) (sps (ths [] (l.take n)) (l.drop n)) hbkA w3.heap.size gc 8 _ hbx3 hgc hst3 (by rw [hlen]; omega)) (fun h k => KpB_t _ _ h k) (KpB_b _ _ _ (by simp) (by simpa using hgl)) (Below.refl _ _) (fun _ => rfl)
  (fun pre W => Tb base F ⟨F.b, F.mb, .slice (some ⟨g, 0, none⟩) n lc⟩ l n u w w3 va vcc gc (pre.map (·.1.2)) W)
  (fun c pre W => False)
  ?hI (fun c s A B row hs hg hr => hs) ?h0
  (fun x a' W => ∃ Bx, w3.heap.size + 1 ≤ Bx ∧ W.heap[Bx]? = some (.cells x.1.2.cs.toArray 118 (0, 0)) ∧ a' = { tmps := #[.pointer (some ⟨F.b, 0, none⟩), .int .i64 n, .pointer (some ⟨w.heap.size, 0, none⟩), undef, .slice none 0 0, .slice va (l.length - n) vcc, undef, .pointer (some ⟨Bx, 0, none⟩), .pointer (some ⟨F.b, 0, none⟩), .pointer (some ⟨F.b, 0, none⟩), .pointer (some ⟨F.b, 1, none⟩), .slice (some ⟨g, 0, none⟩) l.length lc, .int .i64 n, .slice (some ⟨g, n * 17, none⟩) (l.length - n) (lc - n), .slice va (l.length - n) vcc, .pointer (some ⟨F.b, 0, none⟩), .pointer (some ⟨F.b, 0, none⟩), .pointer (some ⟨F.b, 0, none⟩), .pointer (some ⟨F.b, 1, none⟩), .slice (some ⟨g, 0, none⟩) l.length lc, .int .i64 n, .slice (some ⟨g, 0, none⟩) n lc, .pointer (some ⟨F.b, 0, none⟩), .pointer (some ⟨F.b, 1, none⟩), .slice va (l.length - n) vcc, .func (.func 108) #[] #[.pointer (some ⟨w3.heap.size, 0, none⟩)], .int .i64 x.1.1, x.1.2.v, undef, undef, undef, undef, undef, undef, undef, undef, undef, undef, undef, undef, undef, undef, undef, undef, undef, undef, undef, undef, undef], defers := [] }) ?hAx ?assign ?body ?done ?stop
 case hI =>
  intro ss' A B row hs hg hr
  have hsz := hs.sz
  refine hs.kept (fun k h1 h2 => hg.block k h1 (fun e => by have := (hr k e.symm).1; simp at this; omega)) hg.size ?_
  have t0 := hs.tn
  refine ⟨hg.os.trans t0.os, hg.tape.trans t0.tape, hg.output.trans t0.output, Nat.le_trans t0.size hg.size, fun k hk hn' => (hg.block k (Nat.lt_of_lt_of_le hk t0.size) (fun e => by have := (hr k e.symm).1; simp at this; omega)).trans (t0.block k hk hn')⟩
 case h0 =>
  have hfn := HT.out.fine
  have kz := (Below.refl _ w3).alloc (Nat.le_refl _) (.cells #[.slice va (l.length - n) vcc] 108)
  refine ⟨I3.out.below kz, hfn.rises, hfn.fits, ?_, (kz.block _ (Array.getElem?_eq_some_iff.1 T3).1).trans T3, own_kept HO3.out fun x hx => kz.block x (HO3.out.lt x hx).2, ?_, fun x hx => (HO3.out.lt x hx).2, TN3.out.trans (Tn.of_below kz) (F.to_refl _), SZ3.out, by simp⟩
  ·have := ths_length (l := l) Fine.nil HT.out.fits
   simpa using this
  ·intro x hx
   refine HT.out.g.lt x ?_
   rcases hx with hx | hx | hx
   ·exact .inl hx
   ·exact .inr (.inl hx)
   ·refine .inr (.inr ?_)
    rw [HL.out.1]; exact hx
 case hAx =>
  rintro x a' _ A B row ⟨Bx, h1, h2, h3⟩ hg hr
  exact ⟨Bx, h1, (hg.block Bx (Array.getElem?_eq_some_iff.1 h2).1 (fun e => by obtain ⟨_, o, ho, hc⟩ := hr Bx e.symm; rw [h2] at ho; cases ho; cases hc)).trans h2, h3⟩
 case assign =>
  rintro lq pre ⟨⟨k, s⟩, hbk⟩ W K hI hK
  dsimp only
  unfold Sp.v
  gi_wp2
  have kz := (Below.refl _ W).alloc (Nat.le_refl _) (.cells s.cs.toArray 118)
  have hwz := hI.wz
  exact hK _ _ ((KeepsOthers.alloc _ _).from _) ⟨kz.size, kz.block _ (by omega), kz.block _ (by omega)⟩ (hI.kept (fun q h1 _ => kz.block q h1) kz.size (hI.tn.trans (Tn.of_below kz) (F.to_refl _))) ⟨W.heap.size, hwz, heap_alloc_new W _, rfl⟩
 case body =>
  rintro lq pre ⟨⟨k, s⟩, hbk⟩ a' W hlq hrec hI ⟨Bx, hBx, hrow, rfl⟩ hlen2
  rw [hlen] at hlen2
  dsimp only at hrow hbk
  obtain ⟨pl, hpl⟩ : ∃ pl, pl = pre.map (·.1.2) := ⟨_, rfl⟩
  have hpll : pl.length ≤ 100000 := by rw [hpl, List.length_map]; omega
  rw [← hpl] at hI
  have HPL := hide hpl
  have HI := hide hI
  have HR := hide hrow
  have HB := hide hbk
  clear hpl hlen2
  have c16 : W.cell? ⟨Bx, 16, none⟩ = some (.bool s.was.isSome) := (cell_of_row _ _ _ _ _ _ hrow).trans rfl
  have c3 : W.cell? ⟨Bx, 3, none⟩ = some (.int .u64 s.en.op.thing) := (cell_of_row _ _ _ _ _ _ hrow).trans rfl
  have ct : W.cell? ⟨w.heap.size, 0, none⟩ = some (.pointer (some ⟨F.b, 0, none⟩)) := (cell_of_row _ _ _ _ _ _ hI.t).trans rfl
  have c0 := hI.g.ths.cell
  dsimp only at c0
  clear hI hrow hrec hlq
  cases hwas : s.was with
  | none =>
   rw [hwas] at c16
   dsimp only [Option.isSome_none] at c16
   gi_wp2_with fail
   have r3 := cell_regrown c3
   have rt := cell_regrown ct
   have r0 := cell_regrown c0
   refine QuietCalls.tailIn 8 (by kernel_rfl) (by kernel_rfl) (by kernel_rfl) ?_
   simp only [List.take_succ_cons, List.take_zero, List.drop_succ_cons, List.drop_zero]
   iterate 8 (first | go_big_quiet_step (fail) | quiet_step (fail))
   refine wpQuiet_nil ?_
   intro W2 k2
   have HI2 := hide (HI.out.kept (fun q h1 _ => k2.block q h1) k2.size (HI.out.tn.trans (Tn.of_below k2) (F.to_refl _)))
   have hmap := HI2.out.g.map
   dsimp only at hmap
   have KB2 := hide k2
   clear k2
   cases hm : F.mb with
   | none =>
    have hdel := del_nil s.en.op.thing
    gi_wp2_with fail
    have hsz := HI.out.sz
    have hwz := HI.out.wz
    refine ⟨⟨KB2.out.size, fun q o hq hqo _ => (KB2.out.block q (Array.getElem?_eq_some_iff.1 hqo).1).trans hqo⟩, ⟨KB2.out.size, KB2.out.block _ (by omega), KB2.out.block _ (by omega)⟩, ?_⟩
    show Tb base F _ l n u w w3 va vcc gc (List.map (fun x : Bp (Bk F.mb) => x.1.2) (pre ++ [(⟨(k, s), hbk⟩ : Bp (Bk F.mb))])) W2
    rw [List.map_append, ← HPL.out]
    refine HI2.out.same ?_
    have ht0 : pl.foldl undo (ths [] l) = [] := by
     rcases hmap with ⟨_, h1⟩ | ⟨b, h1, _⟩
     ·exact h1
     ·rw [hm] at h1; cases h1
    show undo (pl.foldl undo (ths [] l)) s = _
    rw [ht0]; unfold undo; rw [hwas]; rfl
   | some m =>
    rw [hm] at hmap
    obtain ⟨W3, hdel, hM, hgr⟩ := hmap.del u64Key thMap s.en.op.thing HB.out.1 0
    have HT3 := hide (HI2.out.turned (s := s) (F2 := ⟨F.b, F.mb, .slice (some ⟨g, 0, none⟩) n lc⟩) hm (.inr (.inl hm)) hgr (by unfold undo; rw [hwas]; exact hM) (by unfold undo; rw [hwas]; exact rises_del HI2.out.rises _) (by
     unfold undo; rw [hwas]
     exact fun z hz => HI2.out.fits z (mem_del.1 hz).1) (by unfold undo; rw [hwas]; exact Nat.le_succ_of_le (List.length_filter_le _ _)))
    have HG3 := hide hgr
    clear hM hgr hmap
    gi_wp2_with fail
    have hml := HI.out.lt m (.inr (.inl hm))
    have hsz := HI.out.sz
    have hwz := HI.out.wz
    have hall : ∀ q, q < W.heap.size → q ≠ m → W3.heap[q]? = W.heap[q]? := fun q hq hqm => (HG3.out.block q (Nat.lt_of_lt_of_le hq KB2.out.size) (fun e => by cases e; exact hqm rfl)).trans (KB2.out.block q hq)
    refine ⟨⟨Nat.le_trans KB2.out.size HG3.out.size, fun q o hq hqo _ => (hall q (Array.getElem?_eq_some_iff.1 hqo).1 (by simp at hq; omega)).trans hqo⟩, ⟨Nat.le_trans KB2.out.size HG3.out.size, hall _ (by omega) (by omega), hall _ (by omega) (by omega)⟩, ?_⟩
    show Tb base F _ l n u w w3 va vcc gc (List.map (fun x : Bp (Bk F.mb) => x.1.2) (pre ++ [(⟨(k, s), hbk⟩ : Bp (Bk F.mb))])) W3
    rw [List.map_append, ← HPL.out]
    exact HT3.out
  | some y =>
   rw [hwas] at c16
   dsimp only [Option.isSome_some] at c16
   obtain ⟨hy1, hy2⟩ := HB.out.2.1 y hwas
   obtain ⟨m, hm⟩ : ∃ m, F.mb = some m := by
    cases e : F.mb with
    | none => have := HB.out.2.2 e; rw [hwas] at this; cases this
    | some m => exact ⟨m, rfl⟩
   rw [hm] at c0
   gi_wp2_with fail
   have r3 := cell_regrown c3
   have rt := cell_regrown ct
   have r0 := cell_regrown c0
   refine QuietCalls.tailIn 10 (by kernel_rfl) (by kernel_rfl) (by kernel_rfl) ?_
   simp only [List.take_succ_cons, List.take_zero, List.drop_succ_cons, List.drop_zero]
   iterate 9 (first | go_big_quiet_step (fail) | quiet_step (fail))
   refine QuietCalls.loadMid rfl 79 _ rfl Bx 10 rfl y.cs _ (fun v kb => ?mid) Tryz.underlying79 rfl infoTh ?_
   case mid =>
    intro j v' hv'
    have hrow2 := (kb.block Bx (Array.getElem?_eq_some_iff.1 HR.out).1).trans HR.out
    rw [cell_of_row _ _ _ _ _ _ hrow2]
    have hcs : s.cs = s.en.cs ++ (y.cs ++ [.bool true]) := by unfold Sp.cs Sp.x; rw [hwas]; rfl
    rw [hcs]
    have hj : j < 6 := (List.getElem?_eq_some_iff.1 hv').1
    rw [List.getElem?_toArray, List.getElem?_append_right (by show 10 ≤ 10 + j; omega), show 10 + j - s.en.cs.length = j from by show 10 + j - 10 = j; omega, List.getElem?_append_left (by exact hj)]
    exact hv'
   simp only [Act.put, List.setIfInBounds_toArray, List.set_cons_succ, List.set_cons_zero]
   refine wpQuiet_nil ?_
   intro W2 k2
   have HI2 := hide (HI.out.kept (fun q h1 _ => k2.block q h1) k2.size (HI.out.tn.trans (Tn.of_below k2) (F.to_refl _)))
   have hmap := HI2.out.g.map
   dsimp only at hmap
   rw [hm] at hmap
   obtain ⟨W3, hrun, hM, hgr⟩ := hmap.put u64Key thMap HI2.out.rises HI2.out.fits (by have := HI2.out.len; unfold maxLen; omega) y hy2
   rw [hy1] at hrun
   have hrun2 : (Instr.mapUpdate 107 (.map (some m)) (.int .u64 s.en.op.thing) (.agg y.cs.toArray)).run Tryz.prog W2 = .ok () W3 := hrun
   have HT3 := hide (HI2.out.turned (s := s) (F2 := ⟨F.b, F.mb, .slice (some ⟨g, 0, none⟩) n lc⟩) hm (.inr (.inl hm)) hgr (by unfold undo; rw [hwas]; exact hM) (by unfold undo; rw [hwas]; exact rises_put HI2.out.rises) (by
    unfold undo; rw [hwas]
    intro z hz
    rcases (mem_put HI2.out.rises).1 hz with rfl | hz
    ·exact hy2
    ·exact HI2.out.fits z hz.1) (by unfold undo; rw [hwas]; exact length_put_le HI2.out.rises y))
   have HG3 := hide hgr
   have KB2 := hide k2
   clear hrun hM hgr hmap k2
   gi_wp2_with fail
   have hml := HI.out.lt m (.inr (.inl hm))
   have hsz := HI.out.sz
   have hwz := HI.out.wz
   have hall : ∀ q, q < W.heap.size → q ≠ m → W3.heap[q]? = W.heap[q]? := fun q hq hqm => (HG3.out.block q (Nat.lt_of_lt_of_le hq KB2.out.size) (fun e => by cases e; exact hqm rfl)).trans (KB2.out.block q hq)
   refine ⟨⟨Nat.le_trans KB2.out.size HG3.out.size, fun q o hq hqo _ => (hall q (Array.getElem?_eq_some_iff.1 hqo).1 (by simp at hq; omega)).trans hqo⟩, ⟨Nat.le_trans KB2.out.size HG3.out.size, hall _ (by omega) (by omega), hall _ (by omega) (by omega)⟩, ?_⟩
   show Tb base F _ l n u w w3 va vcc gc (List.map (fun x : Bp (Bk F.mb) => x.1.2) (pre ++ [(⟨(k, s), hbk⟩ : Bp (Bk F.mb))])) W3
   rw [List.map_append, ← HPL.out]
   exact HT3.out
 case done =>
  rintro D xs W hD hxs hI hK
  have HI := hide hI
  have hth : (xs.map (·.1.2)).foldl undo (ths [] l) = ths [] (l.take n) := by
   rw [hxs]
   have e1 : ths [] l = ths (ths [] (l.take n)) (l.drop n) := by rw [← ths_append, List.take_append_drop]
   rw [e1]
   exact undo_all _ (ths_fine Fine.nil fun e he => HT.out.fits e (List.mem_of_mem_take he)) fun e he => HT.out.fits e (List.mem_of_mem_drop he)
  have HTH := hide hth
  have hD2 : w3.heap.size + 1 ≤ D := by simpa using hD
  clear hth hxs hI hD
  gi_wp2
  refine ⟨by simp, .inl ⟨_, _, rfl, run_takeDeferred hK, ?_⟩⟩
  have hkp : ∀ q, q < w3.heap.size + 1 → (W.putObj D (.deferred none)).heap[q]? = W.heap[q]? := fun q hq => putObj_other (by omega)
  have hsz := HI.out.sz
  refine ⟨.slice va (l.length - n) vcc, ?_, ⟨F.b, F.mb, .slice (some ⟨g, 0, none⟩) n lc⟩, _, rfl, rfl, TreeG.at ?_ (fun e he => HT.out.fits e (List.mem_of_mem_take he)) (HT.out.ord.sublist (List.take_sublist _ _)), ?_, ?_, ?_⟩
  ·simp [results, Tryz.f52, go_sem]
  ·have := HI.out.g
   rw [HTH.out] at this
   exact this.kept fun x hx => hkp x (by have := HI.out.lt x hx; omega)
  ·exact own_low (own_kept HI.out.own fun x hx => hkp x (by have := HI.out.olt x hx; omega)) (by omega)
  ·intro x hx
   rcases hx with hx | hx | hx
   ·exact .inl hx
   ·exact .inr (.inl hx)
   ·refine .inr (.inr ?_)
    rw [HL.out.1]; exact hx
  ·have t0 := HI.out.tn
   have hg := grownBy_putObj' W D (.deferred none)
   exact ⟨hg.os.trans t0.os, hg.tape.trans t0.tape, hg.output.trans t0.output, Nat.le_trans t0.size hg.size, fun q hq hq2 => (hkp q (by omega)).trans (t0.block q hq hq2)⟩
 case stop => rintro D c pre W hD hpre h hK; exact h.elim
end Go.Proofs.YtnbhchdaobimmaaGreatDoor
/- Contract: all from a place on is taken back, the last one first: where there is none. -/
namespace Go.Proofs.YtnbhchdaobimmaaGreatDoor
open Go.RowKit Go.Opn Go.Stamp Go.MapInt Go.Mov Go.Shelf
attribute [local go_sem] Oper.semAt_some
set_option maxHeartbeats 4000000 in
set_option maxRecDepth 100000 in
theorem takeBack_eq {base : Nat} {F : Ft} {l : List En} {u : Int} (n : Nat) (w : World) (h : TreeAt Tryz.prog 49 110 118 base F l u w) (hn : n ≤ l.length) (hl : l.length ≤ 100000) (hb : base ≤ w.heap.size) (hw : ∃ g, F.lv = .slice (some ⟨g, 0, none⟩) l.length n) :
  Calls Tryz.prog 52 #[.pointer (some ⟨F.b, 0, none⟩), .int .i64 n] w fun r w' =>
   ∃ F' v', r = .returned v' ∧ F'.b = F.b ∧ TreeAt Tryz.prog 49 110 118 base F' (l.take n) u w' ∧ w'.ownsRow w.heap.size 118 17 v' (l.length - n) ((sps (ths [] (l.take n)) (l.drop n)).flatMap Sp.cs) ∧ (∀ x, F'.has x → F.has x) ∧ Tn F w w' := by
 refine (callsIn_wide (n := 9)).1 ?_
 refine callsIn_of_wp_marks Tryz.func52 rfl trivial ?_ rfl
 simp only [Tryz.ntmps52, List.size_toArray, List.length_cons, List.length_nil, Nat.reduceAdd, Nat.reduceSub, Array.replicate_succ, Array.replicate_zero, List.push_toArray, List.append_toArray, List.nil_append, List.cons_append]
 have HT := hide h
 have hll : (sps [] l).length = l.length := sps_length _ _
 have hE : Hid (sps [] l = sps [] (l.take n) ++ sps (ths [] (l.take n)) (l.drop n)) := by
  show _ = _
  conv => lhs; rw [← List.take_append_drop n l]
  rw [sps_append]
 have htl : (sps [] (l.take n)).length = n := by rw [sps_length, List.length_take, Nat.min_eq_left hn]
 have hD : Hid ((sps [] l).drop n = sps (ths [] (l.take n)) (l.drop n)) := by
  show _ = _
  rw [hE.out]
  have e1 := List.drop_left (l₁ := sps [] (l.take n)) (l₂ := sps (ths [] (l.take n)) (l.drop n))
  rw [htl] at e1
  exact e1
 have kA := ((Below.refl _ w).alloc (Nat.le_refl _) (.cells #[.pointer (some ⟨F.b, 0, none⟩)] 23))
 have I0 := hide (HT.out.g.below kA)
 have KA := hide kA
 have c1 := I0.out.c1
 have hn' : (n : Int) ≤ l.length := by omega
 have hn0 : (0 : Int) ≤ n := by omega
 -- what is sliced off: three ways
 obtain ⟨la, lc, hlv⟩ := I0.out.steps.form
 have hcap : l.length ≤ lc := by
  rcases HT.out.row.2 with ⟨hv, h0⟩ | ⟨g, cap, cur, hv, hg1, hg2, hg3, hg4, hg5, hg6⟩
  ·rw [h0]; exact Nat.zero_le _
  ·rw [hv] at hlv; simp only [Value.slice.injEq] at hlv; omega
 rw [hll] at hlv
 have hcapI : (l.length : Int) ≤ lc := by omega
 have hcapn : (n : Int) ≤ lc := by omega
 rw [hlv] at c1
 have HC : Hid (∀ v va c2, Below (w.alloc (.cells #[.pointer (some ⟨F.b, 0, none⟩)] 23)).heap.size (w.alloc (.cells #[.pointer (some ⟨F.b, 0, none⟩)] 23)) v → (lc = n ∧ va = la ∧ c2 = 0 ∨ ¬ lc = n ∧ va = la.map (fun x => ⟨x.block, n * 17, none⟩) ∧ c2 = lc - n) → Calls Tryz.prog 76 #[.slice va (l.length - n) c2] v fun r w' => ∃ v', r = .returned v' ∧ w'.ownsRow v.heap.size 118 17 v' (l.length - n) ((sps (ths [] (l.take n)) (l.drop n)).flatMap Sp.cs) ∧ Below v.heap.size v w') := by
  intro v va c2 k hva
  have hlen : (sps (ths [] (l.take n)) (l.drop n)).length = l.length - n := by rw [sps_length, List.length_drop]
  have hst : StepsAt v (.slice va (l.length - n) c2) (sps (ths [] (l.take n)) (l.drop n)) := by
   refine StepsAt.below ?_ k
   have hs0 := I0.out.steps
   rw [hlv] at hs0
   rcases hva with ⟨h1, h2, h3⟩ | ⟨h1, h2, h3⟩
   ·have hz : l.length = n := by omega
    rcases hs0 with ⟨e1, e2⟩ | ⟨g, off, cap, e1, e2, e3, e4⟩
    ·simp only [Value.slice.injEq] at e1
     refine .inl ⟨by rw [h2, h3, e1.1, hz, Nat.sub_self], ?_⟩
     exact List.length_eq_zero_iff.1 (by rw [hlen]; omega)
    ·simp only [Value.slice.injEq] at e1
     refine .inr ⟨g, off, 0, by rw [h2, h3, e1.1, hlen], e2, by rw [hlen]; omega, fun i s hs => ?_⟩
     have := (List.getElem?_eq_some_iff.1 hs).1
     omega
   ·rcases hs0 with ⟨e1, e2⟩ | ⟨g, off, cap, e1, e2, e3, e4⟩
    ·simp only [Value.slice.injEq] at e1
     have hz : l.length = 0 := by rw [← hll, e2]; rfl
     exact absurd e1.2.2 (by omega)
    ·have hs1 : StepsAt (w.alloc (.cells #[.pointer (some ⟨F.b, 0, none⟩)] 23)) (.slice (some ⟨g, off, none⟩) (sps [] l).length lc) (sps [] l) := by
      have := I0.out.steps
      rw [hlv] at this
      simp only [Value.slice.injEq] at e1
      rw [e1.1, ← hll] at this
      exact this
     have h5 := hs1.dropped (n := n) (by omega)
     rw [hD.out, hll] at h5
     have hoff : off = 0 := by
      rcases HT.out.row.2 with ⟨hv, h0⟩ | ⟨g', cap', cur, hv, _⟩
      ·rw [hv] at hlv; simp only [Value.slice.injEq] at hlv e1; rw [← hlv.1] at e1; cases e1.1
      ·rw [hv] at hlv; simp only [Value.slice.injEq] at hlv e1; rw [← hlv.1] at e1; have := e1.1; simp only [Option.some.injEq, Addr.mk.injEq] at this; omega
     simp only [Value.slice.injEq] at e1
     rw [hoff, Nat.zero_add] at h5
     rw [h2, h3, e1.1]
     exact h5
  have := cloneSp_any _ _ v hst (by rw [hlen]; omega)
  rw [hlen] at this
  exact this
 have hla : la = none ∨ ∃ g, la = some ⟨g, 0, none⟩ := by
  rcases HT.out.row.2 with ⟨hv, h0⟩ | ⟨g', cap', cur, hv, _⟩
  ·rw [hv] at hlv; simp only [Value.slice.injEq] at hlv; exact .inl hlv.1.symm
  ·rw [hv] at hlv; simp only [Value.slice.injEq] at hlv; exact .inr ⟨g', hlv.1.symm⟩
 have HL := hide (And.intro hlv (And.intro hcap (And.intro hll htl)))
 clear hll htl h hlv hcap
 obtain ⟨g, hg, hcn⟩ : ∃ g, la = some ⟨g, 0, none⟩ ∧ n = lc := by
  obtain ⟨g, h1⟩ := hw
  have h3 := HL.out.1
  rw [h1] at h3
  simp only [Value.slice.injEq] at h3
  exact ⟨g, h3.1.symm, by omega⟩
 subst hg
 subst hcn
 clear hw hla hcapI hcapn
 gi_wp2_with (refine ⟨trivial, ?_⟩; gi_at_call 76; refine (callsIn_wide.2 (HC.out _ _ _ (Below.refl _ _) (.inl ⟨rfl, rfl, rfl⟩))).mono ?_; rintro e w1 ⟨vc, rfl, hown, kC⟩; have I1 := hide (I0.out.below kC); have HO := hide hown; have KC := hide kC; obtain ⟨va, vcc, rfl⟩ := own_form HO.out; clear hown kC)
 have b1 := I1.out.c1
 have f1 := I1.out.fz 1
 rw [HL.out.1] at b1
 have t1 : w1.cell? ⟨w.heap.size, 0, none⟩ = some (.pointer (some ⟨F.b, 0, none⟩)) := (KC.out.cell (p := ⟨w.heap.size, 0, none⟩) (by simp)).trans ((cell_of_row _ _ _ _ _ _ (heap_alloc_new w _)).trans rfl)
 gi_region
 have I2 : Hid (TreeG Tryz.prog 49 110 118 base ⟨F.b, F.mb, .slice (some ⟨g, 0, none⟩) n n⟩ (ths [] l) (sps [] (l.take n)) u (w1.setCell ⟨F.b, 1, none⟩ (.slice (some ⟨g, 0, none⟩) n n))) := by
  have hrow := I1.out.row
  rw [HL.out.1, HL.out.2.2.1] at hrow
  have htk := own_take hrow hn
  rw [hE.out] at htk
  have e2 : ((sps [] (l.take n) ++ sps (ths [] (l.take n)) (l.drop n)).flatMap Sp.cs).take (n * 17) = (sps [] (l.take n)).flatMap Sp.cs := by
   have e3 := flat_take (a := sps [] (l.take n)) (b := sps (ths [] (l.take n)) (l.drop n))
   rw [HL.out.2.2.2] at e3
   exact e3
  rw [e2] at htk
  refine I1.out.setLog (by decide) ⟨rfl, rfl, rfl, Nat.le_refl _, fun _ _ _ => rfl⟩ (ss' := sps [] (l.take n)) (by rw [HL.out.2.2.2]; exact htk) (fun x hx => .inl (by rw [HL.out.1]; cases hx; rfl)) (Nat.le_trans hb (Nat.le_trans (by simp) KC.out.size))
 have hgb := I1.out.lt _ (.inl rfl)
 have hsz1 : w.heap.size + 1 ≤ w1.heap.size := by have := KC.out.size; simpa using this
 have hFlt := HT.out.g.lt _ (.inl rfl)
 have I3 := hide (I2.out.below ((Below.refl _ _).drew))
 have HO3 : Hid ((w1.setCell ⟨F.b, 1, none⟩ (.slice (some ⟨g, 0, none⟩) n n)).drew.ownsRow (w.heap.size + 1) 118 17 (.slice va (l.length - n) vcc) (l.length - n) ((sps (ths [] (l.take n)) (l.drop n)).flatMap Sp.cs)) := by
  have h1 := HO.out
  simp only [World.size_alloc] at h1
  refine own_kept h1 fun x hx => ?_
  have := (h1.lt x hx).1
  exact heap_setCell_other _ _ _ _ (by show x ≠ F.b; omega)
 have T3 : (w1.setCell ⟨F.b, 1, none⟩ (.slice (some ⟨g, 0, none⟩) n n)).drew.heap[w.heap.size]? = some (.cells #[.pointer (some ⟨F.b, 0, none⟩)] 23 (0, 0)) := by
  have h1 : w1.heap[w.heap.size]? = some (.cells #[.pointer (some ⟨F.b, 0, none⟩)] 23 (0, 0)) := (KC.out.block _ (by simp)).trans (heap_alloc_new w _)
  exact (heap_setCell_other _ _ _ _ (by show w.heap.size ≠ F.b; omega)).trans h1
 have TN3 : Hid (Tn F w (w1.setCell ⟨F.b, 1, none⟩ (.slice (some ⟨g, 0, none⟩) n n)).drew) := by
  have k1 : Below w.heap.size w w1 := KA.out.trans (KC.out.mono (by simp))
  exact ((Tn.of_below k1).trans (Tn.of_set w1 _ (.inl rfl)) (F.to_refl _)).trans (Tn.of_below ((Below.refl _ _).drew)) (F.to_refl _)
 have SZ3 : Hid (w.heap.size + 1 ≤ (w1.setCell ⟨F.b, 1, none⟩ (.slice (some ⟨g, 0, none⟩) n n)).drew.heap.size) := by show _ ≤ _; simpa using hsz1
 generalize (w1.setCell ⟨F.b, 1, none⟩ (.slice (some ⟨g, 0, none⟩) n n)).drew = w3 at I3 HO3 T3 TN3 SZ3 ⊢
 clear I2 I1 HO KC b1 f1 t1 hsz1 hgb
 gi_wp2_with (refine ⟨trivial, ?_⟩; gi_at_call 77; refine (callsIn_wide.2 (backward_any _ _ _ _)).mono ?_; rintro e w4 ⟨rfl, rfl⟩)
 have hbkA : ∀ s ∈ sps (ths [] (l.take n)) (l.drop n), Bk F.mb s := by
  refine sps_bk F.mb _ (ths_fine Fine.nil fun e he => HT.out.fits e (List.mem_of_mem_take he)) (fun e he => HT.out.fits e (List.mem_of_mem_drop he)) fun hm => ?_
  rw [← ths_append, List.take_append_drop]
  rcases HT.out.map with ⟨_, h1⟩ | ⟨b, h1, _⟩
  ·exact h1
  ·rw [hm] at h1; cases h1
 have W0e : (w3.alloc (.cells #[.slice va (l.length - n) vcc] 108)).heap.size = w3.heap.size + 1 := by simp
 obtain ⟨gc, hgc, hgl, hgw⟩ : ∃ gc, (∀ x, va = some x → x.block = gc) ∧ gc < w3.heap.size + 1 ∧ w.heap.size ≤ gc := by
  have h3 := SZ3.out
  cases va with
  | none => exact ⟨w3.heap.size, (fun x h => by cases h), by omega, by omega⟩
  | some x => exact ⟨x.block, (fun y h => by cases h; rfl), by have := (HO3.out.lt x.block rfl).2; omega, by have := (HO3.out.lt x.block rfl).1; omega⟩
 have hlen : (sps (ths [] (l.take n)) (l.drop n)).length = l.length - n := by rw [sps_length, List.length_drop]
 have hst3 : StepsAt (w3.alloc (.cells #[.slice va (l.length - n) vcc] 108)) (.slice va (sps (ths [] (l.take n)) (l.drop n)).length vcc) (sps (ths [] (l.take n)) (l.drop n)) := by
  have h1 := HO3.out
  rw [← hlen] at h1
  exact (StepsAt.of_own h1).below ((Below.refl _ w3).alloc (Nat.le_refl _) _)
 have hbx3 : (w3.alloc (.cells #[.slice va (l.length - n) vcc] 108)).cell? ⟨w3.heap.size, 0, none⟩ = some (.slice va (sps (ths [] (l.take n)) (l.drop n)).length vcc) := by
  rw [hlen]; exact (cell_of_row _ _ _ _ _ _ (heap_alloc_new w3 _)).trans rfl
 refine wpIn_rangeFunc_ownH rfl (by decide) (gf := 108) (lb := #[.pointer (some ⟨w3.heap.size, 0, none⟩)]) rfl trivial (enters_of Tryz.func108 (by kernel_rfl) rfl)
  (back_of (Bk F.mb) (sps (ths [] (l.take n)) (l.drop n)) hbkA w3.heap.size gc 8 _ hbx3 hgc hst3 (by rw [hlen]; omega)) (fun h k => KpB_t _ _ h k) (KpB_b _ _ _ (by simp) (by simpa using hgl)) (Below.refl _ _) (fun _ => rfl)
  (fun pre W => Tb base F ⟨F.b, F.mb, .slice (some ⟨g, 0, none⟩) n n⟩ l n u w w3 va vcc gc (pre.map (·.1.2)) W)
  (fun c pre W => False)
  ?hI (fun c s A B row hs hg hr => hs) ?h0
  (fun x a' W => ∃ Bx, w3.heap.size + 1 ≤ Bx ∧ W.heap[Bx]? = some (.cells x.1.2.cs.toArray 118 (0, 0)) ∧ a' = { tmps := #[.pointer (some ⟨F.b, 0, none⟩), .int .i64 n, .pointer (some ⟨w.heap.size, 0, none⟩), undef, .slice none 0 0, .slice va (l.length - n) vcc, undef, .pointer (some ⟨Bx, 0, none⟩), .pointer (some ⟨F.b, 0, none⟩), .pointer (some ⟨F.b, 0, none⟩), .pointer (some ⟨F.b, 1, none⟩), .slice (some ⟨g, 0, none⟩) l.length n, .int .i64 n, .slice (some ⟨g, 0, none⟩) (l.length - n) 0, .slice va (l.length - n) vcc, .pointer (some ⟨F.b, 0, none⟩), .pointer (some ⟨F.b, 0, none⟩), .pointer (some ⟨F.b, 0, none⟩), .pointer (some ⟨F.b, 1, none⟩), .slice (some ⟨g, 0, none⟩) l.length n, .int .i64 n, .slice (some ⟨g, 0, none⟩) n n, .pointer (some ⟨F.b, 0, none⟩), .pointer (some ⟨F.b, 1, none⟩), .slice va (l.length - n) vcc, .func (.func 108) #[] #[.pointer (some ⟨w3.heap.size, 0, none⟩)], .int .i64 x.1.1, x.1.2.v, undef, undef, undef, undef, undef, undef, undef, undef, undef, undef, undef, undef, undef, undef, undef, undef, undef, undef, undef, undef, undef], defers := [] }) ?hAx ?assign ?body ?done ?stop
 case hI =>
  intro ss' A B row hs hg hr
  have hsz := hs.sz
  refine hs.kept (fun k h1 h2 => hg.block k h1 (fun e => by have := (hr k e.symm).1; simp at this; omega)) hg.size ?_
  have t0 := hs.tn
  refine ⟨hg.os.trans t0.os, hg.tape.trans t0.tape, hg.output.trans t0.output, Nat.le_trans t0.size hg.size, fun k hk hn' => (hg.block k (Nat.lt_of_lt_of_le hk t0.size) (fun e => by have := (hr k e.symm).1; simp at this; omega)).trans (t0.block k hk hn')⟩
 case h0 =>
  have hfn := HT.out.fine
  have kz := (Below.refl _ w3).alloc (Nat.le_refl _) (.cells #[.slice va (l.length - n) vcc] 108)
  refine ⟨I3.out.below kz, hfn.rises, hfn.fits, ?_, (kz.block _ (Array.getElem?_eq_some_iff.1 T3).1).trans T3, own_kept HO3.out fun x hx => kz.block x (HO3.out.lt x hx).2, ?_, fun x hx => (HO3.out.lt x hx).2, TN3.out.trans (Tn.of_below kz) (F.to_refl _), SZ3.out, by simp⟩
  ·have := ths_length (l := l) Fine.nil HT.out.fits
   simpa using this
  ·intro x hx
   refine HT.out.g.lt x ?_
   rcases hx with hx | hx | hx
   ·exact .inl hx
   ·exact .inr (.inl hx)
   ·refine .inr (.inr ?_)
    rw [HL.out.1]; exact hx
 case hAx =>
  rintro x a' _ A B row ⟨Bx, h1, h2, h3⟩ hg hr
  exact ⟨Bx, h1, (hg.block Bx (Array.getElem?_eq_some_iff.1 h2).1 (fun e => by obtain ⟨_, o, ho, hc⟩ := hr Bx e.symm; rw [h2] at ho; cases ho; cases hc)).trans h2, h3⟩
 case assign =>
  rintro lq pre ⟨⟨k, s⟩, hbk⟩ W K hI hK
  dsimp only
  unfold Sp.v
  gi_wp2
  have kz := (Below.refl _ W).alloc (Nat.le_refl _) (.cells s.cs.toArray 118)
  have hwz := hI.wz
  exact hK _ _ ((KeepsOthers.alloc _ _).from _) ⟨kz.size, kz.block _ (by omega), kz.block _ (by omega)⟩ (hI.kept (fun q h1 _ => kz.block q h1) kz.size (hI.tn.trans (Tn.of_below kz) (F.to_refl _))) ⟨W.heap.size, hwz, heap_alloc_new W _, rfl⟩
 case body =>
  rintro lq pre ⟨⟨k, s⟩, hbk⟩ a' W hlq hrec hI ⟨Bx, hBx, hrow, rfl⟩ hlen2
  rw [hlen] at hlen2
  dsimp only at hrow hbk
  obtain ⟨pl, hpl⟩ : ∃ pl, pl = pre.map (·.1.2) := ⟨_, rfl⟩
  have hpll : pl.length ≤ 100000 := by rw [hpl, List.length_map]; omega
  rw [← hpl] at hI
  have HPL := hide hpl
  have HI := hide hI
  have HR := hide hrow
  have HB := hide hbk
  clear hpl hlen2
  have c16 : W.cell? ⟨Bx, 16, none⟩ = some (.bool s.was.isSome) := (cell_of_row _ _ _ _ _ _ hrow).trans rfl
  have c3 : W.cell? ⟨Bx, 3, none⟩ = some (.int .u64 s.en.op.thing) := (cell_of_row _ _ _ _ _ _ hrow).trans rfl
  have ct : W.cell? ⟨w.heap.size, 0, none⟩ = some (.pointer (some ⟨F.b, 0, none⟩)) := (cell_of_row _ _ _ _ _ _ hI.t).trans rfl
  have c0 := hI.g.ths.cell
  dsimp only at c0
  clear hI hrow hrec hlq
  cases hwas : s.was with
  | none =>
   rw [hwas] at c16
   dsimp only [Option.isSome_none] at c16
   gi_wp2_with fail
   have r3 := cell_regrown c3
   have rt := cell_regrown ct
   have r0 := cell_regrown c0
   refine QuietCalls.tailIn 8 (by kernel_rfl) (by kernel_rfl) (by kernel_rfl) ?_
   simp only [List.take_succ_cons, List.take_zero, List.drop_succ_cons, List.drop_zero]
   iterate 8 (first | go_big_quiet_step (fail) | quiet_step (fail))
   refine wpQuiet_nil ?_
   intro W2 k2
   have HI2 := hide (HI.out.kept (fun q h1 _ => k2.block q h1) k2.size (HI.out.tn.trans (Tn.of_below k2) (F.to_refl _)))
   have hmap := HI2.out.g.map
   dsimp only at hmap
   have KB2 := hide k2
   clear k2
   cases hm : F.mb with
   | none =>
    have hdel := del_nil s.en.op.thing
    gi_wp2_with fail
    have hsz := HI.out.sz
    have hwz := HI.out.wz
    refine ⟨⟨KB2.out.size, fun q o hq hqo _ => (KB2.out.block q (Array.getElem?_eq_some_iff.1 hqo).1).trans hqo⟩, ⟨KB2.out.size, KB2.out.block _ (by omega), KB2.out.block _ (by omega)⟩, ?_⟩
    show Tb base F _ l n u w w3 va vcc gc (List.map (fun x : Bp (Bk F.mb) => x.1.2) (pre ++ [(⟨(k, s), hbk⟩ : Bp (Bk F.mb))])) W2
    rw [List.map_append, ← HPL.out]
    refine HI2.out.same ?_
    have ht0 : pl.foldl undo (ths [] l) = [] := by
     rcases hmap with ⟨_, h1⟩ | ⟨b, h1, _⟩
     ·exact h1
     ·rw [hm] at h1; cases h1
    show undo (pl.foldl undo (ths [] l)) s = _
    rw [ht0]; unfold undo; rw [hwas]; rfl
   | some m =>
    rw [hm] at hmap
    obtain ⟨W3, hdel, hM, hgr⟩ := hmap.del u64Key thMap s.en.op.thing HB.out.1 0
    have HT3 := hide (HI2.out.turned (s := s) (F2 := ⟨F.b, F.mb, .slice (some ⟨g, 0, none⟩) n n⟩) hm (.inr (.inl hm)) hgr (by unfold undo; rw [hwas]; exact hM) (by unfold undo; rw [hwas]; exact rises_del HI2.out.rises _) (by
     unfold undo; rw [hwas]
     exact fun z hz => HI2.out.fits z (mem_del.1 hz).1) (by unfold undo; rw [hwas]; exact Nat.le_succ_of_le (List.length_filter_le _ _)))
    have HG3 := hide hgr
    clear hM hgr hmap
    gi_wp2_with fail
    have hml := HI.out.lt m (.inr (.inl hm))
    have hsz := HI.out.sz
    have hwz := HI.out.wz
    have hall : ∀ q, q < W.heap.size → q ≠ m → W3.heap[q]? = W.heap[q]? := fun q hq hqm => (HG3.out.block q (Nat.lt_of_lt_of_le hq KB2.out.size) (fun e => by cases e; exact hqm rfl)).trans (KB2.out.block q hq)
    refine ⟨⟨Nat.le_trans KB2.out.size HG3.out.size, fun q o hq hqo _ => (hall q (Array.getElem?_eq_some_iff.1 hqo).1 (by simp at hq; omega)).trans hqo⟩, ⟨Nat.le_trans KB2.out.size HG3.out.size, hall _ (by omega) (by omega), hall _ (by omega) (by omega)⟩, ?_⟩
    show Tb base F _ l n u w w3 va vcc gc (List.map (fun x : Bp (Bk F.mb) => x.1.2) (pre ++ [(⟨(k, s), hbk⟩ : Bp (Bk F.mb))])) W3
    rw [List.map_append, ← HPL.out]
    exact HT3.out
  | some y =>
   rw [hwas] at c16
   dsimp only [Option.isSome_some] at c16
   obtain ⟨hy1, hy2⟩ := HB.out.2.1 y hwas
   obtain ⟨m, hm⟩ : ∃ m, F.mb = some m := by
    cases e : F.mb with
    | none => have := HB.out.2.2 e; rw [hwas] at this; cases this
    | some m => exact ⟨m, rfl⟩
   rw [hm] at c0
   gi_wp2_with fail
   have r3 := cell_regrown c3
   have rt := cell_regrown ct
   have r0 := cell_regrown c0
   refine QuietCalls.tailIn 10 (by kernel_rfl) (by kernel_rfl) (by kernel_rfl) ?_
   simp only [List.take_succ_cons, List.take_zero, List.drop_succ_cons, List.drop_zero]
   iterate 9 (first | go_big_quiet_step (fail) | quiet_step (fail))
   refine QuietCalls.loadMid rfl 79 _ rfl Bx 10 rfl y.cs _ (fun v kb => ?mid) Tryz.underlying79 rfl infoTh ?_
   case mid =>
    intro j v' hv'
    have hrow2 := (kb.block Bx (Array.getElem?_eq_some_iff.1 HR.out).1).trans HR.out
    rw [cell_of_row _ _ _ _ _ _ hrow2]
    have hcs : s.cs = s.en.cs ++ (y.cs ++ [.bool true]) := by unfold Sp.cs Sp.x; rw [hwas]; rfl
    rw [hcs]
    have hj : j < 6 := (List.getElem?_eq_some_iff.1 hv').1
    rw [List.getElem?_toArray, List.getElem?_append_right (by show 10 ≤ 10 + j; omega), show 10 + j - s.en.cs.length = j from by show 10 + j - 10 = j; omega, List.getElem?_append_left (by exact hj)]
    exact hv'
   simp only [Act.put, List.setIfInBounds_toArray, List.set_cons_succ, List.set_cons_zero]
   refine wpQuiet_nil ?_
   intro W2 k2
   have HI2 := hide (HI.out.kept (fun q h1 _ => k2.block q h1) k2.size (HI.out.tn.trans (Tn.of_below k2) (F.to_refl _)))
   have hmap := HI2.out.g.map
   dsimp only at hmap
   rw [hm] at hmap
   obtain ⟨W3, hrun, hM, hgr⟩ := hmap.put u64Key thMap HI2.out.rises HI2.out.fits (by have := HI2.out.len; unfold maxLen; omega) y hy2
   rw [hy1] at hrun
   have hrun2 : (Instr.mapUpdate 107 (.map (some m)) (.int .u64 s.en.op.thing) (.agg y.cs.toArray)).run Tryz.prog W2 = .ok () W3 := hrun
   have HT3 := hide (HI2.out.turned (s := s) (F2 := ⟨F.b, F.mb, .slice (some ⟨g, 0, none⟩) n n⟩) hm (.inr (.inl hm)) hgr (by unfold undo; rw [hwas]; exact hM) (by unfold undo; rw [hwas]; exact rises_put HI2.out.rises) (by
    unfold undo; rw [hwas]
    intro z hz
    rcases (mem_put HI2.out.rises).1 hz with rfl | hz
    ·exact hy2
    ·exact HI2.out.fits z hz.1) (by unfold undo; rw [hwas]; exact length_put_le HI2.out.rises y))
   have HG3 := hide hgr
   have KB2 := hide k2
   clear hrun hM hgr hmap k2
   gi_wp2_with fail
   have hml := HI.out.lt m (.inr (.inl hm))
   have hsz := HI.out.sz
   have hwz := HI.out.wz
   have hall : ∀ q, q < W.heap.size → q ≠ m → W3.heap[q]? = W.heap[q]? := fun q hq hqm => (HG3.out.block q (Nat.lt_of_lt_of_le hq KB2.out.size) (fun e => by cases e; exact hqm rfl)).trans (KB2.out.block q hq)
   refine ⟨⟨Nat.le_trans KB2.out.size HG3.out.size, fun q o hq hqo _ => (hall q (Array.getElem?_eq_some_iff.1 hqo).1 (by simp at hq; omega)).trans hqo⟩, ⟨Nat.le_trans KB2.out.size HG3.out.size, hall _ (by omega) (by omega), hall _ (by omega) (by omega)⟩, ?_⟩
   show Tb base F _ l n u w w3 va vcc gc (List.map (fun x : Bp (Bk F.mb) => x.1.2) (pre ++ [(⟨(k, s), hbk⟩ : Bp (Bk F.mb))])) W3
   rw [List.map_append, ← HPL.out]
   exact HT3.out
 case done =>
  rintro D xs W hD hxs hI hK
  have HI := hide hI
  have hth : (xs.map (·.1.2)).foldl undo (ths [] l) = ths [] (l.take n) := by
   rw [hxs]
   have e1 : ths [] l = ths (ths [] (l.take n)) (l.drop n) := by rw [← ths_append, List.take_append_drop]
   rw [e1]
   exact undo_all _ (ths_fine Fine.nil fun e he => HT.out.fits e (List.mem_of_mem_take he)) fun e he => HT.out.fits e (List.mem_of_mem_drop he)
  have HTH := hide hth
  have hD2 : w3.heap.size + 1 ≤ D := by simpa using hD
  clear hth hxs hI hD
  gi_wp2
  refine ⟨by simp, .inl ⟨_, _, rfl, run_takeDeferred hK, ?_⟩⟩
  have hkp : ∀ q, q < w3.heap.size + 1 → (W.putObj D (.deferred none)).heap[q]? = W.heap[q]? := fun q hq => putObj_other (by omega)
  have hsz := HI.out.sz
  refine ⟨.slice va (l.length - n) vcc, ?_, ⟨F.b, F.mb, .slice (some ⟨g, 0, none⟩) n n⟩, _, rfl, rfl, TreeG.at ?_ (fun e he => HT.out.fits e (List.mem_of_mem_take he)) (HT.out.ord.sublist (List.take_sublist _ _)), ?_, ?_, ?_⟩
  ·simp [results, Tryz.f52, go_sem]
  ·have := HI.out.g
   rw [HTH.out] at this
   exact this.kept fun x hx => hkp x (by have := HI.out.lt x hx; omega)
  ·exact own_low (own_kept HI.out.own fun x hx => hkp x (by have := HI.out.olt x hx; omega)) (by omega)
  ·intro x hx
   rcases hx with hx | hx | hx
   ·exact .inl hx
   ·exact .inr (.inl hx)
   ·refine .inr (.inr ?_)
    rw [HL.out.1]; exact hx
  ·have t0 := HI.out.tn
   have hg := grownBy_putObj' W D (.deferred none)
   exact ⟨hg.os.trans t0.os, hg.tape.trans t0.tape, hg.output.trans t0.output, Nat.le_trans t0.size hg.size, fun q hq hq2 => (hkp q (by omega)).trans (t0.block q hq hq2)⟩
 case stop => rintro D c pre W hD hpre h hK; exact h.elim
end Go.Proofs.YtnbhchdaobimmaaGreatDoor
/- Contract: all from a place on is taken back: of a tree without operations. -/
theorem Go.old_alloc_MoveBackNil (w : Go.World) (o : Go.Obj) (i : Nat) (h : i < w.heap.size) : (w.alloc o).heap[i]? = w.heap[i]? := by first | exact Go.heap_alloc_old w o i h | exact Go.heap_alloc_old w o h
namespace Go.Proofs.YtnbhchdaobimmaaGreatDoor
open Go.RowKit Go.Opn Go.Stamp Go.MapInt Go.Mov Go.Shelf
attribute [local go_sem] Oper.semAt_some
set_option maxHeartbeats 4000000 in
set_option maxRecDepth 100000 in
theorem takeBack_nil {base b : Nat} {mb : Option Nat} {u : Int} (w : World) (h : TreeAt Tryz.prog 49 110 118 base ⟨b, mb, .slice none 0 0⟩ [] u w) (hb : base ≤ w.heap.size) :
  Calls Tryz.prog 52 #[.pointer (some ⟨b, 0, none⟩), .int .i64 0] w fun r w' =>
   ∃ v', r = .returned v' ∧ TreeAt Tryz.prog 49 110 118 base ⟨b, mb, .slice none 0 0⟩ [] u w' ∧ w'.ownsRow w.heap.size 118 17 v' 0 [] ∧ Tn ⟨b, mb, .slice none 0 0⟩ w w' := by
 refine (callsIn_wide (n := 9)).1 ?_
 refine callsIn_of_wp_marks Tryz.func52 rfl trivial ?_ rfl
 simp only [Tryz.ntmps52, List.size_toArray, List.length_cons, List.length_nil, Nat.reduceAdd, Nat.reduceSub, Array.replicate_succ, Array.replicate_zero, List.push_toArray, List.append_toArray, List.nil_append, List.cons_append]
 have HT := hide h
 have kA := ((Below.refl _ w).alloc (Nat.le_refl _) (.cells #[.pointer (some ⟨b, 0, none⟩)] 23))
 have I0 := hide (HT.out.g.below kA)
 have KA := hide kA
 have c1 := I0.out.c1
 dsimp only at c1
 have HC := hide (fun v => cloneSp_any (.slice none 0 0) [] v (.inl ⟨rfl, rfl⟩) (Nat.zero_le _))
 simp only [List.length_nil, List.flatMap_nil] at HC
 clear h kA
 gi_wp2_with (refine ⟨trivial, ?_⟩; gi_at_call 76; refine (callsIn_wide.2 (HC.out _)).mono ?_; rintro e w1 ⟨vc, rfl, hown, kC⟩; have I1 := hide (I0.out.below kC); have HO := hide hown; have KC := hide kC; obtain ⟨va, vcc, rfl⟩ := own_form HO.out; clear hown kC)
 have b1 := I1.out.c1
 have f1 := I1.out.fz 1
 dsimp only at b1 f1
 have t1 : w1.cell? ⟨w.heap.size, 0, none⟩ = some (.pointer (some ⟨b, 0, none⟩)) := (KC.out.cell (p := ⟨w.heap.size, 0, none⟩) (by simp)).trans ((cell_of_row _ _ _ _ _ _ (heap_alloc_new w _)).trans rfl)
 gi_region
 have hsz1 : w.heap.size + 1 ≤ w1.heap.size := by have := KC.out.size; simpa using this
 have hFlt : b < w.heap.size := HT.out.g.lt _ (.inl rfl)
 have I2 : Hid (TreeG Tryz.prog 49 110 118 base ⟨b, mb, .slice none 0 0⟩ (ths [] []) (sps [] []) u (w1.setCell ⟨b, 1, none⟩ (.slice none 0 0)).drew) := by
  refine TreeG.below ?_ ((Below.refl _ _).drew)
  exact I1.out.setLog (by decide) ⟨rfl, rfl, rfl, Nat.le_refl _, fun _ _ _ => rfl⟩ (v' := .slice none 0 0) (ss' := sps [] []) (World.ownsRow_nil _ _ _ _) (fun x hx => by cases hx) (by omega)
 have HO3 : Hid ((w1.setCell ⟨b, 1, none⟩ (.slice none 0 0)).drew.ownsRow (w.heap.size + 1) 118 17 (.slice va 0 vcc) 0 []) := by
  have h1 := HO.out
  simp only [World.size_alloc] at h1
  refine own_kept h1 fun x hx => ?_
  have := (h1.lt x hx).1
  exact heap_setCell_other _ _ _ _ (by show x ≠ b; omega)
 have TN3 : Hid (Tn ⟨b, mb, .slice none 0 0⟩ w (w1.setCell ⟨b, 1, none⟩ (.slice none 0 0)).drew) := by
  have k1 : Below w.heap.size w w1 := KA.out.trans (KC.out.mono (by simp))
  exact ((Tn.of_below k1).trans (Tn.of_set w1 _ (.inl rfl)) (Ft.to_refl _ _)).trans (Tn.of_below ((Below.refl _ _).drew)) (Ft.to_refl _ _)
 have SZ3 : Hid (w.heap.size + 1 ≤ (w1.setCell ⟨b, 1, none⟩ (.slice none 0 0)).drew.heap.size) := by show _ ≤ _; simpa using hsz1
 generalize (w1.setCell ⟨b, 1, none⟩ (.slice none 0 0)).drew = w3 at I2 HO3 TN3 SZ3 ⊢
 clear I1 HO KC b1 f1 t1 hsz1
 gi_wp2_with (refine ⟨trivial, ?_⟩; gi_at_call 77; refine (callsIn_wide.2 (backward_any _ _ _ _)).mono ?_; rintro e w4 ⟨rfl, rfl⟩)
 obtain ⟨gc, hgc, hgl⟩ : ∃ gc, (∀ x, va = some x → x.block = gc) ∧ gc < w3.heap.size + 1 := by
  cases va with
  | none => exact ⟨w3.heap.size, (fun x h => by cases h), by omega⟩
  | some x => exact ⟨x.block, (fun y h => by cases h; rfl), by have := (HO3.out.lt x.block rfl).2; omega⟩
 have hst3 : StepsAt (w3.alloc (.cells #[.slice va 0 vcc] 108)) (.slice va ([] : List Sp).length vcc) [] := (StepsAt.of_own (ss := []) HO3.out).below ((Below.refl _ w3).alloc (Nat.le_refl _) _)
 have hbx3 : (w3.alloc (.cells #[.slice va 0 vcc] 108)).cell? ⟨w3.heap.size, 0, none⟩ = some (.slice va ([] : List Sp).length vcc) := (cell_of_row _ _ _ _ _ _ (heap_alloc_new w3 _)).trans rfl
 refine wpIn_rangeFunc_ownH rfl (by decide) (gf := 108) (lb := #[.pointer (some ⟨w3.heap.size, 0, none⟩)]) rfl trivial (enters_of Tryz.func108 (by kernel_rfl) rfl)
  (back_of (fun _ => False) [] (fun _ h => by cases h) w3.heap.size gc 8 _ hbx3 hgc hst3 (Nat.zero_le _)) (fun h k => KpB_t _ _ h k) (KpB_b _ _ _ (by simp) (by simpa using hgl)) (Below.refl _ _) (fun _ => rfl)
  (fun _ W => Below (w3.heap.size + 1) (w3.alloc (.cells #[.slice va 0 vcc] 108)) W)
  (fun c pre W => False)
  ?hI (fun c s A B row hs hg hr => hs) ?h0
  (fun x a' W => False) ?hAx ?assign ?body ?done ?stop
 case hI =>
  intro ss' A B row hs hg hr
  exact hs.grown hg (by simpa using hs.size) (fun j e => by have := (hr j e).1; simpa using this)
 case h0 => exact Below.refl _ _
 case hAx => rintro x a' _ A B row h; exact h.elim
 case assign => rintro lq pre ⟨⟨k, s⟩, hbk⟩; exact hbk.elim
 case body => rintro lq pre ⟨⟨k, s⟩, hbk⟩; exact hbk.elim
 case done =>
  rintro D xs W hD hxs hI hK
  have HI := hide hI
  have hD2 : w3.heap.size + 1 ≤ D := by simpa using hD
  clear hxs hI hD
  gi_wp2
  refine ⟨by simp, .inl ⟨_, _, rfl, run_takeDeferred hK, ?_⟩⟩
  have hkp : ∀ q, q < w3.heap.size → (W.putObj D (.deferred none)).heap[q]? = w3.heap[q]? := fun q hq => (putObj_other (by omega)).trans ((HI.out.block q (by omega)).trans (Go.old_alloc_MoveBackNil _ _ _ hq))
  refine ⟨.slice va 0 vcc, ?_, _, rfl, TreeG.at ?_ (fun e he => by cases he) List.Pairwise.nil, ?_, ?_⟩
  ·simp [results, Tryz.f52, go_sem]
  ·exact I2.out.kept fun x hx => hkp x (I2.out.lt x hx)
  ·exact own_low (own_kept HO3.out fun x hx => hkp x (HO3.out.lt x hx).2) (by omega)
  ·have t0 := TN3.out
   have hg := grownBy_putObj' W D (.deferred none)
   have h3 := HI.out
   exact ⟨hg.os.trans (h3.os.trans t0.os), hg.tape.trans (h3.tape.trans t0.tape), hg.output.trans (h3.output.trans t0.output), Nat.le_trans t0.size (Nat.le_trans (by have := h3.size; simp at this; omega) hg.size), fun q hq hq2 => (hkp q (by have := SZ3.out; omega)).trans (t0.block q hq hq2)⟩
 case stop => rintro D c pre W hD hpre h hK; exact h.elim
end Go.Proofs.YtnbhchdaobimmaaGreatDoor
/- Contract: all from a place on is taken back, whatever the row is. -/
namespace Go.Proofs.YtnbhchdaobimmaaGreatDoor
open Go.RowKit Go.Opn Go.Stamp Go.MapInt Go.Mov Go.Shelf
set_option maxRecDepth 100000 in
theorem takeBack_any {base : Nat} {F : Ft} {l : List En} {u : Int} (n : Nat) (w : World) (h : TreeAt Tryz.prog 49 110 118 base F l u w) (hn : n ≤ l.length) (hl : l.length ≤ 100000) (hb : base ≤ w.heap.size) :
  Calls Tryz.prog 52 #[.pointer (some ⟨F.b, 0, none⟩), .int .i64 n] w fun r w' =>
   ∃ F' v', r = .returned v' ∧ F'.b = F.b ∧ TreeAt Tryz.prog 49 110 118 base F' (l.take n) u w' ∧ w'.ownsRow w.heap.size 118 17 v' (l.length - n) ((sps (ths [] (l.take n)) (l.drop n)).flatMap Sp.cs) ∧ (∀ x, F'.has x → F.has x) ∧ Tn F w w' := by
 rcases h.row.2 with ⟨hv, h0⟩ | ⟨g, cap, cur, hv, _⟩
 ·obtain rfl : l = [] := List.length_eq_zero_iff.1 h0
  obtain rfl : n = 0 := Nat.le_zero.1 hn
  obtain ⟨b, mb, lv⟩ := F
  dsimp only at hv
  subst hv
  refine (takeBack_nil w h hb).mono ?_
  rintro r w' ⟨v', rfl, h1, h2, h3⟩
  exact ⟨_, v', rfl, rfl, h1, h2, fun _ h => h, h3⟩
 ·by_cases e : cap = n
  ·subst e
   exact takeBack_eq cap w h hn hl hb ⟨g, hv⟩
  ·exact takeBack_some n w h hn hl hb ⟨g, cap, hv, e⟩
end Go.Proofs.YtnbhchdaobimmaaGreatDoor
