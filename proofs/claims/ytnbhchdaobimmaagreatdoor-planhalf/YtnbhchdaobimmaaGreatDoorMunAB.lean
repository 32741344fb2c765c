/- Several texts in one: MoveLeaves, MoveBelow. -/
import Derived.Test.YtnbhchdaobimmaaGreatDoorRunAB
import Derived.Test.YtnbhchdaobimmaaGreatDoorQuietAll
import Derived.RangeFuncNested
import Derived.RangeFuncBound
import Derived.RangeFuncCalls
import Derived.RangeFuncLeaves
import Derived.RangeFuncBox
import Derived.Shelf.Abstract
import Derived.Shelf.RegionOpen
import Derived.OwnWalkIn
import Derived.TacticsInMore
import Derived.LoopNIn
import Derived.LoopIn
/- Contracts: the root and the trash, folders, what is there. -/
namespace Go.Proofs.YtnbhchdaobimmaaGreatDoor
open Go.RowKit Go.Opn Go.Stamp Go.MapInt Go.Mov
open Go.MapFun (got)
attribute [local go_sem] Oper.semAt_some
set_option maxRecDepth 100000 in
theorem hide {p : Prop} (h : p) : Hid p := h
set_option maxRecDepth 100000 in
theorem zeroTh (w : World) : (zeroValue 79).run Tryz.prog w = .ok Th.zero.v w := by kernel_rfl
set_option maxRecDepth 100000 in
theorem thMap : Tryz.prog.underlying 107 = some (.map 49 79) := Tryz.underlying107
set_option maxRecDepth 100000 in
theorem u64Key : Tryz.prog.underlying 49 = some (.int .u64) := Tryz.underlying49
/-- What a map of things has for a number. -/
def gotT : Option Th → Value
 | some x => .tuple #[x.v, .bool true]
 | none => .tuple #[Th.zero.v, .bool false]
set_option maxRecDepth 100000 in
theorem look_two {b : Nat} {mb : Option Nat} {t : Ths} {w : World} (h : ThsAt Tryz.prog 49 b mb t w) (k : Int) (hk : Num k) : (Instr.lookup 107 (.map mb) (.int .u64 k) true).run Tryz.prog w = .ok (gotT (Mov.look t k)) w := by
 rw [h.map.look u64Key thMap (zeroTh w) true k hk]
 cases Mov.look t k <;> rfl
set_option maxRecDepth 100000 in
theorem look_one {b : Nat} {mb : Option Nat} {t : Ths} {w : World} (h : ThsAt Tryz.prog 49 b mb t w) (k : Int) (hk : Num k) : (Instr.lookup 107 (.map mb) (.int .u64 k) false).run Tryz.prog w = .ok ((Mov.look t k).getD Th.zero).v w := by
 rw [h.map.look u64Key thMap (zeroTh w) false k hk]
 cases Mov.look t k <;> rfl
set_option maxRecDepth 100000 in
theorem top_any (k : Int) (w : World) : Calls Tryz.prog 109 #[.int .u64 k] w fun e w' => e = .returned (.bool (top k)) ∧ w' = w := by
 by_cases h0 : k = 0
 ·subst h0
  go_enter Tryz.func109, Tryz.ntmps109
  go_wp2
  go_ret
  exact ⟨rfl, rfl⟩
 ·have e0 : (k == 0) = false := by simpa using h0
  go_enter Tryz.func109, Tryz.ntmps109
  go_wp2
  go_ret
  exact ⟨by unfold top; rw [e0, Bool.false_or]; rfl, rfl⟩
set_option maxRecDepth 100000 in
theorem field_dir (i p : Int) (n : ByteArray) (d : Bool) (g : ByteArray) (z : Int) (w : World) : (Instr.field 79 (.agg #[.int .u64 i, .int .u64 p, .string n, .bool d, .string g, .int .i64 z]) 3).run Tryz.prog w = .ok (.bool d) w := by kernel_rfl
set_option maxRecDepth 100000 in
theorem folder_any {b : Nat} {mb : Option Nat} {t : Ths} (k : Int) (w : World) (h : ThsAt Tryz.prog 49 b mb t w) (hk : Num k) :
  Calls Tryz.prog 110 #[.pointer (some ⟨b, 0, none⟩), .int .u64 k] w fun e w' => e = .returned (.bool (fold t k)) ∧ w' = w := by
 have c0 := h.cell
 by_cases h0 : k = 0
 ·subst h0
  go_enter Tryz.func110, Tryz.ntmps110
  go_wp2
  go_ret
  exact ⟨rfl, rfl⟩
 ·have e0 : (k == 0) = false := by simpa using h0
  have hl := look_one h k hk
  have HF : Hid (fold t k = ((Mov.look t k).getD Th.zero).dir) := by
   show _ = _
   unfold fold
   rw [e0, Bool.false_or]
   cases Mov.look t k <;> rfl
  generalize (Mov.look t k).getD Th.zero = x at *
  unfold Th.v at hl
  have hfd := field_dir x.id x.par x.name x.dir x.dg x.size
  clear h hk
  go_enter Tryz.func110, Tryz.ntmps110
  go_wp2
  go_ret
  exact ⟨by rw [HF.out]; rfl, rfl⟩
end Go.Proofs.YtnbhchdaobimmaaGreatDoor
/- Contracts: the way up from a number, and whether a thing stands below another one. -/
namespace Go.Proofs.YtnbhchdaobimmaaGreatDoor
open Go.RowKit Go.Opn Go.Stamp Go.MapInt Go.Mov Go.Shelf
open Go.MapFun (got)
attribute [local go_sem] Oper.semAt_some
set_option maxRecDepth 100000 in
theorem up_any (b : Nat) (k : Int) (w : World) : Calls Tryz.prog 128 #[.pointer (some ⟨b, 0, none⟩), .int .u64 k] w fun e w' =>
  e = .returned (.func (.func 145) #[] #[.pointer (some ⟨w.heap.size + 1, 0, none⟩), .pointer (some ⟨w.heap.size, 0, none⟩)]) ∧ w' = (w.alloc (.cells #[.pointer (some ⟨b, 0, none⟩)] 23)).alloc (.cells #[.int .u64 k] 49) := by
 go_enter Tryz.func128, Tryz.ntmps128
 go_wp2
 go_ret
 exact ⟨rfl, rfl⟩
/-- The way up. -/
def way (t : Ths) (k : Int) : List Int := wayUp t.length t k
set_option maxRecDepth 100000 in
theorem way_step {t : Ths} (hf : Fine t) {k : Int} {x : Th} (h : Mov.look t k = some x) : way t k = k :: way t x.par := by
 have h1 := hf.ends_len k
 obtain ⟨m, e, h2⟩ := h1.step h
 unfold way
 rw [wayUp_mono (m := t.length) h2 (by omega), e]
 conv => lhs; unfold wayUp
 rw [h]
set_option maxRecDepth 100000 in
theorem way_end {t : Ths} {k : Int} (h : Mov.look t k = none) : way t k = [k] := by
 unfold way
 cases t.length with
 | zero => rfl
 | succ n => unfold wayUp; rw [h]
/-- A 64-bit number. -/
abbrev U64 := { x : Int // Num x }
set_option maxRecDepth 100000 in
theorem grown_of {w w' : World} (h : Below w.heap.size w w') : w.grownBy w' none := ⟨h.os, h.tape, h.output, h.size, fun k hk _ => h.block k hk⟩
set_option maxRecDepth 100000 in
theorem cell_lt {w : World} {b : Nat} {v : Value} (h : w.cell? ⟨b, 0, none⟩ = some v) : b < w.heap.size := by
 rcases Nat.lt_or_ge b w.heap.size with k | k
 ·exact k
 ·simp [World.cell?, Array.getElem?_eq_none k] at h
set_option maxHeartbeats 4000000 in
set_option maxRecDepth 100000 in
theorem up_in {b : Nat} {mb : Option Nat} {t : Ths} (k : Int) (b1 b2 m n0 : Nat) (w0 : World) (h : ThsAt Tryz.prog 49 b mb t w0) (hf : Fine t) (hk : Num k) (h1 : w0.cell? ⟨b1, 0, none⟩ = some (.int .u64 k)) (h2 : w0.cell? ⟨b2, 0, none⟩ = some (.pointer (some ⟨b, 0, none⟩))) (hn0 : w0.heap.size ≤ n0) :
  SeqStopsK Fence.wide m Tryz.prog 145 #[.pointer (some ⟨b1, 0, none⟩), .pointer (some ⟨b2, 0, none⟩)] (fun x : U64 => #[.int .u64 x.1]) (Below n0) (fun xs => xs.map (·.1) = way t k) (fun pre => pre.map (·.1) <+: way t k) (way t k).length w0 := by
 intro l J Jx W hW hJ hJx hY h0
 refine callsIn_of_wp Tryz.func145 rfl trivial ?_ rfl
 simp only [Tryz.ntmps145, List.size_toArray, List.length_cons, List.length_nil, Nat.reduceAdd, Nat.reduceSub, Array.replicate_succ, Array.replicate_zero, List.push_toArray, List.append_toArray, List.nil_append, List.cons_append]
 have hb1 : W.cell? ⟨b1, 0, none⟩ = some (.int .u64 k) := (hW.cell (p := ⟨b1, 0, none⟩) (cell_lt h1)).trans h1
 have HY := hide hY
 have H0 := hide h0
 have HW := hide hW
 have HJ := hide hJ
 have HF := hide hf
 have HT := hide h
 have H2 := hide h2
 have HN := hide hn0
 clear hY h0 h1 hW hJ hJx hf h h2 hn0
 gi_wp2_with fail
 gi_loopw [4] (fun vs wr => ∃ (j : U64) (pre : List U64), vs = .int .u64 j.1 ∧ Hid (pre.map (·.1) ++ way t j.1 = way t k ∧ J pre wr ∧ Below w0.heap.size w0 wr ∧ W.heap.size ≤ wr.heap.size)) (fun vs _ => match vs with | .int .u64 j => (way t j).length | _ => 0)
 case atStart => exact ⟨⟨k, hk⟩, [], rfl, rfl, H0.out, HW.out, Nat.le_refl _⟩
 case round =>
  obtain ⟨j, pre, rfl, HP⟩ := hrel
  clear H0
  have hpl : pre.length < (way t k).length := by
   have := congrArg List.length HP.out.1
   rw [List.length_append, List.length_map] at this
   have h2 : 0 < (way t j.1).length := by
    cases hx : Mov.look t j.1 with
    | none => rw [way_end hx]; simp
    | some x => rw [way_step HF.out hx]; simp
   omega
  obtain ⟨fn, tmps, assign, body, hy, hR⟩ := HY.out pre j wr HP.out.2.1 hpl
  gi_wp2_with fail
  refine ⟨fun h => (by cases h), hR.mono ?_⟩
  rintro e W3 (⟨rfl, hJ3, hk3⟩ | ⟨rfl, hJx3⟩)
  ·have HG := hide hJ3
   have hB : Below w0.heap.size w0 W3 := HP.out.2.2.1.trans (hk3.mono HN.out)
   have hT := HT.out.below hB
   have c0 := hT.cell
   have c2 : W3.cell? ⟨b2, 0, none⟩ = some (.pointer (some ⟨b, 0, none⟩)) := (hB.cell (p := ⟨b2, 0, none⟩) (cell_lt H2.out)).trans H2.out
   have hl := look_two hT j.1 j.2
   have HB := hide hB
   have hs3 : W.heap.size ≤ W3.heap.size := Nat.le_trans HP.out.2.2.2 hk3.size
   clear hJ3 hk3 hR hy hT hB
   cases hx : Mov.look t j.1 with
   | none =>
    rw [hx] at hl
    unfold gotT Th.v Th.zero at hl
    dsimp only at hl
    gi_wp2_with fail
    refine bodyPost_ret (results_none rfl _ _ _) rfl ?_
    have := HP.out.1
    rw [way_end hx] at this
    refine ⟨⟨_, rfl⟩, .inl ⟨pre ++ [j], by simpa using this, ?_⟩⟩
    exact HJ.out _ _ _ none HG.out (grown_of ((Below.refl _ W3).alloc (Nat.le_refl _) _)) (fun r e => by cases e)
   | some x =>
    rw [hx] at hl
    unfold gotT Th.v at hl
    dsimp only at hl
    have hxp := (HF.out.fits x (look_mem hx).1).par
    have hst := hide (way_step HF.out hx)
    gi_wp2_with fail
    go_roundw
    case rel =>
     refine ⟨⟨x.par, hxp⟩, pre ++ [j], rfl, ?_, HJ.out _ _ _ none HG.out (grown_of ((Below.refl _ W3).alloc (Nat.le_refl _) _)) (fun r e => by cases e), HB.out.alloc HB.out.size _, by simp; omega⟩
     have := HP.out.1
     rw [hst.out] at this
     simpa using this
    case measure =>
     show (way t x.par).length < (way t j.1).length
     rw [hst.out]; simp
  ·clear hR hy
   gi_wp2_with fail
   go_end0
   refine ⟨⟨_, rfl⟩, .inr ⟨pre ++ [j], ?_, hJx3⟩⟩
   rw [← HP.out.1]
   cases hx : Mov.look t j.1 with
   | none => rw [way_end hx]; simp
   | some x => rw [way_step HF.out hx]; exact ⟨way t x.par, by simp⟩
set_option maxHeartbeats 4000000 in
set_option maxRecDepth 100000 in
theorem below_any {b : Nat} {mb : Option Nat} {t : Ths} (k o : Int) (w : World) (h : ThsAt Tryz.prog 49 b mb t w) (hf : Fine t) (hk : Num k) :
  Calls Tryz.prog 111 #[.pointer (some ⟨b, 0, none⟩), .int .u64 k, .int .u64 o] w fun e w' => e = .returned (.bool (below t.length t k o)) ∧ Below w.heap.size w w' := by
 refine (callsIn_wide (n := 9)).1 ?_
 refine callsIn_of_wp_marks Tryz.func111 rfl trivial ?_ rfl
 simp only [Tryz.ntmps111, List.size_toArray, List.length_cons, List.length_nil, Nat.reduceAdd, Nat.reduceSub, Array.replicate_succ, Array.replicate_zero, List.push_toArray, List.append_toArray, List.nil_append, List.cons_append]
 have HT := hide h
 have HF := hide hf
 clear h hf
 gi_wp2_with (refine ⟨trivial, ?_⟩; gi_at_call 128; refine (callsIn_wide.2 (up_any b k _)).mono ?_; rintro e w1 ⟨rfl, rfl⟩)
 obtain ⟨W0, hW0⟩ : ∃ W0, (((w.alloc (.cells #[.int .u64 o] 49)).alloc (.cells #[.bool false] 4)).alloc (.cells #[.pointer (some ⟨b, 0, none⟩)] 23)).alloc (.cells #[.int .u64 k] 49) = W0 := ⟨_, rfl⟩
 have hs0 : W0.heap.size = w.heap.size + 4 := by rw [← hW0]; simp
 have kB : Below w.heap.size w W0 := by rw [← hW0]; exact ((((Below.refl _ w).alloc (Nat.le_refl _) _).alloc (by simp) _).alloc (by simp; omega) _).alloc (by simp; omega) _
 have b0 : Boxed W0 w.heap.size 49 (.int .u64 o) := by rw [← hW0]; exact (((Boxed.new w 49 _).alloc _).alloc _).alloc _
 have b1 : Boxed W0 (w.heap.size + 1) 4 (.bool false) := by
  rw [← hW0]
  have := (((Boxed.new (w.alloc (.cells #[.int .u64 o] 49)) 4 (.bool false)).alloc (.cells #[.pointer (some ⟨b, 0, none⟩)] 23)).alloc (.cells #[.int .u64 k] 49))
  rwa [World.size_alloc] at this
 have b2 : Boxed W0 (w.heap.size + 1 + 1) 23 (.pointer (some ⟨b, 0, none⟩)) := by
  rw [← hW0]
  have := ((Boxed.new ((w.alloc (.cells #[.int .u64 o] 49)).alloc (.cells #[.bool false] 4)) 23 (.pointer (some ⟨b, 0, none⟩))).alloc (.cells #[.int .u64 k] 49))
  rwa [World.size_alloc, World.size_alloc] at this
 have b3 : Boxed W0 (w.heap.size + 1 + 1 + 1) 49 (.int .u64 k) := by
  rw [← hW0]
  have := (Boxed.new (((w.alloc (.cells #[.int .u64 o] 49)).alloc (.cells #[.bool false] 4)).alloc (.cells #[.pointer (some ⟨b, 0, none⟩)] 23)) 49 (.int .u64 k))
  rwa [World.size_alloc, World.size_alloc, World.size_alloc] at this
 rw [hW0]
 clear hW0
 refine wpIn_rangeFunc_ownF rfl (by decide) (gf := 145) (lb := #[.pointer (some ⟨w.heap.size + 1 + 1 + 1, 0, none⟩), .pointer (some ⟨w.heap.size + 1 + 1, 0, none⟩)]) rfl trivial (enters_of Tryz.func145 (by kernel_rfl) rfl)
  (up_in k (w.heap.size + 1 + 1 + 1) (w.heap.size + 1 + 1) 8 W0.heap.size W0 (HT.out.below kB) HF.out hk b3.cell b2.cell (Nat.le_refl _)) belowK_t (belowK_b (Nat.le_refl _)) (Below.refl _ _) (fun _ => rfl)
  (fun pre W => ((∀ y ∈ pre, y.1 ≠ o) ∧ W.cell? ⟨w.heap.size, 0, none⟩ = some (.int .u64 o) ∧ W.cell? ⟨w.heap.size + 1, 0, none⟩ = some (.bool false) ∧ W.frozen? ⟨w.heap.size + 1, 0, none⟩ = false) ∧ Below w.heap.size w W)
  (fun c pre W => (c = .ret ∧ (∃ y ∈ pre, y.1 = o) ∧ W.cell? ⟨w.heap.size + 1, 0, none⟩ = some (.bool true)) ∧ Below w.heap.size w W)
  (OwnFrom.and (Own.from (fun s A B row hs hg hr => ⟨hs.1, cell_kept hs.2.1 hg hr, cell_kept hs.2.2.1 hg hr, (frozen_kept hs.2.2.1 hg hr).trans hs.2.2.2⟩) _) (ownFrom_below (Nat.le_refl _) (by omega)))
  (fun c => OwnFrom.and (Own.from (fun s A B row hs hg hr => ⟨hs.1, hs.2.1, cell_kept hs.2.2 hg hr⟩) _) (ownFrom_below (Nat.le_refl _) (by omega)))
  ⟨⟨by simp, b0.cell, b1.cell, b1.frozen⟩, kB⟩
  (fun x => { tmps := #[.pointer (some ⟨b, 0, none⟩), .int .u64 k, .int .u64 o, undef, undef, .pointer (some ⟨w.heap.size, 0, none⟩), .pointer (some ⟨w.heap.size + 1, 0, none⟩), .int .u64 x.1, .pointer (some ⟨b, 0, none⟩), .bool false, .pointer (some ⟨b, 0, none⟩), .int .u64 k, .func (.func 145) #[] #[.pointer (some ⟨w.heap.size + 1 + 1 + 1, 0, none⟩), .pointer (some ⟨w.heap.size + 1 + 1, 0, none⟩)], .int .u64 x.1, undef, undef, undef], defers := [] }) ?assign ?body ?done ?stop
 case assign =>
  intro l x W K hK
  gi_wp2
  exact hK
 case body =>
  rintro l pre x W ⟨⟨hp, hc0, hc1, hf1⟩, hB⟩ _
  have HB := hide hB
  have HP := hide hp
  clear hB hp
  by_cases hx : x.1 = o
  ·have hxb : (x.1 == o) = true := by simpa using hx
   have HX := hide hx
   clear hx
   gi_wp2
   exact ⟨KeepsOthers.setCell _ _ _, ⟨rfl, ⟨x, by simp, HX.out⟩, World.cell?_setCell_same' _ _ _ (by rw [hc1]; rfl)⟩, HB.out.setCell (p := ⟨w.heap.size + 1, 0, none⟩) (by simp) _⟩
  ·have hxb : (x.1 == o) = false := by simpa using hx
   have HX := hide hx
   clear hx
   gi_wp2
   refine ⟨KeepsOthers.refl _, Below.refl _ _, ⟨fun y hy => ?_, hc0, hc1, hf1⟩, HB.out⟩
   rcases List.mem_append.1 hy with hy | hy
   ·exact HP.out y hy
   ·rw [List.mem_singleton.1 hy]; exact HX.out
 case done =>
  rintro D ys W hD hys ⟨⟨hp, hc0, hc1, hf1⟩, hB⟩ hK
  have hbe : below t.length t k o = false := by
   cases e : below t.length t k o with
   | false => rfl
   | true =>
    have e2 : o ∈ way t k := List.contains_iff_mem.1 e
    rw [← hys] at e2
    obtain ⟨y, hy, rfl⟩ := List.mem_map.1 e2
    exact absurd rfl (hp y hy)
  have HE := hide hbe
  clear hbe
  have HB := hide hB
  clear hB hp hys
  gi_wp2
  have hK' := (KeepsOthers.setCell W ⟨w.heap.size + 1, 0, none⟩ (.bool false)).same D _ hK rfl
  refine ⟨by simp, .inl ⟨_, _, rfl, run_takeDeferred hK', ?_⟩⟩
  have hc5 := cell_kept (World.cell?_setCell_same' W ⟨w.heap.size + 1, 0, none⟩ (.bool false) (by rw [hc1]; rfl)) (grownBy_putObj' _ D (.deferred none)) (fun r e => by cases e; exact ⟨_, hK', rfl⟩)
  refine ⟨.bool false, ?_, by rw [HE.out], (HB.out.setCell (p := ⟨w.heap.size + 1, 0, none⟩) (by simp) _).trans (belowK_b (w := w) (Nat.le_refl _) _ D _ _ (by omega) hK' rfl rfl)⟩
  simp [results, Tryz.f111, go_sem, hc5]
 case stop =>
  rintro D c pre W hD hpre ⟨⟨rfl, hin, hc1⟩, hB⟩ hK
  have hbe : below t.length t k o = true := by
   obtain ⟨y, hy, rfl⟩ := hin
   exact List.contains_iff_mem.2 (hpre.subset (List.mem_map.2 ⟨y, hy, rfl⟩))
  have HE := hide hbe
  clear hbe
  have HB := hide hB
  clear hB hin hpre
  gi_wp2
  refine ⟨by simp, .inl ⟨_, _, rfl, run_takeDeferred hK, ?_⟩⟩
  have hc5 := cell_kept hc1 (grownBy_putObj' _ D (.deferred none)) (fun r e => by cases e; exact ⟨_, hK, rfl⟩)
  refine ⟨.bool true, ?_, by rw [HE.out], HB.out.trans (belowK_b (w := w) (Nat.le_refl _) _ D _ _ (by omega) hK rfl rfl)⟩
  simp [results, Tryz.f111, go_sem, hc5]
end Go.Proofs.YtnbhchdaobimmaaGreatDoor
