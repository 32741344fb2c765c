/- Several texts in one: PlanEmpty, PlanAwake, PlanDelete, NameParts, NameRefPath, ImageBefDoc, ImageIn, ImageFolder, ImageJoin, PlanFind, PlanFull, NameSeq, NamePath, NameSplit, PlanPlaced, PlanMay, PlanUp, PlanStep. -/
import Derived.Test.YtnbhchdaobimmaaGreatDoorPlanA
import Derived.Test.YtnbhchdaobimmaaGreatDoorOfG
import Derived.Test.YtnbhchdaobimmaaGreatDoorPlanBet
import Derived.Test.YtnbhchdaobimmaaGreatDoorMunAC
import Derived.Test.YtnbhchdaobimmaaGreatDoorRunAB
import Derived.Test.YtnbhchdaobimmaaGreatDoorRunAO
import Derived.Lib.LastIndexByte
import Derived.Test.YtnbhchdaobimmaaGreatDoorRunAQ
import Derived.Laws.OwnMore
import Derived.Test.YtnbhchdaobimmaaGreatDoorRunAT
import Derived.Test.YtnbhchdaobimmaaGreatDoorRunAH
import Derived.Test.YtnbhchdaobimmaaGreatDoorOfB
import Derived.Test.YtnbhchdaobimmaaGreatDoorMoveBecomes
import Derived.RangeFuncNested
import Derived.RangeFuncBound
import Derived.RangeFuncCalls
import Derived.RangeFuncLeaves
import Derived.RangeFuncBox
import Derived.Shelf.Abstract
import Derived.Shelf.RegionOpen
import Derived.OwnWalkIn
import Derived.TacticsInMore
import Derived.LoopNIn
import Derived.LoopIn
import Derived.Test.YtnbhchdaobimmaaGreatDoorRunAL
/- Folders have no digest; an image is in strict order, each path once; of no program. -/
namespace Go.Pln
open Go.RowKit Go.Img Go.Opn
open Go.Mov hiding fold
/-- A folder has no digest. -/
def Bare (T : Ths) : Prop := ∀ x ∈ T, x.dir = true → x.dg = ⟨#[]⟩
theorem now_bare {n : Nat} {T : Ths} {o : Ob} {x : Th} (hb : Bare T) (h : Mov.now n T o = some x) : x.dir = true → x.dg = ⟨#[]⟩ := by
 unfold Mov.now at h
 split at h
 ·split at h
  ·cases h; exact fun _ => rfl
  ·cases h
 ·split at h
  ·split at h
   ·rename_i y hy
    split at h
    ·cases h; exact hb y (look_mem hy).1
    ·cases h
   ·cases h
  ·split at h
   ·split at h
    ·rename_i y hy
     cases h
     exact hb y (look_mem hy).1
    ·cases h
   ·split at h
    ·split at h
     ·rename_i y hy
      split at h
      ·rename_i hd
       cases h
       intro e
       rw [e] at hd
       cases hd
      ·cases h
     ·cases h
    ·cases h
theorem bare_made {T : Ths} (hr : Rises T) (hb : Bare T) (o : Ob) : Bare (Mov.made T o) := by
 unfold Mov.made
 split
 ·rename_i x hx
  intro z hz
  rcases (mem_put hr).1 hz with rfl | ⟨hz, _⟩
  ·exact now_bare hb hx
  ·exact hb z hz
 ·exact hb
theorem bare_ths : ∀ (l : List En) {T : Ths}, Fine T → Bare T → (∀ e ∈ l, e.Fits) → Bare (ths T l)
 | [], _, _, hT, _ => hT
 | e :: r, T, h, hT, hl => bare_ths r (h.made (hl e (by simp)).1) (bare_made h.rises hT e.op) fun x hx => hl x (by simp [hx])
theorem Bare.nil : Bare [] := fun x hx => by cases hx
theorem met_thing {T : Ths} {k : Int} {f : List UInt8} {y : Fi} (h : Go.Img.Met T k f y) : ∃ x ∈ T, ∃ p, fileAt x p = some y := by
 induction h with
 | @here k f y hy =>
  obtain ⟨p, hp, e⟩ := List.mem_filterMap.1 hy
  exact ⟨p.1, (List.mem_filter.1 (List.of_mem_zip hp).1).1, _, e⟩
 | deep _ _ ih => exact ih
theorem img_bare {T : Ths} (hb : Bare T) {y : Fi} (hy : y ∈ img T) (hd : y.dir = true) : y.dg = ⟨#[]⟩ := by
 obtain ⟨x, hx, p, e⟩ := met_thing (docL_met 240 0 [] y ((docOf_perm T 240 0 []).mem_iff.1 hy))
 unfold fileAt at e
 split at e
 ·have e2 := (Option.some.inj e).symm
  rw [e2] at hd ⊢
  exact hb x hx hd
 ·cases e
end Go.Pln
namespace Go.Proofs.YtnbhchdaobimmaaGreatDoor
open Go.RowKit Go.Img Go.Pln Go.Shelf Go.Rws Go.MapInt Go.Opn
open Go.Mov hiding fold
variable {W v : World} {b : Nat} {tv : Value} {l : List En} {u : Int}
theorem Tg.img1 (h : Tg W b tv l u v) : Img1 (img (ths [] l)) := by
 have g := h.gi
 have ho : ∀ x ∈ img (ths [] l), ∀ y ∈ img (ths [] l), x.path = y.path → x = y := fun x hx y hy e => g.once x hx y hy (by rw [e])
 exact ⟨strict_of g.srt g.nodup ho, g.srt, g.nodup, ho, fun f hf hd => img_bare (bare_ths l Fine.nil Bare.nil h.t.fits) hf hd⟩
end Go.Proofs.YtnbhchdaobimmaaGreatDoor
/- Contract: the law's own look whether plan answers. -/
namespace Go.Pln
open Go.RowKit Go.Img
def aF : Fi := ⟨[97], false, 0, ⟨#[]⟩, 0⟩
def aD : Fi := ⟨[97], true, 0, ⟨#[]⟩, 0⟩
theorem betw_a : betw [aF] [aD] = [⟨1, [97], ⟨#[]⟩⟩, ⟨3, [97], ⟨#[]⟩⟩] := by
 have h1 : Pln.has [aD] aF = false := by decide
 have h2 : Pln.has [aF] aD = false := by decide
 unfold betw betA betB betC
 have h3 : isB [aF] aD = true := by unfold isB; rw [h2]; rfl
 have h4 : isC [aF] aD = false := rfl
 rw [List.reverse_singleton, List.filter_cons_of_pos (by rw [h1]; rfl), List.filter_cons_of_pos h3, List.filter_cons_of_neg (by rw [h4]; decide)]
 rfl
end Go.Pln
namespace Go.Proofs.YtnbhchdaobimmaaGreatDoor
open Go.RowKit Go.Img Go.Pln Go.MapFun Go.Maps Go.Shelf Go.Rws
attribute [local go_sem] Oper.semAt_some
theorem one_at (W : World) (f : Fi) (T : TypeId) : RowsAt Fi.cs 5 (W.alloc (.cells f.cs.toArray T)) (.slice (some ⟨W.heap.size, 0, none⟩) 1 1) [f] := by
 refine .inr ⟨W.heap.size, 0, 1, rfl, by simp, Nat.le_refl _, fun i x hx => ?_⟩
 match i, hx with
 | 0, hx =>
  cases hx
  intro j u hu
  rw [Nat.zero_mul, Nat.add_zero, Nat.zero_add]
  exact (cell_of_row _ _ _ _ _ _ (heap_alloc_new W _)).trans (by rw [← Array.getElem?_toList]; exact hu)
 | i + 1, hx => simp at hx
set_option maxHeartbeats 4000000 in
set_option maxRecDepth 100000 in
theorem awake16_any (w : World) : Calls Tryz.prog 12 #[] w fun e w' => e = .returned (.bool true) ∧ Below w.heap.size w w' := by
 have e1 : aF.cs.toArray = #[.string ⟨#[97]⟩, .bool false, .int .u64 0, .string ⟨#[]⟩, .int .i64 0] := rfl
 have e2 : aD.cs.toArray = #[.string ⟨#[97]⟩, .bool true, .int .u64 0, .string ⟨#[]⟩, .int .i64 0] := rfl
 have hA := one_at w aF 51
 have hD := one_at (w.alloc (.cells aF.cs.toArray 51)) aD 51
 rw [e1] at hA hD
 rw [e2] at hD
 have hs : (w.alloc (.cells #[.string ⟨#[97]⟩, .bool false, .int .u64 0, .string ⟨#[]⟩, .int .i64 0] 51)).heap.size = w.heap.size + 1 := by simp
 rw [hs] at hD
 have k1 := (Below.refl _ w).alloc (Nat.le_refl _) (.cells #[.string ⟨#[97]⟩, .bool false, .int .u64 0, .string ⟨#[]⟩, .int .i64 0] 51)
 have k2 := (Below.refl _ (w.alloc (.cells #[.string ⟨#[97]⟩, .bool false, .int .u64 0, .string ⟨#[]⟩, .int .i64 0] 51))).alloc (Nat.le_refl _) (.cells #[.string ⟨#[97]⟩, .bool true, .int .u64 0, .string ⟨#[]⟩, .int .i64 0] 51)
 have sA : FilesOnce [aF] := ⟨by unfold Srt; simp, fun x hx y hy _ => by rw [List.mem_singleton.1 hx, List.mem_singleton.1 hy]⟩
 have sD : FilesOnce [aD] := ⟨by unfold Srt; simp, fun x hx y hy _ => by rw [List.mem_singleton.1 hx, List.mem_singleton.1 hy]⟩
 have pA : ∀ f ∈ [aF], f.path.length ≤ 1000 := fun f hf => by rw [List.mem_singleton.1 hf]; decide
 have pD : ∀ f ∈ [aD], f.path.length ≤ 1000 := fun f hf => by rw [List.mem_singleton.1 hf]; decide
 have nA : Nice (.slice (some ⟨w.heap.size, 0, none⟩) 1 1) := .inr ⟨_, _, _, _, rfl, Nat.le_refl _⟩
 have nD : Nice (.slice (some ⟨w.heap.size + 1, 0, none⟩) 1 1) := .inr ⟨_, _, _, _, rfl, Nat.le_refl _⟩
 have HB := hide (between_any [aF] [aD] _ _ _ (hA.below k2) nA sA pA (by decide) hD nD sD pD (by decide))
 rw [betw_a] at HB
 have HK := hide (k1.trans (k2.mono k1.size))
 clear hA k1 k2 hD sA sD pA pD nA nD e1 e2 hs
 go_enter Tryz.func12, Tryz.ntmps12
 go_upto_region 2 with (go_at_call 9; refine HB.out.mono ?_; rintro r w2 ⟨v, rfl, ho⟩; replace HB := hide ho; clear ho)
 obtain ⟨va, vc, hv⟩ : ∃ va vc, v = .slice va 2 vc := HB.out.form
 subst hv
 have hR := HB.out.rows Pt.cs_length
 obtain ⟨g, off, e1, q1, cx, l1, r1⟩ := hR.at (by simp)
 subst e1
 have r0 := r1 0 _ rfl
 have r2 := r1 1 _ rfl
 have hc : (2 : Int) ≤ vc := by have : 2 ≤ vc := cx; omega
 have c0 : w2.cell? ⟨g, off, none⟩ = some (.int .i64 1) := r0 0 _ rfl
 have c1 : w2.cell? ⟨g, off + 3, none⟩ = some (.int .i64 3) := r2 0 _ rfl
 have c2 : w2.cell? ⟨g, off + 3 + 1, none⟩ = some (.string ⟨#[97]⟩) := r2 1 _ rfl
 clear hR r1 r0 r2 q1 cx
 go_wp2_with fail
 go_ret
 exact ⟨rfl, HK.out.trans (HB.out.below.mono HK.out.size)⟩
end Go.Proofs.YtnbhchdaobimmaaGreatDoor
/- Contract: slices.Delete of one file of a row of one's own. -/
namespace Go.Proofs.YtnbhchdaobimmaaGreatDoor
open Go.RowKit Go.Img Go.Pln Go.Shelf Go.Rws Go.Stb
attribute [local go_sem] Oper.semAt_some
set_option maxHeartbeats 4000000 in
set_option maxRecDepth 100000 in
theorem delFi_any {W : World} {g n c i j : Nat} {l : List Fi} (w : World) (h : Fw W g n c l w) (hi : i < n) (hj : j = i + 1) (hn : n ≤ 100000) :
  Calls Tryz.prog 39 #[.slice (some ⟨g, 0, none⟩) n c, .int .i64 i, .int .i64 j] w fun e w' => e = .returned (.slice (some ⟨g, 0, none⟩) (n - 1) c) ∧ Fw W g (n - 1) c (l.eraseIdx i) w' := by
 have hlen := h.len
 have hB := h.below
 obtain ⟨⟨h0, h1⟩, _⟩ := h
 rcases h1 with ⟨h1, _⟩ | ⟨g', cap, cur, h1, hbg, hg, hnc, hcm, hcs, htake⟩
 ·cases h1
 simp only [Value.slice.injEq, Option.some.injEq, Addr.mk.injEq, and_true] at h1
 obtain ⟨rfl, hnn, rfl⟩ := h1
 obtain ⟨i1, hi0, hi1, hi2, hi3⟩ := info_of infoFi16
 have hu : Tryz.prog.underlying 27 = some (.slice 51) := Tryz.underlying27
 obtain ⟨N1, hN1⟩ : ∃ N1, N1 = n - 1 := ⟨_, rfl⟩
 obtain ⟨news, hnews⟩ : ∃ r, r = (l.drop j).flatMap Fi.cs := ⟨_, rfl⟩
 have hnl : news.length = (n - j) * 5 := by rw [hnews, flat_len Fi.cs_length, List.length_drop, hlen]
 obtain ⟨rowA, hrowA⟩ : ∃ r, r = (cur.toList.take (i * 5) ++ news ++ cur.toList.drop (i * 5 + news.length)).toArray := ⟨_, rfl⟩
 obtain ⟨rowB, hrowB⟩ : ∃ r, r = (rowA.toList.take (N1 * 5) ++ Fi.zero.cs ++ rowA.toList.drop (N1 * 5 + 5)).toArray := ⟨_, rfl⟩
 have hcs5 : cur.size = c * 5 := hcs
 have hfit : i * 5 + news.length ≤ cur.size := by rw [hnl, hcs5]; omega
 have hAsz : rowA.size = cur.size := by
  rw [hrowA]
  simp only [List.size_toArray, List.length_append, List.length_take, List.length_drop, Array.length_toList]
  omega
 have hcells : ∀ t u, ((l.drop j).flatMap Fi.cs)[t]? = some u → w.cell? ⟨g, j * 5 + t, none⟩ = some u := by
  intro t u ht
  have hd : ((l.drop j).flatMap Fi.cs) = (l.flatMap Fi.cs).drop (j * 5) := by
   have e1 : l = l.take j ++ l.drop j := (List.take_append_drop j l).symm
   conv => rhs; rw [e1]
   rw [List.flatMap_append]
   have e2 : ((l.take j).flatMap Fi.cs).length = j * 5 := by rw [flat_len Fi.cs_length, List.length_take, Nat.min_eq_left (by omega)]
   rw [← e2, List.drop_left]
  rw [hd, List.getElem?_drop, ← htake] at ht
  have hlt : j * 5 + t < l.length * 5 := by
   have := (List.getElem?_eq_some_iff.1 ht).1
   rw [List.length_take] at this
   have h9 : (l.flatMap Fi.cs).length = l.length * 5 := flat_len Fi.cs_length l
   omega
  rw [List.getElem?_take_of_lt hlt, Array.getElem?_toList] at ht
  rw [cell_of_row _ _ _ _ _ _ hg]
  exact ht
 have hst : ∀ q, Sem.run Tryz.prog (storeCells ⟨g, i * 5, none⟩ news 0) (w.drewN q) = .ok () ((w.drewN q).setRow g rowA) := fun q => by
  have := run_storeCells_at Tryz.prog g (i * 5) 51 news 0 cur (w.drewN q) hg (by simpa using hfit) (by rw [hnews]; exact files_one _)
  rw [Nat.add_zero, ← hrowA] at this
  exact this
 have hld : ∀ q, Sem.run Tryz.prog (loadCellsFrom ⟨g, j * 5, none⟩ 0 ((n - j) * 5) #[]) (w.drewN q) = .ok news.toArray (w.drewN q) := fun q => by
  refine run_loadCellsFrom_list Tryz.prog (w.drewN q) _ news _ hnl fun t u ht => ?_
  rw [Addr.add_mid]
  exact hcells t u (by rw [← hnews]; exact ht)
 have hld0 : n - j = 0 → ∀ q o, Sem.run Tryz.prog (loadCellsFrom ⟨g, o, none⟩ 0 ((n - j) * 5) #[]) (w.drewN q) = .ok news.toArray (w.drewN q) := fun h q o => by
  have hn0 : news = [] := List.length_eq_zero_iff.1 (by rw [hnl, h])
  refine run_loadCellsFrom_list Tryz.prog (w.drewN q) _ news _ hnl fun t u ht => ?_
  rw [hn0] at ht
  cases ht
 have hgl : g < w.heap.size := (Array.getElem?_eq_some_iff.1 hg).1
 have hcl : ∀ q ty c2, (Builtin.clear_ #[27] ty #[.slice (some ⟨g, N1 * 5, none⟩) (n - N1) c2]).run Tryz.prog ((w.drewN q).setRow g rowA) = .ok (.tuple #[]) (((w.drewN q).setRow g rowA).setRow g rowB) := fun q ty c2 => by
  have hrow : ((w.drewN q).setRow g rowA).heap[g]? = some (.cells rowA 51 (0, 0)) := setRow_heap _ _ _ _ _ _ hg
  have hst := run_storeCells_at Tryz.prog g (N1 * 5) 51 Fi.zero.cs 0 rowA ((w.drewN q).setRow g rowA) hrow (by rw [hAsz, hcs5, Fi.cs_length]; omega) (fi_one Fi.zero)
  have hzv := Tryz.zeroValue51 ((w.drewN q).setRow g rowA)
  have hzc : (Builtin.zeroCells (Value.agg Fi.zero.cs.toArray).cells 1).toList = Fi.zero.cs := by kernel_rfl
  rw [show n - N1 = 1 by omega]
  have hz2 : (Value.agg Fi.zero.cs.toArray) = .agg #[.string ⟨#[]⟩, .bool false, .int .u64 0, .string ⟨#[]⟩, .int .i64 0] := rfl
  rw [hz2] at hzc
  simp only [Nat.add_zero] at hst
  simp only [Builtin.clear_, Sem.run_bind, run_underlying hu, Result.andThen_ok, hzv, List.getElem?_toArray, List.getElem?_cons_zero, hzc]
  rw [hst, hrowB]
  rfl
 have HF : Hid (∀ q, Fw W g N1 c (l.eraseIdx i) (((w.drewN q).setRow g rowA).setRow g rowB)) := by
  intro q
  have he : (l.eraseIdx i) = l.take i ++ l.drop j := by rw [hj]; exact List.eraseIdx_eq_take_drop_succ l i
  have hl1 : (l.eraseIdx i).length = N1 := by rw [List.length_eraseIdx]; rw [if_pos (by omega)]; omega
  have hrow : (((w.drewN q).setRow g rowA).setRow g rowB).heap[g]? = some (.cells rowB 51 (0, 0)) := setRow_heap _ _ _ _ _ _ (setRow_heap _ _ _ _ _ _ hg)
  refine ⟨⟨by rw [flat_len Fi.cs_length], .inr ⟨g, c, rowB, by rw [hl1], hbg, hrow, by rw [hl1]; omega, hcm, ?_, ?_⟩⟩, ⟨hB.os, hB.tape, hB.output, by simpa using hB.size, fun b hb => ?_⟩⟩
  ·show rowB.size = c * 5
   rw [hrowB]
   simp only [List.size_toArray, List.length_append, List.length_take, List.length_drop, Array.length_toList, Fi.cs_length]
   rw [hAsz, hcs5]
   omega
  ·rw [hl1, hrowB, List.toList_toArray, List.append_assoc, List.take_append_of_le_length (by rw [List.length_take, Array.length_toList, hAsz, hcs5]; omega), List.take_take, Nat.min_self, hrowA, List.toList_toArray]
   have e1 : (cur.toList.take (i * 5) ++ news).length = N1 * 5 := by rw [List.length_append, List.length_take, Array.length_toList, hnl, hcs5]; omega
   rw [← e1, List.take_left, he, List.flatMap_append, hnews]
   congr 1
   have e2 : (cur.toList.take (n * 5)).take (i * 5) = cur.toList.take (i * 5) := by rw [List.take_take, Nat.min_eq_left (by omega)]
   rw [← e2, hlen, htake]
   have e3 : l = l.take i ++ l.drop i := (List.take_append_drop i l).symm
   conv => lhs; rw [e3]
   rw [List.flatMap_append]
   have e4 : ((l.take i).flatMap Fi.cs).length = i * 5 := by rw [flat_len Fi.cs_length, List.length_take, Nat.min_eq_left (by omega)]
   rw [← e4, List.take_left]
  ·refine (setRow_other _ _ _ _ (by omega)).trans ((setRow_other _ _ _ _ (by omega)).trans (hB.block b hb))
 rw [← hN1]
 have HI := hide (And.intro hj hN1)
 have hcI : (n : Int) ≤ c := by omega
 have hijI : (i : Int) ≤ j := by omega
 have hjI : (j : Int) ≤ n := by omega
 have hne : ¬ (i : Int) = j := by omega
 have hneB : ((i : Int) == j) = false := by simpa using hne
 have h1I : (N1 : Int) ≤ n := by omega
 have hcN : ¬ c = N1 := by omega
 have hi0I : (0 : Int) ≤ i := by omega
 have hicI : (i : Int) ≤ c := by omega
 have hjcI : (j : Int) ≤ c := by omega
 have hmx : (c : Int) ≤ 9223372036854775807 := by have : c ≤ maxLen := hcm; unfold maxLen at this; omega
 clear hcells hg hgl hB h0 htake hcs hcs5 hfit hAsz hrowA hrowB hnl hnews hlen hi1 hi2 hi3 hi0 hbg hcm hnn hnc
 by_cases hcj : c = j
 ·have hnj : n - j = 0 := by omega
  have hld2 := hld0 hnj
  have hsum : i + (n - j) = N1 := by omega
  clear hld hld0 hj hN1 hnj
  go_enter Tryz.func39, Tryz.ntmps39
  go_wp2
  refine QTail.wp_region_tail (fun w' => ∃ n, w' = w.drewN n) 6 (by kernel_rfl) (by kernel_rfl) ⟨1, rfl⟩ ?_
  simp only [List.take_succ_cons, List.take_zero, List.drop_succ_cons, List.drop_zero]
  repeat (first | go_big_quiet_step (fail) | quiet_step (fail))
  refine wpQuiet_nil ?_
  rintro _ ⟨nq, rfl⟩
  go_wp2
  go_ret
  exact ⟨by rw [hcj]; rfl, HF.out _⟩
 ·have hcj2 : ¬ j = c := fun e => hcj e.symm
  have hsum : i + (n - j) = N1 := by omega
  clear hld0 hj hN1
  go_enter Tryz.func39, Tryz.ntmps39
  go_wp2
  refine QTail.wp_region_tail (fun w' => ∃ n, w' = w.drewN n) 6 (by kernel_rfl) (by kernel_rfl) ⟨1, rfl⟩ ?_
  simp only [List.take_succ_cons, List.take_zero, List.drop_succ_cons, List.drop_zero]
  repeat (first | go_big_quiet_step (fail) | quiet_step (fail))
  refine wpQuiet_nil ?_
  rintro _ ⟨nq, rfl⟩
  go_wp2
  go_ret
  exact ⟨rfl, HF.out _⟩
end Go.Proofs.YtnbhchdaobimmaaGreatDoor
/- Paths: the parts of a text between /, and where the last / stands; of no program. -/
namespace Go.Names
open Go.RowKit
/-- The parts of a text, between /. -/
def parts : Bs → List Bs
 | [] => [[]]
 | c :: l => if c = 47 then [] :: parts l else match parts l with
  | p :: ps => (c :: p) :: ps
  | [] => [[c]]
theorem parts_none : ∀ {l : Bs}, 47 ∉ l → parts l = [l]
 | [], _ => rfl
 | c :: l, h => by
  have h1 : c ≠ 47 := fun e => h (by simp [e])
  have h2 := parts_none (l := l) (fun e => h (by simp [e]))
  unfold parts
  rw [if_neg h1, h2]
theorem parts_cut : ∀ {l : Bs} {i : Nat}, Lib.indexByte l 47 = i → parts l = l.take i :: parts (l.drop (i + 1))
 | [], i, h => by simp [Lib.indexByte] at h
 | c :: l, i, h => by
  unfold Lib.indexByte at h
  by_cases hc : c = 47
  ·subst hc
   simp at h
   obtain rfl : i = 0 := by omega
   simp [parts]
  ·have hc' : (c == 47) = false := by simpa using hc
   simp only [hc', Bool.false_eq_true, if_false] at h
   by_cases h3 : Lib.indexByte l 47 = -1
   ·simp [h3] at h
   ·have h4 : (Lib.indexByte l 47 == -1) = false := by simpa using h3
    simp only [h4, Bool.false_eq_true, if_false] at h
    obtain ⟨k, rfl⟩ : ∃ k, i = k + 1 := ⟨i - 1, by have := Lib.indexByte_ge l 47; omega⟩
    have ih := parts_cut (l := l) (i := k) (by omega)
    conv => lhs; unfold parts
    rw [if_neg hc, ih]
    rfl
/-- One more byte behind the last part. -/
def more1 (c : UInt8) : List Bs → List Bs
 | [] => []
 | [p] => [p ++ [c]]
 | p :: q :: ps => p :: more1 c (q :: ps)
/-- What may be a path. -/
def pathB (l : Bs) : Bool := decide (l.length ≤ 238) && (parts l).all legal
/-- A text, cut at its last /. -/
def lastTo (s : ByteArray) : Nat → Option Nat
 | 0 => none
 | k + 1 => if ((s.data[k]!).toNat : Int) = 47 then some k else lastTo s k
theorem lastIdx_is (s : ByteArray) : ∀ k, Lib.lastIdx s 47 k = match lastTo s k with | none => -1 | some i => (i : Int)
 | 0 => rfl
 | k + 1 => by
  unfold Lib.lastIdx lastTo
  by_cases h : ((s.data[k]!).toNat : Int) = 47
  ·rw [if_pos h, if_pos h]
  ·rw [if_neg h, if_neg h, lastIdx_is s k]
theorem lastTo_lt (s : ByteArray) : ∀ k i, lastTo s k = some i → i < k
 | 0, i, h => by cases h
 | k + 1, i, h => by
  unfold lastTo at h
  split at h
  ·cases h; omega
  ·have := lastTo_lt s k i h; omega
def splitB (s : ByteArray) : ByteArray × ByteArray := match lastTo s s.size with
 | none => (⟨#[]⟩, s)
 | some i => (s.extract 0 i, s.extract (i + 1) s.size)
end Go.Names
/- Contracts: the document's parts of a path, and what may be one. -/
namespace Go.Proofs.YtnbhchdaobimmaaGreatDoor
open Go.RowKit Go.Names
end Go.Proofs.YtnbhchdaobimmaaGreatDoor
/- Contract: whether a path is ahead of another one, by the document. -/
namespace Go.Img
open Go.RowKit
theorem pts_parts : ∀ l : List UInt8, pts l = Names.parts l
 | [] => rfl
 | c :: l => by
  unfold pts Names.parts
  rw [pts_parts l]
  rfl
end Go.Img
namespace Go.Proofs.YtnbhchdaobimmaaGreatDoor
open Go.RowKit Go.Img Go.Shelf Go.Rws Go.Names
open Go.Mov hiding fold
attribute [local go_sem] Oper.semAt_some
end Go.Proofs.YtnbhchdaobimmaaGreatDoor
/- Names with no slash in them stand, by the order of paths, as their bytes stand; no program text is named here. -/
namespace Go.Img
end Go.Img
/- A path, cut at its last slash: the folder, a slash, a name with none in it; no program text is named here. -/
namespace Go.Img
open Go.Names
theorem lastTo_none (s : ByteArray) : ∀ k, lastTo s k = none → ∀ j, j < k → s.data[j]! ≠ 47
 | 0, _, j, h => absurd h (Nat.not_lt_zero _)
 | k + 1, h, j, hj => by
  unfold lastTo at h
  split at h
  ·cases h
  ·rename_i hn
   rcases Nat.lt_or_ge j k with h1 | h1
   ·exact lastTo_none s k h j h1
   ·obtain rfl : j = k := by omega
    intro e
    rw [e] at hn
    exact hn rfl
theorem lastTo_some (s : ByteArray) : ∀ k i, lastTo s k = some i → i < k ∧ s.data[i]! = 47 ∧ ∀ j, i < j → j < k → s.data[j]! ≠ 47
 | 0, _, h => by cases h
 | k + 1, i, h => by
  unfold lastTo at h
  split at h
  ·rename_i hy
   cases h
   refine ⟨by omega, ?_, fun j h1 h2 => by omega⟩
   have : (s.data[k]!).toNat = (47 : UInt8).toNat := by
    have : (47 : UInt8).toNat = 47 := rfl
    omega
   exact UInt8.toNat_inj.1 this
  ·rename_i hn
   obtain ⟨h1, h2, h3⟩ := lastTo_some s k i h
   refine ⟨by omega, h2, fun j h4 h5 => ?_⟩
   rcases Nat.lt_or_ge j k with h6 | h6
   ·exact h3 j h4 h6
   ·obtain rfl : j = k := by omega
    intro e
    rw [e] at hn
    exact hn rfl
theorem split_flat {s : ByteArray} (h : lastTo s s.size = none) : 47 ∉ s.data.toList := by
 intro hm
 obtain ⟨j, hj, e⟩ := List.mem_iff_getElem.1 hm
 have hs : j < s.data.size := by simpa using hj
 have := lastTo_none s s.size h j hs
 rw [getElem!_pos s.data j hs] at this
 exact this (by simpa using e)
theorem split_deep {s : ByteArray} {i : Nat} (h : lastTo s s.size = some i) : s.data.toList = s.data.toList.take i ++ 47 :: s.data.toList.drop (i + 1) ∧ 47 ∉ s.data.toList.drop (i + 1) := by
 obtain ⟨h1, h2, h3⟩ := lastTo_some s s.size i h
 have hs : i < s.data.size := h1
 have hl : i < s.data.toList.length := by simpa using hs
 have e : s.data.toList[i] = 47 := by rw [getElem!_pos s.data i hs] at h2; simpa using h2
 constructor
 ·rw [← e, ← List.drop_eq_getElem_cons hl, List.take_append_drop]
 ·intro hm
  obtain ⟨j, hj, e2⟩ := List.mem_iff_getElem.1 hm
  rw [List.getElem_drop] at e2
  rw [List.length_drop] at hj
  have hs2 : i + 1 + j < s.data.size := by
   have : s.data.toList.length = s.data.size := by simp
   omega
  have := h3 (i + 1 + j) (by omega) hs2
  rw [getElem!_pos s.data (i + 1 + j) hs2] at this
  exact this (by simpa using e2)
theorem extract_list (s : ByteArray) (i j : Nat) : (s.extract i j).data.toList = (s.data.toList.drop i).take (j - i) := by
 rw [ByteArray.data_extract, Array.toList_extract, List.extract_eq_take_drop]
end Go.Img
/- A path of a folder and a name, cut again; no program text is named here. -/
namespace Go.Img
open Go.Names
theorem lastTo_no {s : ByteArray} : ∀ {k}, (∀ j, j < k → s.data[j]! ≠ 47) → lastTo s k = none
 | 0, _ => rfl
 | k + 1, h => by
  unfold lastTo
  rw [if_neg (fun e => h k (by omega) (UInt8.toNat_inj.1 (by have : (47 : UInt8).toNat = 47 := rfl; omega)))]
  exact lastTo_no fun j hj => h j (by omega)
theorem lastTo_yes {s : ByteArray} {i : Nat} : ∀ {k}, i < k → s.data[i]! = 47 → (∀ j, i < j → j < k → s.data[j]! ≠ 47) → lastTo s k = some i
 | 0, h, _, _ => absurd h (Nat.not_lt_zero _)
 | k + 1, h, e, hn => by
  unfold lastTo
  rcases Nat.lt_or_ge i k with h1 | h1
  ·rw [if_neg (fun e2 => hn k h1 (by omega) (UInt8.toNat_inj.1 (by have : (47 : UInt8).toNat = 47 := rfl; omega)))]
   exact lastTo_yes h1 e fun j h2 h3 => hn j h2 (by omega)
  ·obtain rfl : i = k := by omega
   rw [if_pos (by rw [e]; rfl)]
theorem at_list (l : List UInt8) (j : Nat) (h : j < l.length) : (⟨l.toArray⟩ : ByteArray).data[j]! = l[j] := by
 have hd : j < (⟨l.toArray⟩ : ByteArray).data.size := by simpa using h
 rw [getElem!_pos _ j hd]
 simp
/-- The path of a name in a folder has a slash if the folder is not the whole, and is cut at it. -/
theorem split_join {d n : List UInt8} (h : 47 ∉ n) : splitB ⟨(join d n).toArray⟩ = (⟨d.toArray⟩, ⟨n.toArray⟩) ∧ (lastTo ⟨(join d n).toArray⟩ (join d n).length).isSome = decide (d ≠ []) := by
 have hsz : (⟨(join d n).toArray⟩ : ByteArray).size = (join d n).length := by show (join d n).toArray.size = _; simp
 by_cases hd : d = []
 ·subst hd
  have e : join [] n = n := by unfold join; rw [if_pos rfl]
  rw [e] at hsz ⊢
  have hl : lastTo (⟨n.toArray⟩ : ByteArray) n.length = none := lastTo_no fun j hj e2 => by
   rw [at_list n j hj] at e2
   exact h (by rw [← e2]; exact List.getElem_mem _)
  refine ⟨?_, by rw [hl]; rfl⟩
  unfold splitB
  rw [hsz, hl]
 ·have e : join d n = d ++ 47 :: n := by unfold join; rw [if_neg hd]
  rw [e] at hsz ⊢
  have hlen : (d ++ 47 :: n).length = d.length + n.length + 1 := by simp; omega
  have hl : lastTo (⟨(d ++ 47 :: n).toArray⟩ : ByteArray) (d ++ 47 :: n).length = some d.length := by
   refine lastTo_yes (by omega) ?_ fun j h1 h2 e2 => ?_
   ·rw [at_list _ _ (by omega)]; simp
   ·rw [at_list _ _ h2, List.getElem_append_right (by omega)] at e2
    obtain ⟨q, hq⟩ : ∃ q, j - d.length = q + 1 := ⟨j - d.length - 1, by omega⟩
    simp only [hq, List.getElem_cons_succ] at e2
    exact h (by rw [← e2]; exact List.getElem_mem _)
  refine ⟨?_, by rw [hl]; simp [hd]⟩
  unfold splitB
  rw [hsz, hl]
  dsimp only
  refine Prod.ext ?_ ?_
  ·apply ByteArray.ext
   apply Array.toList_inj.1
   rw [extract_list]
   simp
  ·apply ByteArray.ext
   apply Array.toList_inj.1
   rw [extract_list]
   simp
   rw [show d.length + (n.length + 1) - (d.length + 1) = n.length by omega, List.take_length]
end Go.Img
/- Contracts: where a place is in a list; whether it is there. -/
namespace Go.Pln
open Go.RowKit Go.Img
def plEq (a b : Plc) : Bool := (⟨a.1.toArray⟩ : ByteArray).toList == (⟨b.1.toArray⟩ : ByteArray).toList && (a.2 == b.2 && true)
theorem plEq_is (a b : Plc) : plEq a b = (a == b) := by
 obtain ⟨a1, a2⟩ := a
 obtain ⟨b1, b2⟩ := b
 unfold plEq
 rw [ByteArray.toList_eq, ByteArray.toList_eq, Bool.and_true]
 rfl
/-- Where the first file of a place is; -1: there is none. -/
def spotP (l : List Fi) (p : Plc) : Int := match l.findIdx? fun f => pk f == p with
 | none => -1
 | some i => (i : Int)
end Go.Pln
namespace Go.Proofs.YtnbhchdaobimmaaGreatDoor
open Go.RowKit Go.Img Go.Pln Go.Shelf Go.Rws Go.Wire Go.Stamp Go.Opn
attribute [local go_sem] Oper.semAt_some
theorem eq_plc (a b : Plc) (w : World) : (Op.equalIn 10000 91 (plV a) (plV b)).run Tryz.prog w = .ok (plEq a b) w := by
 unfold plV
 rw [run_equalIn_agg w 9999 91 _ _ (by unfold Program.fieldsOf; rw [Tryz.underlying91]) (by kernel_rfl)]
 unfold Program.fieldsOf
 rw [Tryz.underlying91]
 refine eq_step (x := .string ⟨a.1.toArray⟩) (y := .string ⟨b.1.toArray⟩) (by decide) (by go_simp) (by go_simp) (run_equalIn_string w _ _ _ _ Tryz.underlying9) ?_
 refine eq_step (x := .bool a.2) (y := .bool b.2) (by decide) (by go_simp) (by go_simp) (run_equalIn_bool' w _ _ _ _ Tryz.underlying4) ?_
 rfl
theorem guardPl : Tryz.prog.eqGuardType Tryz.prog.depth 91 = false := by kernel_rfl
theorem eql_plc {o : Oper} {a : Act} {x y : Operand} {t : TypeId} (ho : o.op = .binOp .eql 91 x y t) (p q : Plc) (hx : a.eval x = plV p) (hy : a.eval y = plV q) (w : World) :
  (execOp a.eval o).run Tryz.prog w = .ok (.value (.bool (p == q))) w := by
 unfold execOp
 rw [ho]
 have he := eq_plc p q w
 unfold plV at hx hy he
 simp only [hx, hy, Sem.run_bind, run_eqGuard_agg w .eql 91 x y _ _ guardPl, Result.andThen_ok, run_eql_struct, he, plEq_is]
 try rfl
set_option maxHeartbeats 4000000 in
set_option maxRecDepth 100000 in
theorem findIs_any (f : Fi) (p : Plc) (g : Nat) (w : World) (hg : w.heap[g]? = some (.cells #[.string ⟨p.1.toArray⟩, .bool p.2] 91 (0, 0))) :
  Calls Tryz.prog 71 #[.agg f.cs.toArray, .pointer (some ⟨g, 0, none⟩)] w fun e w' => e = .returned (.bool (pk f == p)) ∧ Below w.heap.size w w' := by
 have HP := hide (fun v => placeOf_any f v)
 have HE := hide (fun v => eq_plc (pk f) p v)
 have HQ := hide (plEq_is (pk f) p)
 have k1 := (Below.refl _ w).alloc (Nat.le_refl _) (.cells f.cs.toArray 51)
 have HK := hide k1
 have HF := hide (heap_alloc_new w (.cells f.cs.toArray 51))
 have HG := hide ((k1.block g (Array.getElem?_eq_some_iff.1 hg).1).trans hg)
 unfold Fi.cs at HP HK HF HG ⊢
 unfold plV at HE
 clear hg k1
 go_enter Tryz.func71, Tryz.ntmps71
 go_upto_region 1 with fail
 generalize hW1 : w.alloc (.cells #[.string ⟨f.path.toArray⟩, .bool f.dir, .int .u64 f.id, .string f.dg, .int .i64 f.size] 51) = W1 at *
 clear hW1
 refine QuietCalls.region (by kernel_rfl) (by kernel_rfl) ?_
 refine QuietCalls.load rfl 51 _ rfl _ rfl _ _ _ _ HF.out Tryz.underlying51 rfl infoFi5 ?_; simp only [Act.put, List.setIfInBounds_toArray, List.set_cons_succ, List.set_cons_zero]
 refine QuietCalls.call rfl 30 #[.agg #[.string ⟨f.path.toArray⟩, .bool f.dir, .int .u64 f.id, .string f.dg, .int .i64 f.size]] (.agg #[.string ⟨f.path.toArray⟩, .bool f.dir]) (fun v _ => HP.out v) (fun v => by go_simp) ?_; simp only [Act.put, List.setIfInBounds_toArray, List.set_cons_succ, List.set_cons_zero]
 refine QuietCalls.load rfl 91 _ rfl _ rfl _ _ _ _ HG.out Tryz.underlying91 rfl (by kernel_rfl) ?_; simp only [Act.put, List.setIfInBounds_toArray, List.set_cons_succ, List.set_cons_zero]
 refine QuietCalls.hand rfl (.bool (pk f == p)) (fun v => eql_plc rfl (pk f) p rfl rfl v) ?_; simp only [Act.put, List.setIfInBounds_toArray, List.set_cons_succ, List.set_cons_zero]
 iterate 1 (first | go_big_quiet_step (fail) | quiet_step (fail))
 refine wpQuiet_nil ?_
 intro w9 k9
 go_wp2_with fail
 go_ret
 exact ⟨rfl, HK.out.trans (k9.mono HK.out.size)⟩
theorem spotP_some {l : List Fi} {p : Plc} {i : Nat} {f : Fi} (hf : l[i]? = some f) (h : (pk f == p) = true) (hb : ∀ (j : Nat) (x : Fi), j < i → l[j]? = some x → (pk x == p) = false) : spotP l p = i := by
 have e : l.findIdx? (fun f => pk f == p) = some i := by
  obtain ⟨h1, h2⟩ := List.getElem?_eq_some_iff.1 hf
  refine List.findIdx?_eq_some_iff_getElem.2 ⟨h1, by rw [h2]; exact h, fun j hj => ?_⟩
  have := hb j _ hj (List.getElem?_eq_getElem (by omega))
  simp [this]
 unfold spotP
 rw [e]
theorem spotP_none {l : List Fi} {p : Plc} (hb : ∀ (j : Nat) (x : Fi), j < l.length → l[j]? = some x → (pk x == p) = false) : spotP l p = -1 := by
 have e : l.findIdx? (fun f => pk f == p) = none := by
  rw [List.findIdx?_eq_none_iff]
  intro x hx
  obtain ⟨j, hj⟩ := List.mem_iff_getElem?.1 hx
  exact hb j x (List.getElem?_eq_some_iff.1 hj).1 hj
 unfold spotP
 rw [e]
set_option maxHeartbeats 4000000 in
set_option maxRecDepth 100000 in
theorem indexPl_any (l : List Fi) (u : Value) (p : Plc) (g : Nat) (w : World) (hl : RowsAt Fi.cs 5 w u l) (hn : l.length ≤ 100000) (hg : w.heap[g]? = some (.cells #[.string ⟨p.1.toArray⟩, .bool p.2] 91 (0, 0))) :
  Calls Tryz.prog 70 #[u, .func (.func 71) #[] #[.pointer (some ⟨g, 0, none⟩)]] w fun e w' => e = .returned (.int .i64 (spotP l p)) ∧ Below w.heap.size w w' := by
 obtain ⟨la, lc, rfl⟩ := hl.form
 obtain ⟨N, hN⟩ : ∃ N, N = l.length := ⟨_, rfl⟩
 rw [← hN] at hl hn
 rw [← hN]
 have HL := hide hl
 have HN := hide hN
 have hgl := (Array.getElem?_eq_some_iff.1 hg).1
 have HI := hide (fun (f : Fi) (v : World) (k : Below w.heap.size w v) => findIs_any f p g v ((k.block g hgl).trans hg))
 obtain ⟨R, hR⟩ : ∃ R, R = spotP l p := ⟨_, rfl⟩
 have HR := hide hR
 rw [← hR]
 have hnI : (N : Int) ≤ 100000 := by omega
 clear hl hN hg hgl hR
 go_enter Tryz.func70, Tryz.ntmps70
 go_wp2_with fail
 go_loopw [8] (fun v8 wr => ∃ i : Nat, v8 = .int .i64 i ∧ i ≤ N ∧ Hid ((∀ (j : Nat) (x : Fi), j < i → l[j]? = some x → (pk x == p) = false) ∧ Below w.heap.size w wr)) (fun v8 _ => N - (intOf v8).toNat)
 case atStart => exact ⟨0, rfl, Nat.zero_le _, fun j f h => absurd h (Nat.not_lt_zero _), Below.refl _ _⟩
 case round =>
  obtain ⟨i, rfl, hi, HJ⟩ := hrel
  have h0 : (0 : Int) ≤ i := by omega
  by_cases hil : i < N
  ·obtain ⟨f, hf⟩ : ∃ f, l[i]? = some f := ⟨_, List.getElem?_eq_getElem (by rw [← HN.out]; exact hil)⟩
   obtain ⟨g1, o1, e1, q1, cx, l1, r1⟩ := (HL.out.below HJ.out.2).at (fun e => by rw [e] at hf; cases hf)
   subst e1
   have hc1 : (N : Int) ≤ lc := by rw [q1]; omega
   have hiI : (i : Int) < N := by omega
   have HRG := hide (r1 i f hf)
   have HC := hide (HI.out f wr HJ.out.2)
   obtain ⟨q, hq⟩ : ∃ q, q = (pk f == p) := ⟨_, rfl⟩
   rw [← hq] at HC
   have HQ := hide hq
   have HF := hide hf
   unfold Fi.cs at HC
   clear hf r1 l1 q1 cx hq
   cases q with
   | true =>
    go_wp2_with (first
     | (refine wpList_load_mid rfl 51 _ rfl g1 (o1 + i * 5) rfl f.cs _ HRG.out Tryz.underlying51 rfl infoFi5 ?_; simp only [Fi.cs])
     | (go_at_call 71; refine HC.out.mono ?_; rintro e w1 ⟨rfl, k1⟩; have K1 := hide k1; clear k1 HC))
    go_ret
    have e9 : R = (i : Int) := by rw [HR.out]; exact spotP_some HF.out HQ.out.symm HJ.out.1
    exact ⟨by rw [e9]; rfl, HJ.out.2.trans (K1.out.mono HJ.out.2.size)⟩
   | false =>
    go_wp2_with (first
     | (refine wpList_load_mid rfl 51 _ rfl g1 (o1 + i * 5) rfl f.cs _ HRG.out Tryz.underlying51 rfl infoFi5 ?_; simp only [Fi.cs])
     | (go_at_call 71; refine HC.out.mono ?_; rintro e w1 ⟨rfl, k1⟩; have K1 := hide k1; clear k1 HC))
    go_roundw
    case rel =>
     refine ⟨i + 1, by simp, by omega, fun j x hj hx => ?_, HJ.out.2.trans (K1.out.mono HJ.out.2.size)⟩
     by_cases e : j = i
     ·subst e
      rw [HF.out] at hx
      cases hx
      exact HQ.out.symm
     ·exact HJ.out.1 j x (by omega) hx
    case measure => simp [intOf]; omega
  ·obtain rfl : i = N := by omega
   have hiI : ¬ (i : Int) < i := by omega
   have e9 : R = -1 := by rw [HR.out]; exact spotP_none fun j x hj hx => HJ.out.1 j x (by rw [HN.out]; exact hj) hx
   subst e9
   go_wp2_with fail
   go_ret
   exact ⟨rfl, HJ.out.2⟩
set_option maxHeartbeats 4000000 in
set_option maxRecDepth 100000 in
theorem findPl_any (l : List Fi) (u : Value) (p : Plc) (w : World) (hl : RowsAt Fi.cs 5 w u l) (hn : l.length ≤ 100000) :
  Calls Tryz.prog 38 #[u, .agg #[.string ⟨p.1.toArray⟩, .bool p.2]] w fun e w' => e = .returned (.int .i64 (spotP l p)) ∧ Below w.heap.size w w' := by
 have k1 := (Below.refl _ w).alloc (Nat.le_refl _) (.cells #[.string ⟨p.1.toArray⟩, .bool p.2] 91)
 have HI := hide (indexPl_any l u p w.heap.size _ (hl.below k1) hn (heap_alloc_new w _))
 have HK := hide k1
 clear k1 hl
 go_enter Tryz.func38, Tryz.ntmps38
 go_wp2_with (go_at_call 70; refine HI.out.mono ?_; rintro e w1 ⟨rfl, k1⟩; have K1 := hide k1; clear k1 HI)
 go_ret
 exact ⟨rfl, HK.out.trans (K1.out.mono HK.out.size)⟩
theorem spotP_has (l : List Fi) (p : Plc) : decide (0 ≤ spotP l p) = (lkP l p).isSome := by
 unfold spotP
 cases h : l.findIdx? (fun f => pk f == p) with
 | none =>
  rw [List.findIdx?_eq_none_iff] at h
  have e : lkP l p = none := by
   cases e : lkP l p with
   | none => rfl
   | some f => have := h f (lkP_some e).1; rw [(lkP_some e).2] at this; simp at this
  rw [e]
  rfl
 | some i =>
  obtain ⟨h1, h2, _⟩ := List.findIdx?_eq_some_iff_getElem.1 h
  have e : (lkP l p).isSome = true := by
   cases e : lkP l p with
   | none => exact absurd (by simpa using h2) (lkP_none e l[i] (List.getElem_mem h1))
   | some f => rfl
  rw [e]
  simp
set_option maxHeartbeats 4000000 in
set_option maxRecDepth 100000 in
theorem hasPl_any (l : List Fi) (u : Value) (p : Plc) (w : World) (hl : RowsAt Fi.cs 5 w u l) (hn : l.length ≤ 100000) :
  Calls Tryz.prog 67 #[u, .agg #[.string ⟨p.1.toArray⟩, .bool p.2]] w fun e w' => e = .returned (.bool (lkP l p).isSome) ∧ Below w.heap.size w w' := by
 have k1 := (Below.refl _ w).alloc (Nat.le_refl _) (.cells #[.string ⟨p.1.toArray⟩, .bool p.2] 91)
 have HI := hide (findPl_any l u p _ (hl.below k1) hn)
 have HK := hide k1
 have HB := hide (heap_alloc_new w (.cells #[.string ⟨p.1.toArray⟩, .bool p.2] 91))
 have HS := hide (spotP_has l p)
 obtain ⟨R, hR⟩ : ∃ R, R = spotP l p := ⟨_, rfl⟩
 rw [← hR] at HI HS
 rw [← HS.out]
 clear k1 hl hR
 go_enter Tryz.func67, Tryz.ntmps67
 go_wp2_with (first
  | (refine wpList_load_row rfl 91 _ rfl _ rfl _ _ _ _ HB.out Tryz.underlying91 rfl (by kernel_rfl) ?_)
  | (go_at_call 38; refine HI.out.mono ?_; rintro e w1 ⟨rfl, k1⟩; have K1 := hide k1; clear k1 HI))
 go_ret
 exact ⟨by first | rfl | simp, HK.out.trans (K1.out.mono HK.out.size)⟩
end Go.Proofs.YtnbhchdaobimmaaGreatDoor
/- Contract: whether something stands below a folder. -/
namespace Go.Pln
open Go.RowKit Go.Img
def prefB (s p : ByteArray) : Bool := decide (p.size ≤ s.size) && ((s.extract 0 p.size).toList == p.toList)
def begB (p : ByteArray) (f : Fi) : Bool := prefB ⟨f.path.toArray⟩ p
def spotQ (l : List Fi) (q : Fi → Bool) : Int := match l.findIdx? fun f => q f with
 | none => -1
 | some i => (i : Int)
def fullB (l : List Fi) (s : ByteArray) : Bool := l.any (begB (s ++ ⟨#[47]⟩))
theorem spotQ_any (l : List Fi) (q : Fi → Bool) : decide (0 ≤ spotQ l q) = l.any q := by
 unfold spotQ
 cases h : l.findIdx? (fun f => q f) with
 | none =>
  rw [List.findIdx?_eq_none_iff] at h
  have e : l.any q = false := by rw [List.any_eq_false]; intro x hx; simp [h x hx]
  rw [e]
  rfl
 | some i =>
  obtain ⟨h1, h2, _⟩ := List.findIdx?_eq_some_iff_getElem.1 h
  have e : l.any q = true := List.any_eq_true.2 ⟨l[i], List.getElem_mem h1, h2⟩
  rw [e]
  simp
end Go.Pln
namespace Go.Proofs.YtnbhchdaobimmaaGreatDoor
open Go.RowKit Go.Img Go.Pln Go.Shelf Go.Rws Go.Wire Go.Stamp Go.Opn
attribute [local go_sem] Oper.semAt_some
set_option maxHeartbeats 4000000 in
theorem prefixLite_any (s p : ByteArray) (w : World) : Calls Tryz.prog 125 #[.string s, .string p] w fun e w' => e = .returned (.bool (prefB s p)) ∧ w' = w := by
 unfold prefB
 by_cases h : p.size ≤ s.size
 ·have hI : (p.size : Int) ≤ s.size := by omega
  go_enter Tryz.func125, Tryz.ntmps125
  go_wp2
  go_ret
  exact ⟨by simp [h], rfl⟩
 ·have hI : ¬ (p.size : Int) ≤ s.size := by omega
  go_enter Tryz.func125, Tryz.ntmps125
  go_wp2
  go_ret
  exact ⟨by simp, rfl⟩
theorem prefix_any (s p : ByteArray) (w : World) : Calls Tryz.prog 104 #[.string s, .string p] w fun e w' => e = .returned (.bool (prefB s p)) ∧ w' = w := by
 have H := hide (prefixLite_any s p w)
 go_enter Tryz.func104, Tryz.ntmps104
 go_wp2_with (go_at_call 125; refine H.out.mono ?_; rintro e w1 ⟨rfl, rfl⟩)
 go_ret
 exact ⟨rfl, rfl⟩
set_option maxHeartbeats 4000000 in
set_option maxRecDepth 100000 in
theorem fullIs_any (f : Fi) (p : ByteArray) (g : Nat) (w : World) (hg : w.heap[g]? = some (.cells #[.string p] 9 (0, 0))) :
  Calls Tryz.prog 103 #[.agg f.cs.toArray, .pointer (some ⟨g, 0, none⟩)] w fun e w' => e = .returned (.bool (begB p f)) ∧ Below w.heap.size w w' := by
 unfold begB
 have HP := hide (fun v => prefix_any ⟨f.path.toArray⟩ p v)
 have k1 := (Below.refl _ w).alloc (Nat.le_refl _) (.cells f.cs.toArray 51)
 have HK := hide k1
 have hF : (w.alloc (.cells f.cs.toArray 51)).cell? ⟨w.heap.size, 0, none⟩ = some (.string ⟨f.path.toArray⟩) := (cell_of_row _ _ _ _ _ _ (heap_alloc_new w _)).trans rfl
 have hG : (w.alloc (.cells f.cs.toArray 51)).cell? ⟨g, 0, none⟩ = some (.string p) := (cell_of_row _ _ _ _ _ _ ((k1.block g (Array.getElem?_eq_some_iff.1 hg).1).trans hg)).trans rfl
 unfold Fi.cs at HK hF hG ⊢
 clear hg k1
 go_enter Tryz.func103, Tryz.ntmps103
 go_wp2_with (go_at_call 104; refine (HP.out _).mono ?_; rintro e w1 ⟨rfl, rfl⟩)
 go_ret
 exact ⟨rfl, HK.out⟩
theorem spotQ_some {l : List Fi} {q : Fi → Bool} {i : Nat} {f : Fi} (hf : l[i]? = some f) (h : (q f) = true) (hb : ∀ (j : Nat) (x : Fi), j < i → l[j]? = some x → (q x) = false) : spotQ l q = i := by
 have e : l.findIdx? (fun f => q f) = some i := by
  obtain ⟨h1, h2⟩ := List.getElem?_eq_some_iff.1 hf
  refine List.findIdx?_eq_some_iff_getElem.2 ⟨h1, by rw [h2]; exact h, fun j hj => ?_⟩
  have := hb j _ hj (List.getElem?_eq_getElem (by omega))
  simp [this]
 unfold spotQ
 rw [e]
theorem spotQ_none {l : List Fi} {q : Fi → Bool} (hb : ∀ (j : Nat) (x : Fi), j < l.length → l[j]? = some x → (q x) = false) : spotQ l q = -1 := by
 have e : l.findIdx? (fun f => q f) = none := by
  rw [List.findIdx?_eq_none_iff]
  intro x hx
  obtain ⟨j, hj⟩ := List.mem_iff_getElem?.1 hx
  exact hb j x (List.getElem?_eq_some_iff.1 hj).1 hj
 unfold spotQ
 rw [e]
set_option maxHeartbeats 4000000 in
set_option maxRecDepth 100000 in
theorem indexQ_any (l : List Fi) (u : Value) (p : ByteArray) (g : Nat) (w : World) (hl : RowsAt Fi.cs 5 w u l) (hn : l.length ≤ 100000) (hg : w.heap[g]? = some (.cells #[.string p] 9 (0, 0))) :
  Calls Tryz.prog 70 #[u, .func (.func 103) #[] #[.pointer (some ⟨g, 0, none⟩)]] w fun e w' => e = .returned (.int .i64 (spotQ l (begB p))) ∧ Below w.heap.size w w' := by
 obtain ⟨la, lc, rfl⟩ := hl.form
 obtain ⟨N, hN⟩ : ∃ N, N = l.length := ⟨_, rfl⟩
 rw [← hN] at hl hn
 rw [← hN]
 have HL := hide hl
 have HN := hide hN
 have hgl := (Array.getElem?_eq_some_iff.1 hg).1
 have HI := hide (fun (f : Fi) (v : World) (k : Below w.heap.size w v) => fullIs_any f p g v ((k.block g hgl).trans hg))
 obtain ⟨R, hR⟩ : ∃ R, R = spotQ l (begB p) := ⟨_, rfl⟩
 have HR := hide hR
 rw [← hR]
 have hnI : (N : Int) ≤ 100000 := by omega
 clear hl hN hg hgl hR
 go_enter Tryz.func70, Tryz.ntmps70
 go_wp2_with fail
 go_loopw [8] (fun v8 wr => ∃ i : Nat, v8 = .int .i64 i ∧ i ≤ N ∧ Hid ((∀ (j : Nat) (x : Fi), j < i → l[j]? = some x → (begB p x) = false) ∧ Below w.heap.size w wr)) (fun v8 _ => N - (intOf v8).toNat)
 case atStart => exact ⟨0, rfl, Nat.zero_le _, fun j f h => absurd h (Nat.not_lt_zero _), Below.refl _ _⟩
 case round =>
  obtain ⟨i, rfl, hi, HJ⟩ := hrel
  have h0 : (0 : Int) ≤ i := by omega
  by_cases hil : i < N
  ·obtain ⟨f, hf⟩ : ∃ f, l[i]? = some f := ⟨_, List.getElem?_eq_getElem (by rw [← HN.out]; exact hil)⟩
   obtain ⟨g1, o1, e1, q1, cx, l1, r1⟩ := (HL.out.below HJ.out.2).at (fun e => by rw [e] at hf; cases hf)
   subst e1
   have hc1 : (N : Int) ≤ lc := by rw [q1]; omega
   have hiI : (i : Int) < N := by omega
   have HRG := hide (r1 i f hf)
   have HC := hide (HI.out f wr HJ.out.2)
   obtain ⟨d, hq⟩ : ∃ d, d = begB p f := ⟨_, rfl⟩
   rw [← hq] at HC
   have HQ := hide hq
   have HF := hide hf
   unfold Fi.cs at HC
   clear hf r1 l1 q1 cx hq
   cases d with
   | true =>
    go_wp2_with (first
     | (refine wpList_load_mid rfl 51 _ rfl g1 (o1 + i * 5) rfl f.cs _ HRG.out Tryz.underlying51 rfl infoFi5 ?_; simp only [Fi.cs])
     | (go_at_call 103; refine HC.out.mono ?_; rintro e w1 ⟨rfl, k1⟩; have K1 := hide k1; clear k1 HC))
    go_ret
    have e9 : R = (i : Int) := by rw [HR.out]; exact spotQ_some HF.out HQ.out.symm HJ.out.1
    exact ⟨by rw [e9]; rfl, HJ.out.2.trans (K1.out.mono HJ.out.2.size)⟩
   | false =>
    go_wp2_with (first
     | (refine wpList_load_mid rfl 51 _ rfl g1 (o1 + i * 5) rfl f.cs _ HRG.out Tryz.underlying51 rfl infoFi5 ?_; simp only [Fi.cs])
     | (go_at_call 103; refine HC.out.mono ?_; rintro e w1 ⟨rfl, k1⟩; have K1 := hide k1; clear k1 HC))
    go_roundw
    case rel =>
     refine ⟨i + 1, by simp, by omega, fun j x hj hx => ?_, HJ.out.2.trans (K1.out.mono HJ.out.2.size)⟩
     by_cases e : j = i
     ·subst e
      rw [HF.out] at hx
      cases hx
      exact HQ.out.symm
     ·exact HJ.out.1 j x (by omega) hx
    case measure => simp [intOf]; omega
  ·obtain rfl : i = N := by omega
   have hiI : ¬ (i : Int) < i := by omega
   have e9 : R = -1 := by rw [HR.out]; exact spotQ_none fun j x hj hx => HJ.out.1 j x (by rw [HN.out]; exact hj) hx
   subst e9
   go_wp2_with fail
   go_ret
   exact ⟨rfl, HJ.out.2⟩
set_option maxHeartbeats 4000000 in
set_option maxRecDepth 100000 in
theorem full_any (l : List Fi) (u : Value) (s : ByteArray) (w : World) (hl : RowsAt Fi.cs 5 w u l) (hn : l.length ≤ 100000) (hs : s.size ≤ 1000) :
  Calls Tryz.prog 69 #[u, .string s] w fun e w' => e = .returned (.bool (fullB l s)) ∧ Below w.heap.size w w' := by
 unfold fullB
 obtain ⟨p, hp⟩ : ∃ p, p = s ++ (⟨#[47]⟩ : ByteArray) := ⟨_, rfl⟩
 rw [← hp]
 have k1 := (Below.refl _ w).alloc (Nat.le_refl _) (.cells #[.string p] 9)
 have HI := hide (indexQ_any l u p w.heap.size _ (hl.below k1) hn (heap_alloc_new w _))
 have HK := hide k1
 have HS := hide (spotQ_any l (begB p))
 obtain ⟨R, hR⟩ : ∃ R, R = spotQ l (begB p) := ⟨_, rfl⟩
 rw [← hR] at HI HS
 rw [← HS.out]
 have HC : Hid (Calls Tryz.prog 102 #[u, .func (.func 103) #[] #[.pointer (some ⟨w.heap.size, 0, none⟩)]] (w.alloc (.cells #[.string p] 9)) fun e w' => e = .returned (.bool (decide (0 ≤ R))) ∧ Below (w.alloc (.cells #[.string p] 9)).heap.size (w.alloc (.cells #[.string p] 9)) w') := by
  show Calls _ _ _ _ _
  generalize w.alloc (.cells #[.string p] 9) = w1 at HI
  clear k1 hl hR HK HS
  go_enter Tryz.func102, Tryz.ntmps102
  go_wp2_with (go_at_call 70; refine HI.out.mono ?_; rintro e w2 ⟨rfl, k2⟩; have K2 := hide k2; clear k2 HI)
  go_ret
  exact ⟨by first | rfl | simp, K2.out⟩
 rw [hp] at HC HK
 clear k1 hl hR HI HS hp
 go_enter Tryz.func69, Tryz.ntmps69
 go_wp2_with (go_at_call 102; refine HC.out.mono ?_; rintro e w1 ⟨rfl, k1⟩; have K1 := hide k1; clear k1 HC)
 go_ret
 exact ⟨rfl, HK.out.trans (K1.out.mono HK.out.size)⟩
end Go.Proofs.YtnbhchdaobimmaaGreatDoor
/- Contracts: the parts of a path, one behind the other, as the library's iterator gives them. -/
namespace Go.Proofs.YtnbhchdaobimmaaGreatDoor
open Go.RowKit Go.Names Go.Shelf
attribute [local go_sem] Oper.semAt_some
set_option maxHeartbeats 800000 in
theorem sliteIndex_any (s : ByteArray) (w : World) :
  Calls Tryz.prog 158 #[.string s, .string ⟨#[47]⟩] w fun e w' => e = .returned (.int .i64 (Lib.indexByte s.data.toList 47)) ∧ w' = w := by
 have HC := hide (Any.stringslite_IndexByte { indexByteL with } s 47 w)
 have h1 : (⟨#[47]⟩ : ByteArray).size = 1 := rfl
 by_cases hs : s.toList = [47]
 ·have hb : ([47] == s.toList) = true := by rw [hs]; rfl
  have hd : s.data.toList = [47] := by rw [← ByteArray.toList_eq]; exact hs
  rw [hd, show Lib.indexByte [47] 47 = 0 from rfl]
  clear hd hs HC
  go_enter Tryz.func158, Tryz.ntmps158
  go_wp2
  go_ret
  exact ⟨rfl, rfl⟩
 ·have hb : ([47] == s.toList) = false := beq_eq_false_iff_ne.2 (Ne.symm hs)
  clear hs
  go_enter Tryz.func158, Tryz.ntmps158
  go_wp2_with (go_at_call 150; refine HC.out.mono ?_; rintro e w1 ⟨rfl, rfl⟩)
  go_ret
  exact ⟨rfl, rfl⟩
theorem index_any (s : ByteArray) (w : World) :
  Calls Tryz.prog 153 #[.string s, .string ⟨#[47]⟩] w fun e w' => e = .returned (.int .i64 (Lib.indexByte s.data.toList 47)) ∧ w' = w := by
 have HC := hide (sliteIndex_any s w)
 go_enter Tryz.func153, Tryz.ntmps153
 go_wp2_with (go_at_call 158; refine HC.out.mono ?_; rintro e w1 ⟨rfl, rfl⟩)
 go_ret
 exact ⟨rfl, rfl⟩
theorem splitSeq_any (s : ByteArray) (w : World) :
  Calls Tryz.prog 122 #[.string s, .string ⟨#[47]⟩] w fun e w' => e = .returned (.func (.func 151) #[] #[.pointer (some ⟨w.heap.size + 1, 0, none⟩), .pointer (some ⟨w.heap.size, 0, none⟩), .pointer (some ⟨w.heap.size + 1 + 1, 0, none⟩)]) ∧ w' = ((w.alloc (.cells #[.string s] 9)).alloc (.cells #[.string ⟨#[47]⟩] 9)).alloc (.cells #[.int .i64 0] 3) := by
 have HC : Hid (Calls Tryz.prog 142 #[.string s, .string ⟨#[47]⟩, .int .i64 0] w fun e w' => e = .returned (.func (.func 151) #[] #[.pointer (some ⟨w.heap.size + 1, 0, none⟩), .pointer (some ⟨w.heap.size, 0, none⟩), .pointer (some ⟨w.heap.size + 1 + 1, 0, none⟩)]) ∧ w' = ((w.alloc (.cells #[.string s] 9)).alloc (.cells #[.string ⟨#[47]⟩] 9)).alloc (.cells #[.int .i64 0] 3)) := by
  show Calls _ _ _ _ _
  go_enter Tryz.func142, Tryz.ntmps142
  go_wp2
  go_ret
  exact ⟨rfl, rfl⟩
 go_enter Tryz.func122, Tryz.ntmps122
 go_wp2_with (go_at_call 142; refine HC.out.mono ?_; rintro e w1 ⟨rfl, rfl⟩)
 go_ret
 exact ⟨rfl, rfl⟩
theorem index_lt : ∀ (l : Bs) (c : UInt8), Lib.indexByte l c < l.length
 | [], c => by simp [Lib.indexByte]
 | b :: l, c => by
  have ih := index_lt l c
  unfold Lib.indexByte
  split
  ·simp
  ·split
   ·simp; omega
   ·simp; omega
theorem take_is (R : ByteArray) (i : Nat) : (R.extract 0 i).data.toList = R.data.toList.take i := by simp [ByteArray.data_extract]
theorem drop_is (R : ByteArray) (i : Nat) : (R.extract i R.size).data.toList = R.data.toList.drop i := by
 simp only [ByteArray.data_extract, Array.toList_extract, List.extract_eq_take_drop]
 rw [List.take_of_length_le]
 rw [List.length_drop]
 exact Nat.le_refl _
set_option maxHeartbeats 4000000 in
set_option maxRecDepth 100000 in
/-- The iterator, over a body that goes on at parts that may be names, and leaves at others. -/
theorem seq_in (s : ByteArray) (hs : s.size ≤ 238) (l m b1 b2 b3 : Nat) (J Jx : World → Prop) (W : World)
  (hY : ∀ (p : ByteArray) (W1 : World), J W1 → p.size ≤ 238 → legal p.data.toList = true → YieldAt Fence.wide (m - 1) Tryz.prog l #[.string p] W1 fun e W' => e = .returned (.bool true) ∧ W' = W1)
  (hN : ∀ (p : ByteArray) (W1 : World), J W1 → p.size ≤ 238 → legal p.data.toList = false → YieldAt Fence.wide (m - 1) Tryz.prog l #[.string p] W1 fun e W' => e = .returned (.bool false) ∧ Jx W')
  (hJ : ∀ (W1 : World) (v : Value), J W1 → J (W1.setCell ⟨b2, 0, none⟩ v)) (h0 : J W)
  (c1 : W.cell? ⟨b1, 0, none⟩ = some (.string ⟨#[47]⟩)) (x2 : Boxed W b2 9 (.string s)) (c3 : W.cell? ⟨b3, 0, none⟩ = some (.int .i64 0)) (h12 : b1 ≠ b2) (h32 : b3 ≠ b2) :
  CallsIn Fence.wide m Tryz.prog 151 #[.func (.yield l) #[] #[], .pointer (some ⟨b1, 0, none⟩), .pointer (some ⟨b2, 0, none⟩), .pointer (some ⟨b3, 0, none⟩)] W fun e W' => (∃ v, e = .returned v) ∧ (((parts s.data.toList).all legal = true ∧ J W') ∨ ((parts s.data.toList).all legal = false ∧ Jx W')) := by
 refine callsIn_of_wp Tryz.func151 rfl trivial ?_ rfl
 simp only [Tryz.ntmps151, List.size_toArray, List.length_cons, List.length_nil, Nat.reduceAdd, Nat.reduceSub, Array.replicate_succ, Array.replicate_zero, List.push_toArray, List.append_toArray, List.nil_append, List.cons_append]
 have h1 : (⟨#[47]⟩ : ByteArray).size = 1 := rfl
 have HY := hide hY
 have HN := hide hN
 have HJ := hide hJ
 have H0 := hide h0
 have X2 := hide x2
 have C1 := hide c1
 have C3 := hide c3
 clear hY hN hJ h0 x2 c3
 gi_wp2_with fail
 clear c1
 gi_loopw [7] (fun _ wr => ∃ R : ByteArray, Hid (R.size ≤ 238 ∧ Boxed wr b2 9 (.string R) ∧ J wr ∧ wr.cell? ⟨b1, 0, none⟩ = some (.string ⟨#[47]⟩) ∧ wr.cell? ⟨b3, 0, none⟩ = some (.int .i64 0) ∧ (parts s.data.toList).all legal = (parts R.data.toList).all legal)) (fun _ wr => match wr.cell? ⟨b2, 0, none⟩ with | some (.string r) => r.size | _ => 0)
 case atStart => exact ⟨s, hs, X2.out, H0.out, C1.out, C3.out, rfl⟩
 case round =>
  obtain ⟨R, HP⟩ := hrel
  clear X2 H0 C1 C3
  obtain ⟨hR, hx, hj, hc1, hc3, hall⟩ := HP.out
  have hc2 := hx.cell
  have hf2 := hx.frozen
  have HX := hide hx
  have Hj := hide hj
  have HA := hide hall
  clear hx hj hall HP
  have HI := hide (fun w1 => index_any R w1)
  by_cases hneg : Lib.indexByte R.data.toList 47 < 0
  ·have hnot : 47 ∉ R.data.toList := fun hm => by have := (index_has R.data.toList 47).2 hm; omega
   have HAll : Hid ((parts s.data.toList).all legal = legal R.data.toList) := by
    show _ = _
    rw [HA.out, parts_none hnot]
    simp
   clear hnot
   generalize Lib.indexByte R.data.toList 47 = ix at hneg HI
   cases hl : legal R.data.toList with
   | true =>
    rw [hl] at HAll
    obtain ⟨fn, tmps, assign, body, hy, hRn⟩ := HY.out R wr Hj.out hR hl
    gi_wp2_with (refine ⟨trivial, fun h => (by cases h), (callsIn_wide.2 (HI.out _)).mono ?_⟩; rintro e w1 ⟨rfl, h9⟩; replace h9 := h9.symm; subst h9)
    refine ⟨fun h => (by cases h), hRn.mono ?_⟩
    rintro e W3 ⟨rfl, rfl⟩
    gi_wp2_with fail
    go_end0
    exact ⟨⟨_, rfl⟩, .inl ⟨HAll.out, Hj.out⟩⟩
   | false =>
    rw [hl] at HAll
    obtain ⟨fn, tmps, assign, body, hy, hRn⟩ := HN.out R wr Hj.out hR hl
    gi_wp2_with (refine ⟨trivial, fun h => (by cases h), (callsIn_wide.2 (HI.out _)).mono ?_⟩; rintro e w1 ⟨rfl, h9⟩; replace h9 := h9.symm; subst h9)
    refine ⟨fun h => (by cases h), hRn.mono ?_⟩
    rintro e W3 ⟨rfl, hx3⟩
    gi_wp2_with fail
    go_end0
    exact ⟨⟨_, rfl⟩, .inr ⟨HAll.out, hx3⟩⟩
  ·obtain ⟨i, hi⟩ : ∃ i : Nat, Lib.indexByte R.data.toList 47 = i := ⟨(Lib.indexByte R.data.toList 47).toNat, by omega⟩
   have hlt : i < R.size := by
    have := index_lt R.data.toList 47
    simp at this
    omega
   have HAll : Hid ((parts s.data.toList).all legal = (legal (R.extract 0 i).data.toList && (parts (R.extract (i + 1) R.size).data.toList).all legal)) := by
    show _ = _
    rw [HA.out, parts_cut hi, take_is, drop_is]
    rfl
   rw [hi] at HI
   have hi0 : ¬ (i : Int) < 0 := by omega
   have hi1 : (i : Int) ≤ R.size := by omega
   have hi2 : (i : Int) + 1 ≤ R.size := by omega
   have hps : (R.extract 0 i).size ≤ 238 := by rw [ByteArray.size_extract]; omega
   have hqs : Hid ((R.extract (i + 1) R.size).size < R.size ∧ (R.extract (i + 1) R.size).size ≤ 238) := by
    show _ ∧ _
    rw [ByteArray.size_extract]; omega
   clear hneg hi
   cases hl : legal (R.extract 0 i).data.toList with
   | true =>
    rw [hl] at HAll
    obtain ⟨fn, tmps, assign, body, hy, hRn⟩ := HY.out (R.extract 0 i) wr Hj.out hps hl
    gi_wp2_with (refine ⟨trivial, fun h => (by cases h), (callsIn_wide.2 (HI.out _)).mono ?_⟩; rintro e w1 ⟨rfl, h9⟩; replace h9 := h9.symm; subst h9)
    refine ⟨fun h => (by cases h), hRn.mono ?_⟩
    rintro e W3 ⟨rfl, rfl⟩
    have HX2 := hide (HX.out.set (.string (R.extract (i + 1) R.size)))
    have hk1 := hide ((grownBy_setCell' W3 b2 (.string (R.extract (i + 1) R.size))).cell hc1 (fun e => h12 (Option.some.inj e)))
    have hk3 := hide ((grownBy_setCell' W3 b2 (.string (R.extract (i + 1) R.size))).cell hc3 (fun e => h32 (Option.some.inj e)))
    have HE := hide HX.out.cell
    clear hRn hy
    gi_wp2_with fail
    go_roundw
    case rel => exact ⟨R.extract (i + 1) R.size, hqs.out.2, HX2.out, HJ.out _ _ Hj.out, hk1.out, hk3.out, by rw [HAll.out]; rfl⟩
    case measure =>
     have e1 := HX2.out.cell
     have e2 := HE.out
     simp only [e1, e2]
     exact hqs.out.1
   | false =>
    rw [hl] at HAll
    obtain ⟨fn, tmps, assign, body, hy, hRn⟩ := HN.out (R.extract 0 i) wr Hj.out hps hl
    gi_wp2_with (refine ⟨trivial, fun h => (by cases h), (callsIn_wide.2 (HI.out _)).mono ?_⟩; rintro e w1 ⟨rfl, h9⟩; replace h9 := h9.symm; subst h9)
    refine ⟨fun h => (by cases h), hRn.mono ?_⟩
    rintro e W3 ⟨rfl, hx3⟩
    gi_wp2_with fail
    refine bodyPost_ret (results_none rfl _ _ _) rfl ?_
    exact ⟨⟨_, rfl⟩, .inr ⟨HAll.out, hx3⟩⟩
end Go.Proofs.YtnbhchdaobimmaaGreatDoor
/- Contract: the program's word on what may be a path. -/
namespace Go.Proofs.YtnbhchdaobimmaaGreatDoor
open Go.RowKit Go.Names Go.Shelf
attribute [local go_sem] Oper.semAt_some
theorem put_back {W : World} {l : Nat} {o : Obj} (o1 : Obj) (h : W.heap[l]? = some o) : (W.putObj l o1).putObj l o = W := by
 obtain ⟨hl, he⟩ := Array.getElem?_eq_some_iff.1 h
 unfold World.putObj
 congr 1
 apply Array.ext_getElem?
 intro i
 rw [Array.getElem?_setIfInBounds, Array.getElem?_setIfInBounds]
 by_cases e : l = i
 ·subst e
  simp [hl, he]
 ·simp [e]
/-- A range over a function, at its first step: the iterator is called where the loop's record is laid. -/
theorem range_open {F : Fence} {n : Nat} {P : Program} {g : Operand} {ps : Array Tmp} {assign body : Code} {Q : Exit → Act → World → Prop} {a : Act} {w : World} (hro : F.round = none) {gf : Nat} {lb : Array Value}
  (hg : a.eval g = .func (.func gf) #[] lb) (hFg : F.fn gf) (eg : ∀ args w, (callFunc gf args).run P w = .ok (.enter gf args) w) (h1 : F.depth.isSome = true → 1 ≤ n)
  (h : ∀ fn, F.fn fn → ∀ r : LoopState → Option Code → Loop, (r = fun st pe => { state := st, pending := pe, fn, tmps := a.tmps, params := ps, assign, body, defers := w.heap.size }) →
   CallsIn F (n - 1) P gf (#[.func (.yield (w.heap.size + 1)) #[] #[]] ++ lb) ((w.alloc (.deferred (some []))).alloc (.loop (r .ready none))) (rangePost F n P (w.heap.size + 1) Q { a with defers := { target := .collected w.heap.size, args := #[] } :: a.defers })) :
  (Code.rangeFunc g ps assign body).wpIn F n P Q a w := by
 refine wpIn_rangeFunc fun fn hfn => ?_
 obtain ⟨r, hr⟩ : ∃ r : LoopState → Option Code → Loop, r = fun st pe => { state := st, pending := pe, fn, tmps := a.tmps, params := ps, assign, body, defers := w.heap.size } := ⟨_, rfl⟩
 have hc := h fn hfn r hr
 have he : (Instr.enterLoop fn a.tmps ps assign body F.round).run P w = .ok (w.heap.size + 1, [{ target := .collected w.heap.size, args := #[] }]) ((w.alloc (.deferred (some []))).alloc (.loop (r .ready none))) := by
  rw [hro, hr]
  exact run_enterLoop_outer fn a.tmps ps assign body
 generalize (w.alloc (.deferred (some []))).alloc (.loop (r .ready none)) = W1 at hc he
 clear hr h
 have e1 : (resolve a.eval (rangeCall g (w.heap.size + 1)) 0).run P W1 = .ok { target := .fn (.func gf) lb, args := #[.func (.yield (w.heap.size + 1)) #[] #[]] } W1 := by
  simp only [resolve, hg]
  simp [go_sem]
 have e2 : (invoke (.fn (.func gf) lb) #[.func (.yield (w.heap.size + 1)) #[] #[]]).run P W1 = .ok (.enter gf (#[.func (.yield (w.heap.size + 1)) #[] #[]] ++ lb)) W1 := by
  simp [invoke, go_sem, eg]
 refine ⟨_, _, W1, _, W1, gf, _, W1, he, e1, ?_, e2, h1, hc⟩
 intro f' hf'
 simp [Target.leads] at hf'
 exact hf' ▸ hFg
set_option maxHeartbeats 4000000 in
set_option maxRecDepth 100000 in
theorem path_any (s : ByteArray) (w : World) (hs : s.size ≤ 500) :
  Calls Tryz.prog 100 #[.string s] w fun e w' => e = .returned (.bool (pathB s.data.toList)) ∧ Below w.heap.size w w' := by
 have hsz : s.data.toList.length = s.size := by simp
 by_cases hbig : 238 < s.size
 ·have hb : pathB s.data.toList = false := by unfold pathB; rw [hsz, decide_eq_false (by omega)]; rfl
  rw [hb]
  have hbi : (238 : Int) < s.size := by omega
  go_enter Tryz.func100, Tryz.ntmps100
  go_wp2
  refine bodyPost_ret (v := .bool false) (by simp [results, Tryz.f100, go_sem]) rfl ?_
  exact ⟨rfl, (Below.refl _ _).alloc (Nat.le_refl _) _⟩
 ·have hb : pathB s.data.toList = (parts s.data.toList).all legal := by unfold pathB; rw [hsz, decide_eq_true (by omega)]; rfl
  rw [hb]
  have hbi : ¬ (238 : Int) < s.size := by omega
  refine (callsIn_wide (n := 9)).1 ?_
  refine callsIn_of_wp_marks Tryz.func100 rfl trivial ?_ rfl
  simp only [Tryz.ntmps100, List.size_toArray, List.length_cons, List.length_nil, Nat.reduceAdd, Nat.reduceSub, Array.replicate_succ, Array.replicate_zero, List.push_toArray, List.append_toArray, List.nil_append, List.cons_append]
  have HS := hide (fun w1 => splitSeq_any s w1)
  gi_wp2_with (refine ⟨trivial, (callsIn_wide.2 (HS.out _)).mono ?_⟩; rintro e w1 ⟨rfl, rfl⟩)
  obtain ⟨W0, hW0⟩ : ∃ W0, (((w.alloc (.cells #[.bool false] 4)).alloc (.cells #[.string s] 9)).alloc (.cells #[.string ⟨#[47]⟩] 9)).alloc (.cells #[.int .i64 0] 3) = W0 := ⟨_, rfl⟩
  have hs0 : W0.heap.size = w.heap.size + 4 := by rw [← hW0]; simp
  have kB : Below w.heap.size w W0 := by rw [← hW0]; exact ((((Below.refl _ w).alloc (Nat.le_refl _) _).alloc (by simp) _).alloc (by simp; omega) _).alloc (by simp; omega) _
  have b0 : Boxed W0 w.heap.size 4 (.bool false) := by rw [← hW0]; exact (((Boxed.new w 4 _).alloc _).alloc _).alloc _
  have b1 : Boxed W0 (w.heap.size + 1) 9 (.string s) := by
   rw [← hW0]
   have := (((Boxed.new (w.alloc (.cells #[.bool false] 4)) 9 (.string s)).alloc (.cells #[.string ⟨#[47]⟩] 9)).alloc (.cells #[.int .i64 0] 3))
   rwa [World.size_alloc] at this
  have b2 : Boxed W0 (w.heap.size + 1 + 1) 9 (.string ⟨#[47]⟩) := by
   rw [← hW0]
   have := ((Boxed.new ((w.alloc (.cells #[.bool false] 4)).alloc (.cells #[.string s] 9)) 9 (.string ⟨#[47]⟩)).alloc (.cells #[.int .i64 0] 3))
   rwa [World.size_alloc, World.size_alloc] at this
  have b3 : Boxed W0 (w.heap.size + 1 + 1 + 1) 3 (.int .i64 0) := by
   rw [← hW0]
   have := (Boxed.new (((w.alloc (.cells #[.bool false] 4)).alloc (.cells #[.string s] 9)).alloc (.cells #[.string ⟨#[47]⟩] 9)) 3 (.int .i64 0))
   rwa [World.size_alloc, World.size_alloc, World.size_alloc] at this
  rw [hW0]
  clear hW0
  refine range_open rfl rfl trivial (enters_of Tryz.func151 (by kernel_rfl) rfl) (fun h => by cases h) ?_
  intro fn hfn r hrec
  obtain ⟨W1, hW1⟩ : ∃ W1, (W0.alloc (.deferred (some []))).alloc (.loop (r .ready none)) = W1 := ⟨_, rfl⟩
  have hL1 : W1.heap[W0.heap.size + 1]? = some (.loop (r .ready none)) := by
   rw [← hW1]; have := World.alloc_heap_new (W0.alloc (.deferred (some []))) (.loop (r .ready none)); rwa [World.size_alloc] at this
  have hD1 : W1.heap[W0.heap.size]? = some (.deferred (some [])) := by
   rw [← hW1]; exact (Below.heap_alloc _ _ _ (by simp)).trans (World.alloc_heap_new W0 _)
  have kB1 : Below w.heap.size w W1 := by rw [← hW1]; exact (kB.alloc kB.size _).alloc (by simp; omega) _
  have d0 : Boxed W1 w.heap.size 4 (.bool false) := by rw [← hW1]; exact (b0.alloc _).alloc _
  have d1 : Boxed W1 (w.heap.size + 1) 9 (.string s) := by rw [← hW1]; exact (b1.alloc _).alloc _
  have d2 : Boxed W1 (w.heap.size + 1 + 1) 9 (.string ⟨#[47]⟩) := by rw [← hW1]; exact (b2.alloc _).alloc _
  have d3 : Boxed W1 (w.heap.size + 1 + 1 + 1) 3 (.int .i64 0) := by rw [← hW1]; exact (b3.alloc _).alloc _
  rw [hW1]
  have HREC := hide hrec
  have HFN := hide hfn
  have HKB := hide kB1
  clear hW1 b0 b1 b2 b3 kB hrec hfn kB1
  have hDz : w.heap.size + 4 ≤ W0.heap.size := by omega
  clear hs0
  generalize W0.heap.size = D at *
  refine (seq_in s (by omega) (D + 1) 8 (w.heap.size + 1 + 1) (w.heap.size + 1) (w.heap.size + 1 + 1 + 1)
   (fun W => W.heap[D + 1]? = some (.loop (r .ready none)) ∧ W.heap[D]? = some (.deferred (some [])) ∧ Boxed W w.heap.size 4 (.bool false) ∧ Below w.heap.size w W)
   (fun W => W.heap[D + 1]? = some (.loop (r .done (some .ret))) ∧ W.heap[D]? = some (.deferred (some [])) ∧ Boxed W w.heap.size 4 (.bool false) ∧ Below w.heap.size w W)
   W1 ?hY ?hN ?hJ ⟨hL1, hD1, d0, HKB.out⟩ d2.cell d1 d3.cell (by omega) (by omega)).mono ?_
  case hY =>
   rintro p W ⟨hl, hd, hx, hb⟩ hp hok
   have hl2 : (W.putObj (D + 1) (.loop { r .ready none with state := .busy })).heap[D + 1]? = some (.loop { r .ready none with state := .busy }) := World.putObj_heap_same (Array.getElem?_eq_some_iff.1 hl).1
   have hpb := put_back (.loop { r .ready none with state := .busy }) hl
   have HE := hide (run_endRound (P := Tryz.prog) none hl2)
   have HB := hide (run_beginRound (P := Tryz.prog) hl (by rw [HREC.out]))
   have hy := run_yield (P := Tryz.prog) (args := #[.string p]) hl (by rw [HREC.out]; rfl)
   rw [HREC.out] at hy
   refine ⟨_, _, _, _, hy, roundIn_of_wpIn HFN.out ?_⟩
   have HPB := hide hpb
   have HLg := hide (fun w1 => legal_any p w1 (by omega))
   rw [hok] at HLg
   clear hy hpb hl hd hx hb
   gi_wp2
   refine ⟨_, HB.out, ?_⟩
   gi_wp2_with (refine ⟨trivial, (callsIn_wide.2 (HLg.out _)).mono ?_⟩; rintro e w1 ⟨rfl, h9⟩; replace h9 := h9.symm; subst h9)
   refine ⟨_, _, HE.out, rfl, ?_⟩
   have e3 : ({ ({ r .ready none with state := .busy } : Loop) with state := if (none : Option Code).isNone then .ready else .done, pending := none } : Loop) = r .ready none := by rw [HREC.out]; rfl
   rw [e3]
   exact HPB.out
  case hN =>
   rintro p W ⟨hl, hd, hx, hb⟩ hp hok
   have hll := (Array.getElem?_eq_some_iff.1 hl).1
   have hl2 : (W.putObj (D + 1) (.loop { r .ready none with state := .busy })).heap[D + 1]? = some (.loop { r .ready none with state := .busy }) := World.putObj_heap_same hll
   have hgp := grownBy_putObj' W (D + 1) (.loop { r .ready none with state := .busy })
   have hx2 := hx.kept hgp (by intro e; have := Option.some.inj e; omega)
   have hd2 := (hgp.block _ (Array.getElem?_eq_some_iff.1 hd).1 (by intro e; have := Option.some.inj e; omega)).trans hd
   have hb2 : Below w.heap.size w (W.putObj (D + 1) (.loop { r .ready none with state := .busy })) := hb.grown hgp hb.size (fun k e => by cases e; omega)
   have HB := hide (run_beginRound (P := Tryz.prog) hl (by rw [HREC.out]))
   have hy := run_yield (P := Tryz.prog) (args := #[.string p]) hl (by rw [HREC.out]; rfl)
   rw [HREC.out] at hy
   refine ⟨_, _, _, _, hy, roundIn_of_wpIn HFN.out ?_⟩
   have HLg := hide (fun w1 => legal_any p w1 (by omega))
   rw [hok] at HLg
   clear hy hl hd hx hb hgp hll
   generalize W.putObj (D + 1) (.loop { r .ready none with state := .busy }) = Wb at *
   have hgs := grownBy_setCell' Wb w.heap.size (.bool false)
   have hl3 := (hgs.block _ (Array.getElem?_eq_some_iff.1 hl2).1 (by intro e; have := Option.some.inj e; omega)).trans hl2
   have hd3 := (hgs.block _ (Array.getElem?_eq_some_iff.1 hd2).1 (by intro e; have := Option.some.inj e; omega)).trans hd2
   have hx3 := hx2.set (.bool false)
   have hb3 := hb2.setCell (p := ⟨w.heap.size, 0, none⟩) (Nat.le_refl _) (.bool false)
   have hcb := hx2.cell
   have hfb := hx2.frozen
   have HE := hide (run_endRound (P := Tryz.prog) (some .ret) hl3)
   have HALL := hide (And.intro hl3 (And.intro hd3 (And.intro hx3 hb3)))
   clear hl3 hd3 hx3 hb3 hgs hl2 hx2 hd2 hb2
   gi_wp2
   refine ⟨_, HB.out, ?_⟩
   gi_wp2_with (refine ⟨trivial, (callsIn_wide.2 (HLg.out _)).mono ?_⟩; rintro e w1 ⟨rfl, h9⟩; replace h9 := h9.symm; subst h9)
   refine ⟨_, _, HE.out, rfl, ?_⟩
   obtain ⟨hl3, hd3, hx3, hb3⟩ := HALL.out
   have hll := (Array.getElem?_eq_some_iff.1 hl3).1
   have e3 : ({ ({ r .ready none with state := .busy } : Loop) with state := if (some Code.ret : Option Code).isNone then .ready else .done, pending := some .ret } : Loop) = r .done (some .ret) := by rw [HREC.out]; rfl
   rw [e3]
   have hgp := grownBy_putObj' (Wb.setCell ⟨w.heap.size, 0, none⟩ (.bool false)) (D + 1) (.loop (r .done (some .ret)))
   exact ⟨World.putObj_heap_same hll, (hgp.block _ (Array.getElem?_eq_some_iff.1 hd3).1 (by intro e; have := Option.some.inj e; omega)).trans hd3, hx3.kept hgp (by intro e; have := Option.some.inj e; omega), hb3.grown hgp hb3.size (fun k e => by cases e; omega)⟩
  case hJ =>
   rintro W v ⟨hl, hd, hx, hb⟩
   have hg := grownBy_setCell' W (w.heap.size + 1) v
   exact ⟨(hg.block _ (Array.getElem?_eq_some_iff.1 hl).1 (by intro e; have := Option.some.inj e; omega)).trans hl, (hg.block _ (Array.getElem?_eq_some_iff.1 hd).1 (by intro e; have := Option.some.inj e; omega)).trans hd, hx.kept hg (by intro e; have := Option.some.inj e; omega), hb.setCell (p := ⟨w.heap.size + 1, 0, none⟩) (by simp) _⟩
  ·rintro e W ⟨⟨v, rfl⟩, (⟨hall, hl, hd, hx, hb⟩ | ⟨hall, hl, hd, hx, hb⟩)⟩
   ·obtain ⟨Wf, hWf⟩ : ∃ Wf, Wf = W.putObj (D + 1) (.loop { r .ready none with state := .exhausted }) := ⟨_, rfl⟩
    have he : (Instr.endLoop (D + 1)).run Tryz.prog W = .ok (none) Wf := by
     have := run_endLoop (P := Tryz.prog) hl (by rw [HREC.out]; simp)
     have e : (r .ready none).pending = none := by rw [HREC.out]
     rw [hWf, this]
     exact congrArg (fun q => Result.ok q (W.putObj (D + 1) (.loop { r .ready none with state := .exhausted }))) e
    have hgp := grownBy_putObj' W (D + 1) (.loop { r .ready none with state := .exhausted })
    rw [← hWf] at hgp
    have hx4 := hx.kept hgp (by intro e; have := Option.some.inj e; omega)
    have hd4 := (hgp.block _ (Array.getElem?_eq_some_iff.1 hd).1 (by intro e; have := Option.some.inj e; omega)).trans hd
    have hb4 : Below w.heap.size w Wf := hb.grown hgp hb.size (fun k e => by cases e; omega)
    refine ⟨none, Wf, he, ?_⟩
    clear he hl hd hx hb hgp hWf
    have hc4 := hx4.cell
    have hf4 := hx4.frozen
    have HALL := hide hall
    have HB4 := hide hb4
    have HX4 := hide hx4
    have HD4 := hide hd4
    clear hall hb4 hx4 hd4 hs hsz hbig hb
    gi_wp2
    have hgs := grownBy_setCell' Wf w.heap.size (.bool true)
    have hK' := (hgs.block _ (Array.getElem?_eq_some_iff.1 HD4.out).1 (by intro e; have := Option.some.inj e; omega)).trans HD4.out
    refine ⟨by simp, .inl ⟨_, _, rfl, run_takeDeferred hK', ?_⟩⟩
    have hc5 := ((HX4.out.set (.bool true)).kept (grownBy_putObj' _ D (.deferred none)) (by intro e; have := Option.some.inj e; omega)).cell
    refine ⟨.bool true, ?_, by rw [HALL.out], (HB4.out.setCell (p := ⟨w.heap.size, 0, none⟩) (Nat.le_refl _) (.bool true)).grown (grownBy_putObj' _ D (.deferred none)) (by have := HB4.out.size; simpa using this) (fun k e => by cases e; omega)⟩
    simp [results, Tryz.f100, go_sem, hc5]
   ·obtain ⟨Wf, hWf⟩ : ∃ Wf, Wf = W.putObj (D + 1) (.loop { r .done (some .ret) with state := .exhausted }) := ⟨_, rfl⟩
    have he : (Instr.endLoop (D + 1)).run Tryz.prog W = .ok (some Code.ret) Wf := by
     have := run_endLoop (P := Tryz.prog) hl (by rw [HREC.out]; simp)
     have e : (r .done (some .ret)).pending = some Code.ret := by rw [HREC.out]
     rw [hWf, this]
     exact congrArg (fun q => Result.ok q (W.putObj (D + 1) (.loop { r .done (some .ret) with state := .exhausted }))) e
    have hgp := grownBy_putObj' W (D + 1) (.loop { r .done (some .ret) with state := .exhausted })
    rw [← hWf] at hgp
    have hx4 := hx.kept hgp (by intro e; have := Option.some.inj e; omega)
    have hd4 := (hgp.block _ (Array.getElem?_eq_some_iff.1 hd).1 (by intro e; have := Option.some.inj e; omega)).trans hd
    have hb4 : Below w.heap.size w Wf := hb.grown hgp hb.size (fun k e => by cases e; omega)
    refine ⟨some Code.ret, Wf, he, ?_⟩
    clear he hl hd hx hb hgp hWf
    have hc4 := hx4.cell
    have hf4 := hx4.frozen
    have HALL := hide hall
    have HB4 := hide hb4
    have HX4 := hide hx4
    have HD4 := hide hd4
    clear hall hb4 hx4 hd4 hs hsz hbig hb
    gi_wp2
    refine ⟨by simp, .inl ⟨_, _, rfl, run_takeDeferred HD4.out, ?_⟩⟩
    have hc5 := (HX4.out.kept (grownBy_putObj' _ D (.deferred none)) (by intro e; have := Option.some.inj e; omega)).cell
    refine ⟨.bool false, ?_, by rw [HALL.out], HB4.out.grown (grownBy_putObj' _ D (.deferred none)) HB4.out.size (fun k e => by cases e; omega)⟩
    simp [results, Tryz.f100, go_sem, hc5]
end Go.Proofs.YtnbhchdaobimmaaGreatDoor
/- Contracts: a path, cut at its last /. -/
namespace Go.Proofs.YtnbhchdaobimmaaGreatDoor
open Go.RowKit Go.Names Go.Shelf
set_option maxRecDepth 100000 in
set_option maxHeartbeats 800000 in
theorem split_any (s : ByteArray) (w : World) (hs : s.size ≤ 1000) :
  Calls Tryz.prog 101 #[.string s] w fun e w' => e = .returned (.tuple #[.string (splitB s).1, .string (splitB s).2]) ∧ Below w.heap.size w w' := by
 have HC := hide (Any.strings_LastIndexByte lastByteL s 47 (by omega) w)
 unfold Lib.lastIndexByte at HC
 rw [lastIdx_is] at HC
 unfold splitB
 cases hl : lastTo s s.size with
 | none =>
  rw [hl] at HC
  go_enter Tryz.func101, Tryz.ntmps101
  go_wp2_with (go_at_call 124; refine HC.out.mono ?_; rintro e w1 ⟨rfl, rfl⟩)
  go_ret2
  exact ⟨rfl, Below.refl _ _⟩
 | some i =>
  rw [hl] at HC
  have hi := lastTo_lt s s.size i hl
  have hi1 : ¬ (i : Int) < 0 := by omega
  have hi2 : (i : Int) ≤ s.size := by omega
  have hi3 : (i : Int) + 1 ≤ s.size := by omega
  go_enter Tryz.func101, Tryz.ntmps101
  go_wp2_with (go_at_call 124; refine HC.out.mono ?_; rintro e w1 ⟨rfl, rfl⟩)
  go_region
  go_wp2
  go_ret2
  exact ⟨by go_num, (Below.refl _ _).drew⟩
end Go.Proofs.YtnbhchdaobimmaaGreatDoor
/- Contract: whether a path may be, and its folder is there. -/
namespace Go.Pln
open Go.RowKit Go.Img Go.Names
def placedB (l : List Fi) (s : ByteArray) : Bool := pathB s.data.toList && ((splitB s).1.toList.isEmpty || (lkP l ((splitB s).1.data.toList, true)).isSome)
end Go.Pln
namespace Go.Proofs.YtnbhchdaobimmaaGreatDoor
open Go.RowKit Go.Img Go.Pln Go.Shelf Go.Rws Go.Names
attribute [local go_sem] Oper.semAt_some
set_option maxHeartbeats 4000000 in
set_option maxRecDepth 100000 in
theorem placed_any (l : List Fi) (u : Value) (s : ByteArray) (w : World) (hl : RowsAt Fi.cs 5 w u l) (hn : l.length ≤ 100000) (hs : s.size ≤ 500) :
  Calls Tryz.prog 68 #[u, .string s] w fun e w' => e = .returned (.bool (placedB l s)) ∧ Below w.heap.size w w' := by
 have HP := hide (path_any s w hs)
 have HS := hide (fun v => split_any s v (by omega))
 obtain ⟨A, hA⟩ : ∃ A, A = (splitB s).1 := ⟨_, rfl⟩
 obtain ⟨B, hB⟩ : ∃ B, B = (splitB s).2 := ⟨_, rfl⟩
 obtain ⟨b, hb⟩ : ∃ b, b = pathB s.data.toList := ⟨_, rfl⟩
 have HR : Hid (placedB l s = (b && (A.toList.isEmpty || (lkP l (A.data.toList, true)).isSome))) := by
  show _ = _
  rw [hb, hA]
  rfl
 rw [← hA, ← hB] at HS
 rw [← hb] at HP
 have eA : (⟨A.data.toList.toArray⟩ : ByteArray) = A := by simp
 have HH := hide (fun v (k : Below w.heap.size w v) => hasPl_any l u (A.data.toList, true) v (hl.below k) hn)
 simp only [eA] at HH
 rw [HR.out]
 obtain ⟨h, hh⟩ : ∃ h, h = (lkP l (A.data.toList, true)).isSome := ⟨_, rfl⟩
 rw [← hh] at HH ⊢
 clear hA hB hb eA hl hh HR
 obtain ⟨c, hc⟩ : ∃ c, A.toList.isEmpty = c := ⟨_, rfl⟩
 rw [hc]
 go_enter Tryz.func68, Tryz.ntmps68
 cases b with
 | false =>
  go_wp2_with (go_at_call 100; refine HP.out.mono ?_; rintro e w1 ⟨rfl, k1⟩; have K1 := hide k1; clear k1 HP)
  go_ret
  exact ⟨rfl, K1.out⟩
 | true =>
  go_upto_region 4 with (first
   | (go_at_call 100; refine HP.out.mono ?_; rintro e w1 ⟨rfl, k1⟩; have K1 := hide k1; clear k1 HP)
   | (go_at_call 101; refine (HS.out _).mono ?_; rintro e w2 ⟨rfl, k2⟩; have K2 := hide (K1.out.trans (k2.mono K1.out.size)); clear k2 HS))
  cases c with
  | true =>
   have hc2 : A.toList = [] := List.isEmpty_iff.1 hc
   go_wp2_with fail
   go_ret
   exact ⟨rfl, K2.out⟩
  | false =>
   have hc2 : ¬ A.toList = [] := fun e => by rw [e] at hc; cases hc
   have HH2 := hide (HH.out w2 K2.out)
   go_wp2_with (go_at_call 67; refine HH2.out.mono ?_; rintro e w3 ⟨rfl, k3⟩; have K3 := hide (K2.out.trans (k3.mono K2.out.size)); clear k3 HH2)
   go_ret
   exact ⟨by first | rfl | simp, K3.out⟩
end Go.Proofs.YtnbhchdaobimmaaGreatDoor
/- Contract: whether a step may be done. -/
namespace Go.Pln
open Go.RowKit Go.Img Go.Names
def mayB (l : List Fi) (k : Int) (s : ByteArray) : Bool :=
 if k = 1 then (lkP l (s.data.toList, false)).isSome && placedB l s
 else if k = 2 then (lkP l (s.data.toList, true)).isSome && placedB l s && !fullB l s
 else if k = 3 then !(lkP l (s.data.toList, false)).isSome && (!(lkP l (s.data.toList, true)).isSome && placedB l s)
 else if k = 4 then !(lkP l (s.data.toList, true)).isSome && placedB l s
 else false
end Go.Pln
namespace Go.Proofs.YtnbhchdaobimmaaGreatDoor
open Go.RowKit Go.Img Go.Pln Go.Shelf Go.Rws Go.Names
attribute [local go_sem] Oper.semAt_some
/-- What lies there while a step is looked at. -/
def Ms (g5 g6 : Nat) (k : Int) (s d : ByteArray) (w W : World) : Prop :=
 W.heap[g5]? = some (.cells #[.string s, .bool false] 91 (0, 0)) ∧ W.heap[g6]? = some (.cells #[.string s, .bool true] 91 (0, 0)) ∧ W.heap[w.heap.size]? = some (.cells #[.int .i64 k, .string s, .string d] 37 (0, 0)) ∧ Below w.heap.size w W
theorem Ms.step {g5 g6 : Nat} {k : Int} {s d : ByteArray} {w W W' : World} (h : Ms g5 g6 k s d w W) (q : Below W.heap.size W W') : Ms g5 g6 k s d w W' := by
 have e : ∀ {g : Nat} {o : Obj}, W.heap[g]? = some o → W'.heap[g]? = some o := fun {g o} h => (q.block g (Array.getElem?_eq_some_iff.1 h).1).trans h
 exact ⟨e h.1, e h.2.1, e h.2.2.1, h.2.2.2.trans (q.mono h.2.2.2.size)⟩
theorem Ms.path {g5 g6 : Nat} {k : Int} {s d : ByteArray} {w W : World} (h : Ms g5 g6 k s d w W) : W.cell? ⟨w.heap.size, 1, none⟩ = some (.string s) := (cell_of_row _ _ _ _ _ _ h.2.2.1).trans rfl
theorem Ms.kind {g5 g6 : Nat} {k : Int} {s d : ByteArray} {w W : World} (h : Ms g5 g6 k s d w W) : W.cell? ⟨w.heap.size, 0, none⟩ = some (.int .i64 k) := (cell_of_row _ _ _ _ _ _ h.2.2.1).trans rfl
theorem rows3 (w : World) (A B C : Obj) : ((((w.alloc A).alloc B).alloc C).drew).heap[w.heap.size]? = some A ∧ ((((w.alloc A).alloc B).alloc C).drew).heap[w.heap.size + 1]? = some B ∧ ((((w.alloc A).alloc B).alloc C).drew).heap[w.heap.size + 1 + 1]? = some C ∧ Below w.heap.size w ((((w.alloc A).alloc B).alloc C).drew) := by
 have k1 := (Below.refl _ w).alloc (Nat.le_refl _) A
 have k2 := (Below.refl _ (w.alloc A)).alloc (Nat.le_refl _) B
 have k3 := ((Below.refl _ ((w.alloc A).alloc B)).alloc (Nat.le_refl _) C).drew
 have s1 : (w.alloc A).heap.size = w.heap.size + 1 := by simp
 have s2 : ((w.alloc A).alloc B).heap.size = w.heap.size + 1 + 1 := by simp
 have n1 := heap_alloc_new w A
 have n2 := heap_alloc_new (w.alloc A) B
 have n3 := heap_alloc_new ((w.alloc A).alloc B) C
 rw [s1] at n2
 rw [s2] at n3
 exact ⟨(k3.block _ (by omega)).trans ((k2.block _ (by omega)).trans n1), (k3.block _ (by omega)).trans n2, n3, (k1.trans (k2.mono k1.size)).trans (k3.mono (by omega))⟩
set_option maxHeartbeats 4000000 in
set_option maxRecDepth 100000 in
theorem may_any (l : List Fi) (u : Value) (k : Int) (s d : ByteArray) (w : World) (hl : RowsAt Fi.cs 5 w u l) (hn : l.length ≤ 100000) (hs : s.size ≤ 500) :
  Calls Tryz.prog 37 #[u, .agg #[.int .i64 k, .string s, .string d]] w fun e w' => e = .returned (.bool (mayB l k s)) ∧ Below w.heap.size w w' := by
 have eA : (⟨s.data.toList.toArray⟩ : ByteArray) = s := by simp
 have HF := hide (fun v (q : Below w.heap.size w v) => hasPl_any l u (s.data.toList, false) v (hl.below q) hn)
 have HD := hide (fun v (q : Below w.heap.size w v) => hasPl_any l u (s.data.toList, true) v (hl.below q) hn)
 have HP := hide (fun v (q : Below w.heap.size w v) => placed_any l u s v (hl.below q) hn hs)
 have HU := hide (fun v (q : Below w.heap.size w v) => full_any l u s v (hl.below q) hn (by omega))
 simp only [eA] at HF HD
 unfold mayB
 obtain ⟨bf, hbf⟩ : ∃ b, b = (lkP l (s.data.toList, false)).isSome := ⟨_, rfl⟩
 obtain ⟨bd, hbd⟩ : ∃ b, b = (lkP l (s.data.toList, true)).isSome := ⟨_, rfl⟩
 obtain ⟨bp, hbp⟩ : ∃ b, b = placedB l s := ⟨_, rfl⟩
 obtain ⟨bu, hbu⟩ : ∃ b, b = fullB l s := ⟨_, rfl⟩
 rw [← hbf] at HF ⊢
 rw [← hbd] at HD ⊢
 rw [← hbp] at HP ⊢
 rw [← hbu] at HU ⊢
 clear hbf hbd hbp hbu eA hl
 have kz := (Below.refl _ w).alloc (Nat.le_refl _) (.cells #[.int .i64 k, .string s, .string d] 37)
 have HB := hide (And.intro (heap_alloc_new w (.cells #[.int .i64 k, .string s, .string d] 37)) kz)
 have c1 : (w.alloc (.cells #[.int .i64 k, .string s, .string d] 37)).cell? ⟨w.heap.size, 1, none⟩ = some (.string s) := (cell_of_row _ _ _ _ _ _ HB.out.1).trans rfl
 clear kz
 go_enter Tryz.func37, Tryz.ntmps37
 go_upto_region 1 with fail
 go_cut [5, 6] (fun v5 v6 wx => ∃ g5 g6, v5 = .pointer (some ⟨g5, 0, none⟩) ∧ v6 = .pointer (some ⟨g6, 0, none⟩) ∧ Hid (Ms g5 g6 k s d w wx))
 case first =>
  go_region
  ·go_wp2_with fail
   go_meet
   obtain ⟨r1, r2, r3, r4⟩ := rows3 w (.cells #[.int .i64 k, .string s, .string d] 37) (.cells #[.string s, .bool false] 91) (.cells #[.string s, .bool true] 91)
   exact ⟨_, _, rfl, rfl, r2, r3, r1, r4⟩
  ·go_wp2_with fail
   go_meet
   obtain ⟨r1, r2, r3, r4⟩ := rows3 w (.cells #[.int .i64 k, .string s, .string d] 37) (.cells #[.string s, .bool true] 91) (.cells #[.string s, .bool false] 91)
   exact ⟨_, _, rfl, rfl, r3, r2, r1, r4⟩
 clear c1 HB
 obtain ⟨g5, g6, rfl, rfl, HX⟩ := hcut
 have ck := HX.out.kind
 have cp := HX.out.path
 by_cases h1 : k = 1
 ·subst h1
  go_upto_region 7 with fail
  clear ck
  cases bf with
  | false =>
   go_wp2_with (first | (refine wpList_load_row rfl 91 _ rfl _ rfl _ _ _ _ HX.out.1 Tryz.underlying91 rfl (by kernel_rfl) ?_) | (go_at_call 67; refine (HF.out _ HX.out.2.2.2).mono ?_; rintro e wy ⟨rfl, q⟩; replace HX := hide (HX.out.step q); have cy := HX.out.path; clear q HF))
   go_ret
   exact ⟨by simp, HX.out.2.2.2⟩
  | true =>
   go_wp2_with (first | (refine wpList_load_row rfl 91 _ rfl _ rfl _ _ _ _ HX.out.1 Tryz.underlying91 rfl (by kernel_rfl) ?_) | (go_at_call 67; refine (HF.out _ HX.out.2.2.2).mono ?_; rintro e wy ⟨rfl, q⟩; replace HX := hide (HX.out.step q); have cy := HX.out.path; clear q HF) | (go_at_call 68; refine (HP.out _ HX.out.2.2.2).mono ?_; rintro e wy ⟨rfl, q⟩; replace HX := hide (HX.out.step q); have cy := HX.out.path; clear q HP))
   go_ret
   exact ⟨by simp, HX.out.2.2.2⟩
 ·by_cases h2 : k = 2
  ·subst h2
   go_upto_region 8 with fail
   clear ck
   cases bd with
   | false =>
    go_wp2_with (first | (refine wpList_load_row rfl 91 _ rfl _ rfl _ _ _ _ HX.out.2.1 Tryz.underlying91 rfl (by kernel_rfl) ?_) | (go_at_call 67; refine (HD.out _ HX.out.2.2.2).mono ?_; rintro e wy ⟨rfl, q⟩; replace HX := hide (HX.out.step q); have cy := HX.out.path; clear q HD))
    go_ret
    exact ⟨by simp, HX.out.2.2.2⟩
   | true =>
    cases bp with
    | false =>
     go_wp2_with (first | (refine wpList_load_row rfl 91 _ rfl _ rfl _ _ _ _ HX.out.2.1 Tryz.underlying91 rfl (by kernel_rfl) ?_) | (go_at_call 67; refine (HD.out _ HX.out.2.2.2).mono ?_; rintro e wy ⟨rfl, q⟩; replace HX := hide (HX.out.step q); have cy := HX.out.path; clear q HD) | (go_at_call 68; refine (HP.out _ HX.out.2.2.2).mono ?_; rintro e wy ⟨rfl, q⟩; replace HX := hide (HX.out.step q); have cy := HX.out.path; clear q HP))
     go_ret
     exact ⟨by simp, HX.out.2.2.2⟩
    | true =>
     go_wp2_with (first | (refine wpList_load_row rfl 91 _ rfl _ rfl _ _ _ _ HX.out.2.1 Tryz.underlying91 rfl (by kernel_rfl) ?_) | (go_at_call 67; refine (HD.out _ HX.out.2.2.2).mono ?_; rintro e wy ⟨rfl, q⟩; replace HX := hide (HX.out.step q); have cy := HX.out.path; clear q HD) | (go_at_call 68; refine (HP.out _ HX.out.2.2.2).mono ?_; rintro e wy ⟨rfl, q⟩; replace HX := hide (HX.out.step q); have cy := HX.out.path; clear q HP) | (go_at_call 69; refine (HU.out _ HX.out.2.2.2).mono ?_; rintro e wy ⟨rfl, q⟩; replace HX := hide (HX.out.step q); have cy := HX.out.path; clear q HU))
     go_ret
     exact ⟨by simp, HX.out.2.2.2⟩
  ·by_cases h3 : k = 3
   ·subst h3
    go_upto_region 9 with fail
    clear ck
    cases bf with
    | true =>
     go_wp2_with (first | (refine wpList_load_row rfl 91 _ rfl _ rfl _ _ _ _ HX.out.1 Tryz.underlying91 rfl (by kernel_rfl) ?_) | (go_at_call 67; refine (HF.out _ HX.out.2.2.2).mono ?_; rintro e wy ⟨rfl, q⟩; replace HX := hide (HX.out.step q); have cy := HX.out.path; clear q HF))
     go_ret
     exact ⟨by simp, HX.out.2.2.2⟩
    | false =>
     cases bd with
     | true =>
      go_upto_region 11 with (first | (refine wpList_load_row rfl 91 _ rfl _ rfl _ _ _ _ HX.out.1 Tryz.underlying91 rfl (by kernel_rfl) ?_) | (go_at_call 67; refine (HF.out _ HX.out.2.2.2).mono ?_; rintro e wy ⟨rfl, q⟩; replace HX := hide (HX.out.step q); have cy := HX.out.path; clear q HF))
      go_wp2_with (first | (refine wpList_load_row rfl 91 _ rfl _ rfl _ _ _ _ HX.out.2.1 Tryz.underlying91 rfl (by kernel_rfl) ?_) | (go_at_call 67; refine (HD.out _ HX.out.2.2.2).mono ?_; rintro e wy ⟨rfl, q⟩; replace HX := hide (HX.out.step q); have cy := HX.out.path; clear q HD))
      go_ret
      exact ⟨by simp, HX.out.2.2.2⟩
     | false =>
      go_upto_region 11 with (first | (refine wpList_load_row rfl 91 _ rfl _ rfl _ _ _ _ HX.out.1 Tryz.underlying91 rfl (by kernel_rfl) ?_) | (go_at_call 67; refine (HF.out _ HX.out.2.2.2).mono ?_; rintro e wy ⟨rfl, q⟩; replace HX := hide (HX.out.step q); have cy := HX.out.path; clear q HF))
      go_wp2_with (first | (refine wpList_load_row rfl 91 _ rfl _ rfl _ _ _ _ HX.out.2.1 Tryz.underlying91 rfl (by kernel_rfl) ?_) | (go_at_call 67; refine (HD.out _ HX.out.2.2.2).mono ?_; rintro e wy ⟨rfl, q⟩; replace HX := hide (HX.out.step q); have cy := HX.out.path; clear q HD) | (go_at_call 68; refine (HP.out _ HX.out.2.2.2).mono ?_; rintro e wy ⟨rfl, q⟩; replace HX := hide (HX.out.step q); have cy := HX.out.path; clear q HP))
      go_ret
      exact ⟨by simp, HX.out.2.2.2⟩
   ·by_cases h4 : k = 4
    ·subst h4
     go_upto_region 11 with fail
     clear ck
     cases bd with
     | true =>
      go_wp2_with (first | (refine wpList_load_row rfl 91 _ rfl _ rfl _ _ _ _ HX.out.2.1 Tryz.underlying91 rfl (by kernel_rfl) ?_) | (go_at_call 67; refine (HD.out _ HX.out.2.2.2).mono ?_; rintro e wy ⟨rfl, q⟩; replace HX := hide (HX.out.step q); have cy := HX.out.path; clear q HD))
      go_ret
      exact ⟨by simp, HX.out.2.2.2⟩
     | false =>
      go_wp2_with (first | (refine wpList_load_row rfl 91 _ rfl _ rfl _ _ _ _ HX.out.2.1 Tryz.underlying91 rfl (by kernel_rfl) ?_) | (go_at_call 67; refine (HD.out _ HX.out.2.2.2).mono ?_; rintro e wy ⟨rfl, q⟩; replace HX := hide (HX.out.step q); have cy := HX.out.path; clear q HD) | (go_at_call 68; refine (HP.out _ HX.out.2.2.2).mono ?_; rintro e wy ⟨rfl, q⟩; replace HX := hide (HX.out.step q); have cy := HX.out.path; clear q HP))
      go_ret
      exact ⟨by simp, HX.out.2.2.2⟩
    ·go_wp2_with fail
     go_ret
     exact ⟨by simp, HX.out.2.2.2⟩
end Go.Proofs.YtnbhchdaobimmaaGreatDoor
/- Lists of files in which each path may be and has its folder; of no program text. -/
namespace Go.Pln
open Go.RowKit Go.Img Go.Names
/-- The folder of a path. -/
def up (p : List UInt8) : List UInt8 := (splitB ⟨p.toArray⟩).1.data.toList
theorem ba_list (p : List UInt8) : (⟨p.toArray⟩ : ByteArray).data.toList = p := by simp
theorem up_cut (p : List UInt8) : (up p = [] ∧ (47 ∉ p ∨ ∃ n, p = 47 :: n)) ∨ ∃ n, p = up p ++ 47 :: n ∧ 47 ∉ n ∧ up p ≠ [] := by
 unfold up splitB
 cases h : lastTo (⟨p.toArray⟩ : ByteArray) (⟨p.toArray⟩ : ByteArray).size with
 | none =>
  have := split_flat h
  rw [ba_list] at this
  exact .inl ⟨rfl, .inl this⟩
 | some i =>
  obtain ⟨h1, h2⟩ := split_deep h
  rw [ba_list] at h1 h2
  dsimp only
  rw [extract_list, ba_list, List.drop_zero, Nat.sub_zero]
  by_cases h3 : p.take i = []
  ·refine .inl ⟨h3, .inr ⟨p.drop (i + 1), ?_⟩⟩
   rw [h3] at h1
   exact h1
  ·exact .inr ⟨_, h1, h2, h3⟩
theorem path_head (n : List UInt8) : pathB (47 :: n) = false := by
 have h : (parts (47 :: n)) = [] :: parts n := by
  conv => lhs; unfold parts
  rw [if_pos rfl]
 unfold pathB
 rw [h, List.all_cons]
 have h2 : legal [] = false := rfl
 rw [h2]
 simp
theorem lkP_is {l : List Fi} {p : Plc} : (lkP l p).isSome = true ↔ ∃ f ∈ l, pk f = p := by
 cases h : lkP l p with
 | none =>
  constructor
  ·intro h2; cases h2
  ·rintro ⟨f, hf, e⟩; exact absurd e (lkP_none h f hf)
 | some f => exact ⟨fun _ => ⟨f, lkP_some h⟩, fun _ => rfl⟩
theorem has_is {l : List Fi} {f : Fi} : Pln.has l f = true ↔ ∃ g ∈ l, pk g = pk f := lkP_is
theorem has_no {l : List Fi} {f : Fi} : Pln.has l f = false ↔ ∀ g ∈ l, pk g ≠ pk f := by
 constructor
 ·intro h g hg e
  have := has_is.2 ⟨g, hg, e⟩
  rw [h] at this
  cases this
 ·intro h
  cases e : Pln.has l f with
  | false => rfl
  | true => obtain ⟨g, hg, e2⟩ := has_is.1 e; exact absurd e2 (h g hg)
theorem placed_iff {l : List Fi} {p : List UInt8} : placedB l ⟨p.toArray⟩ = true ↔ pathB p = true ∧ (up p = [] ∨ ∃ d ∈ l, pk d = (up p, true)) := by
 unfold placedB
 rw [ba_list, Bool.and_eq_true, Bool.or_eq_true, ByteArray.toList_eq, List.isEmpty_iff, lkP_is]
 rfl
theorem full_iff {l : List Fi} {p : List UInt8} : fullB l ⟨p.toArray⟩ = true ↔ ∃ f ∈ l, ∃ r, f.path = p ++ 47 :: r := by
 have e : ((⟨p.toArray⟩ : ByteArray) ++ (⟨#[47]⟩ : ByteArray)).data.toList = p ++ [47] := by simp
 have hz : ((⟨p.toArray⟩ : ByteArray) ++ (⟨#[47]⟩ : ByteArray)).size = p.length + 1 := by
  have h1 : ((⟨p.toArray⟩ : ByteArray) ++ (⟨#[47]⟩ : ByteArray)).size = ((⟨p.toArray⟩ : ByteArray) ++ (⟨#[47]⟩ : ByteArray)).data.toList.length := by rw [Array.length_toList]; rfl
  rw [h1, e]
  simp
 unfold fullB
 rw [List.any_eq_true]
 have hb : ∀ f : Fi, begB ((⟨p.toArray⟩ : ByteArray) ++ (⟨#[47]⟩ : ByteArray)) f = true ↔ ∃ r, f.path = p ++ 47 :: r := by
  intro f
  have hs : (⟨f.path.toArray⟩ : ByteArray).size = f.path.length := by show f.path.toArray.size = _; simp
  unfold begB prefB
  rw [Bool.and_eq_true, decide_eq_true_eq, hz, hs, beq_iff_eq, ByteArray.toList_eq, ByteArray.toList_eq, e, extract_list, ba_list, List.drop_zero, Nat.sub_zero]
  constructor
  ·rintro ⟨_, h⟩
   refine ⟨f.path.drop (p.length + 1), ?_⟩
   conv => lhs; rw [← List.take_append_drop (p.length + 1) f.path, h]
   simp
  ·rintro ⟨r, h⟩
   rw [h]
   refine ⟨by simp, ?_⟩
   rw [show p ++ 47 :: r = (p ++ [47]) ++ r by simp, show p.length + 1 = (p ++ [47]).length by simp, List.take_left]
 constructor
 ·rintro ⟨f, hf, h⟩; exact ⟨f, hf, (hb f).1 h⟩
 ·rintro ⟨f, hf, h⟩; exact ⟨f, hf, (hb f).2 h⟩
/-- An image in which each path may be, and has its folder. -/
structure Good (l : List Fi) : Prop where
 one : Img1 l
 at_ : ∀ f ∈ l, placedB l ⟨f.path.toArray⟩ = true
theorem Good.above {l : List Fi} (h : Good l) : ∀ (n : Nat) (f : Fi) (s r : List UInt8), f ∈ l → f.path.length ≤ n → f.path = s ++ 47 :: r → ∃ d ∈ l, pk d = (s, true)
 | 0, f, s, r, _, hn, e => by rw [e] at hn; simp at hn
 | n + 1, f, s, r, hf, hn, e => by
  obtain ⟨h1, h2⟩ := placed_iff.1 (h.at_ f hf)
  rcases up_cut f.path with ⟨_, h4⟩ | ⟨m, h3, h4, h5⟩
  ·exfalso
   rcases h4 with h4 | ⟨m, h4⟩
   ·rw [e] at h4; simp at h4
   ·rw [h4, path_head] at h1; cases h1
  ·rcases h2 with h2 | ⟨d, hd, h2⟩
   ·exact absurd h2 h5
   ·have e2 : s ++ 47 :: r = up f.path ++ 47 :: m := by rw [← e, ← h3]
    rcases List.append_eq_append_iff.1 e2 with ⟨a, e3, e4⟩ | ⟨a, e3, e4⟩
    ·cases a with
     | nil => rw [List.append_nil] at e3; rw [e3] at h2; exact ⟨d, hd, h2⟩
     | cons c a =>
      simp only [List.cons_append, List.cons.injEq] at e4
      rw [← e4.1] at e3
      have hdp : d.path = s ++ 47 :: a := by rw [← e3]; exact congrArg Prod.fst h2
      refine Good.above h n d s a hd ?_ hdp
      have h6 : d.path = up f.path := congrArg Prod.fst h2
      have h7 := congrArg List.length h3
      rw [List.length_append, List.length_cons, ← h6] at h7
      omega
    ·cases a with
     | nil => rw [List.append_nil] at e3; rw [← e3] at h2; exact ⟨d, hd, h2⟩
     | cons c a =>
      exfalso
      simp only [List.cons_append, List.cons.injEq] at e4
      rw [e4.2] at h4
      simp at h4
theorem cmp_below (s r : List UInt8) : cmpP s (s ++ 47 :: r) < 0 := by
 have h := cmpP_app s [] (47 :: r)
 rw [List.append_nil] at h
 rw [h]
 show (-1 : Int) < 0
 decide
theorem path_okB {p : List UInt8} (h : okPath p = true) : pathB p = true := by
 unfold okPath at h
 unfold pathB
 rw [← pts_parts]
 exact h
end Go.Pln
/- One step behind the other: the first of the steps between two images may be done, and the rest are the steps from what stands there then; of no program text. -/
namespace Go.Pln
open Go.RowKit Go.Img Go.Names
def Pt.dir (s : Pt) : Bool := s.kind == 2 || s.kind == 3
def Pt.new (s : Pt) : Fi := ⟨s.path, s.dir, 0, s.dg, 0⟩
def rest (l : List Fi) (p : Plc) : List Fi := l.filter fun f => !(pk f == p)
/-- What stands there behind a step. -/
def doF (l : List Fi) (s : Pt) : List Fi := if s.kind = 3 ∨ s.kind = 4 then insF (rest l (s.path, s.dir)) s.new else rest l (s.path, s.dir)
theorem mem_rest {l : List Fi} {p : Plc} {f : Fi} : f ∈ rest l p ↔ f ∈ l ∧ pk f ≠ p := by
 unfold rest
 rw [List.mem_filter]
 simp
theorem Img1.rest {l : List Fi} (h : Img1 l) (p : Plc) : Img1 (rest l p) :=
 ⟨h.strict.filter _, h.srt.filter _, h.nodup.filter _, fun x hx y hy e => h.once x (mem_rest.1 hx).1 y (mem_rest.1 hy).1 e, fun f hf => h.dirs f (mem_rest.1 hf).1⟩
theorem Img1.ins {l : List Fi} (h : Img1 l) {x : Fi} (hx : ∀ y ∈ l, y.path ≠ x.path) (hd : x.dir = true → x.dg = ⟨#[]⟩) : Img1 (insF l x) := by
 have hs := srt_insF h.srt x
 have hn : (insF l x).Nodup := (insF_perm l x).nodup_iff.2 (List.nodup_cons.2 ⟨fun hm => hx x hm rfl, h.nodup⟩)
 have ho : ∀ a ∈ insF l x, ∀ b ∈ insF l x, a.path = b.path → a = b := by
  intro a ha b hb e
  rcases mem_insF.1 ha with h1 | h1 <;> rcases mem_insF.1 hb with h2 | h2
  ·rw [h1, h2]
  ·exact absurd (by rw [← e, h1]) (hx b h2)
  ·exact absurd (by rw [e, h2]) (hx a h1)
  ·exact h.once a h1 b h2 e
 refine ⟨strict_of hs hn ho, hs, hn, ho, fun f hf hfd => ?_⟩
 rcases mem_insF.1 hf with h1 | h1
 ·rw [h1] at hfd ⊢; exact hd hfd
 ·exact h.dirs f h1 hfd
theorem pk_path {a b : Fi} (h : pk a = pk b) : a.path = b.path := congrArg Prod.fst h
theorem pk_dir {a b : Fi} (h : pk a = pk b) : a.dir = b.dir := congrArg Prod.snd h
theorem Img1.same {l : List Fi} (h : Img1 l) {x y : Fi} (hx : x ∈ l) (hy : y ∈ l) (e : pk x = pk y) : x = y := h.once x hx y hy (pk_path e)
theorem Img1.lk {l : List Fi} (h : Img1 l) {p : Plc} {f : Fi} : lkP l p = some f ↔ f ∈ l ∧ pk f = p := by
 constructor
 ·exact lkP_some
 ·rintro ⟨h1, rfl⟩; exact h.look h1
theorem lk_same {l l' : List Fi} (_h : Img1 l) (h' : Img1 l') {p : Plc} (hm : ∀ y, pk y = p → (y ∈ l' ↔ y ∈ l)) : lkP l' p = lkP l p := by
 cases e : lkP l p with
 | some f =>
  obtain ⟨h1, h2⟩ := lkP_some e
  exact h'.lk.2 ⟨(hm f h2).2 h1, h2⟩
 | none =>
  cases e2 : lkP l' p with
  | none => rfl
  | some f =>
   obtain ⟨h1, h2⟩ := lkP_some e2
   exact absurd h2 (lkP_none e f ((hm f h2).1 h1))
/-- The one that stands first among those that are chosen goes: the others stay chosen. -/
theorem chosen_rest {L F : List Fi} {f : Fi} {q : Fi → Bool} (hn : L.Nodup) (ho : ∀ x ∈ L, ∀ y ∈ L, x.path = y.path → x = y) (h : L.filter q = f :: F) : (L.filter fun y => q y && !(pk y == pk f)) = F := by
 have e : (L.filter fun y => q y && !(pk y == pk f)) = (L.filter q).filter fun y => !(pk y == pk f) := by rw [List.filter_filter]; congr 1; funext y; exact Bool.and_comm _ _
 rw [e, h]
 have hN : (f :: F).Nodup := by rw [← h]; exact hn.filter _
 have hf : f ∈ L := (List.mem_filter.1 (by rw [h]; simp : f ∈ L.filter q)).1
 rw [List.filter_cons_of_neg (by simp), List.filter_eq_self]
 intro y hy
 have hyL : y ∈ L := (List.mem_filter.1 (by rw [h]; simp [hy] : y ∈ L.filter q)).1
 have : pk y ≠ pk f := fun e2 => by
  have e3 := ho y hyL f hf (pk_path e2)
  rw [e3] at hy
  exact (List.nodup_cons.1 hN).1 hy
 simp [this]
theorem first_chosen {L F : List Fi} {f : Fi} {q : Fi → Bool} (h : L.filter q = f :: F) : f ∈ L ∧ q f = true := by
 have := List.mem_filter.1 (by rw [h]; simp : f ∈ L.filter q)
 exact this
/-- Another place's lookups stay. -/
theorem lk_other {now now' : List Fi} (hn : Img1 now) (hn' : Img1 now') {pl : Plc} (hm : ∀ y, pk y ≠ pl → (y ∈ now' ↔ y ∈ now)) {p : Plc} (h : p ≠ pl) : lkP now' p = lkP now p := lk_same hn hn' fun y e => hm y (by rw [e]; exact h)
theorem gon_dir (f : Fi) : (gon f).dir = f.dir := by
 unfold gon Pt.dir
 cases f.dir <;> rfl
theorem doF_gon (l : List Fi) (f : Fi) : doF l (gon f) = rest l (pk f) := by
 unfold doF
 rw [gon_dir]
 rw [if_neg ?_]
 ·rfl
 ·show ¬ ((if f.dir then (2 : Int) else 1) = 3 ∨ (if f.dir then (2 : Int) else 1) = 4)
  cases f.dir <;> simp
theorem doF_mkd (l : List Fi) (f : Fi) : doF l (mkd f) = insF (rest l (f.path, true)) ⟨f.path, true, 0, ⟨#[]⟩, 0⟩ := by
 unfold doF
 rw [if_pos (.inl rfl)]
 rfl
theorem doF_put (l : List Fi) (f : Fi) : doF l (put f) = insF (rest l (f.path, false)) ⟨f.path, false, 0, f.dg, 0⟩ := by
 unfold doF
 rw [if_pos (.inr rfl)]
 rfl
theorem may_gon (l : List Fi) (f : Fi) : mayB l (gon f).kind ⟨f.path.toArray⟩ = ((lkP l (pk f)).isSome && placedB l ⟨f.path.toArray⟩ && !(f.dir && fullB l ⟨f.path.toArray⟩)) := by
 unfold mayB gon pk
 rw [ba_list]
 cases f.dir <;> simp
/-- Each folder of the wanted stands there, or comes. -/
structure Ways (now want : List Fi) : Prop where
 n : Good now
 w : Good want
theorem no_other {want : List Fi} (hw : Good want) {f z : Fi} (hf : f ∈ want) (hz : z ∈ want) (h : z.path = f.path) : z.dir = f.dir := by rw [hw.one.once z hz f hf h]
theorem betA_nil {now want : List Fi} (h : betA now want = []) : ∀ y ∈ now, Pln.has want y = true := by
 unfold betA at h
 rw [List.map_eq_nil_iff, List.filter_eq_nil_iff] at h
 intro y hy
 have := h y (List.mem_reverse.2 hy)
 simpa using this
theorem betB_nil {now want : List Fi} (h : betB now want = []) : ∀ g ∈ want, g.dir = true → Pln.has now g = true := by
 unfold betB at h
 rw [List.map_eq_nil_iff, List.filter_eq_nil_iff] at h
 intro g hg hd
 have := h g hg
 unfold isB at this
 rw [hd] at this
 simpa using this
theorem placed_in {l : List Fi} (h : Good l) {f : Fi} (hf : f ∈ l) : pathB f.path = true ∧ (up f.path = [] ∨ ∃ d ∈ l, pk d = (up f.path, true)) := placed_iff.1 (h.at_ f hf)
theorem up_below {p : List UInt8} (_h : pathB p = true) (h2 : up p ≠ []) : ∃ n, p = up p ++ 47 :: n := by
 rcases up_cut p with ⟨h3, _⟩ | ⟨n, h3, _⟩
 ·exact absurd h3 h2
 ·exact ⟨n, h3⟩
/-- The first kind: one goes. -/
theorem step_gone {now want F : List Fi} {f : Fi} (hn : Good now) (hw : Good want) (h : (now.reverse.filter fun y => !Pln.has want y) = f :: F) :
  mayB now (gon f).kind ⟨f.path.toArray⟩ = true ∧ Good (doF now (gon f)) ∧ betw (doF now (gon f)) want = F.map gon ++ betB now want ++ betC now want := by
 obtain ⟨hf, hnf⟩ := first_chosen h
 have hfn : f ∈ now := List.mem_reverse.1 hf
 have hno : Pln.has want f = false := by simpa using hnf
 have hother : ∀ g ∈ want, pk g ≠ pk f := has_no.1 hno
 have hempty : f.dir = true → ∀ y ∈ now, ∀ r, y.path ≠ f.path ++ 47 :: r := by
  intro hd y hy r e
  have hlt : cmpP f.path y.path < 0 := by rw [e]; exact cmp_below _ _
  have hyw : Pln.has want y = true := by
   cases hq : Pln.has want y with
   | true => rfl
   | false =>
    exfalso
    have hm : y ∈ f :: F := by rw [← h]; exact List.mem_filter.2 ⟨List.mem_reverse.2 hy, by rw [hq]; rfl⟩
    have hs : (f :: F).Pairwise fun a b => cmpF b a < 0 := by rw [← h]; exact (List.pairwise_reverse.2 hn.one.strict).filter _
    rcases List.mem_cons.1 hm with h1 | h1
    ·rw [h1] at e
     have := congrArg List.length e
     simp at this
    ·have h2 := (List.pairwise_cons.1 hs).1 y h1
     unfold cmpF at h2
     rw [cmpP_swap] at h2
     omega
  obtain ⟨z, hz, e2⟩ := has_is.1 hyw
  obtain ⟨d, hdw, e3⟩ := hw.above _ z f.path r hz (Nat.le_refl _) (by rw [pk_path e2, e])
  exact hother d hdw (by rw [e3]; unfold pk; rw [hd])
 have h1 : Img1 (doF now (gon f)) := by rw [doF_gon]; exact hn.one.rest _
 have hm : ∀ y, pk y ≠ pk f → (y ∈ doF now (gon f) ↔ y ∈ now) := fun y hy => by
  rw [doF_gon, mem_rest]
  exact ⟨fun h => h.1, fun h => ⟨h, hy⟩⟩
 refine ⟨?_, ⟨h1, ?_⟩, ?_⟩
 ·rw [may_gon, hn.one.look hfn, hn.at_ f hfn]
  have hfull : (f.dir && fullB now ⟨f.path.toArray⟩) = false := by
   cases hd : f.dir with
   | false => rfl
   | true =>
    cases hq : fullB now ⟨f.path.toArray⟩ with
    | false => rfl
    | true =>
     obtain ⟨y, hy, r, e⟩ := full_iff.1 hq
     exact absurd e (hempty hd y hy r)
  rw [hfull]
  rfl
 ·intro y hy
  have hy2 := hy
  rw [doF_gon, mem_rest] at hy2
  obtain ⟨hp, hu⟩ := placed_in hn hy2.1
  refine placed_iff.2 ⟨hp, ?_⟩
  rcases hu with hu | ⟨d, hd, hu⟩
  ·exact .inl hu
  ·by_cases hu0 : up y.path = []
   ·exact .inl hu0
   ·refine .inr ⟨d, (hm d fun e => ?_).2 hd, hu⟩
    obtain ⟨n, hn2⟩ := up_below hp hu0
    have hdd : f.dir = true := by rw [← pk_dir e]; exact congrArg Prod.snd hu
    have hdp : f.path = up y.path := by rw [← pk_path e]; exact congrArg Prod.fst hu
    exact hempty hdd y hy2.1 n (by rw [hdp]; exact hn2)
 ·unfold betw
  have eA : betA (doF now (gon f)) want = F.map gon := by
   unfold betA
   congr 1
   rw [doF_gon]
   unfold rest
   rw [← List.filter_reverse, List.filter_filter]
   have := chosen_rest (L := now.reverse) (by rw [List.nodup_iff_pairwise_ne, List.pairwise_reverse]; exact (List.nodup_iff_pairwise_ne.1 hn.one.nodup).imp fun h => h.symm) (fun x hx y hy => hn.one.once x (List.mem_reverse.1 hx) y (List.mem_reverse.1 hy)) h
   exact this
  have eB : betB (doF now (gon f)) want = betB now want := by
   unfold betB
   congr 1
   refine List.filter_congr fun g hg => ?_
   unfold isB Pln.has
   rw [lk_other hn.one h1 hm (hother g hg)]
  have eC : betC (doF now (gon f)) want = betC now want := by
   unfold betC
   congr 1
   refine List.filter_congr fun g hg => ?_
   unfold isC newer
   rw [lk_other hn.one h1 hm (hother g hg)]
  rw [eA, eB, eC]
/-- What all of the other kinds have in common: one comes. -/
theorem put_one {now : List Fi} (hn : Good now) {x : Fi} (hx : ∀ y ∈ now, y.path = x.path → pk y = pk x) (hd : x.dir = true → x.dg = ⟨#[]⟩) (hp : placedB now ⟨x.path.toArray⟩ = true) (hk : ∀ y ∈ now, y.dir = true → pk y ≠ pk x) :
  Good (insF (rest now (pk x)) x) ∧ (∀ y, pk y ≠ pk x → (y ∈ insF (rest now (pk x)) x ↔ y ∈ now)) ∧ lkP (insF (rest now (pk x)) x) (pk x) = some x := by
 have h1 : Img1 (insF (rest now (pk x)) x) := (hn.one.rest _).ins (fun y hy e => (mem_rest.1 hy).2 (hx y (mem_rest.1 hy).1 e)) hd
 have hm : ∀ y, pk y ≠ pk x → (y ∈ insF (rest now (pk x)) x ↔ y ∈ now) := fun y hy => by
  rw [mem_insF, mem_rest]
  constructor
  ·rintro (rfl | h)
   ·exact absurd rfl hy
   ·exact h.1
  ·exact fun h => .inr ⟨h, hy⟩
 have hkeep : ∀ {p : List UInt8}, placedB now ⟨p.toArray⟩ = true → placedB (insF (rest now (pk x)) x) ⟨p.toArray⟩ = true := by
  intro p h
  obtain ⟨h2, h3⟩ := placed_iff.1 h
  refine placed_iff.2 ⟨h2, ?_⟩
  rcases h3 with h3 | ⟨d, hdn, h3⟩
  ·exact .inl h3
  ·exact .inr ⟨d, (hm d (hk d hdn (congrArg Prod.snd h3))).2 hdn, h3⟩
 refine ⟨⟨h1, fun y hy => ?_⟩, hm, h1.lk.2 ⟨mem_insF.2 (.inl rfl), rfl⟩⟩
 rcases mem_insF.1 hy with rfl | hy
 ·exact hkeep hp
 ·exact hkeep (hn.at_ y (mem_rest.1 hy).1)
theorem mk_may (l : List Fi) (f : Fi) : mayB l (mkd f).kind ⟨f.path.toArray⟩ = (!(lkP l (f.path, false)).isSome && (!(lkP l (f.path, true)).isSome && placedB l ⟨f.path.toArray⟩)) := by
 unfold mayB mkd
 rw [ba_list]
 rfl
theorem put_may (l : List Fi) (f : Fi) : mayB l (put f).kind ⟨f.path.toArray⟩ = (!(lkP l (f.path, true)).isSome && placedB l ⟨f.path.toArray⟩) := by
 unfold mayB put
 rw [ba_list]
 rfl
theorem lk_no {l : List Fi} {p : Plc} (h : ∀ y ∈ l, pk y ≠ p) : (lkP l p).isSome = false := by
 cases e : (lkP l p).isSome with
 | false => rfl
 | true => obtain ⟨y, hy, e2⟩ := lkP_is.1 e; exact absurd e2 (h y hy)
/-- The third kind: a folder comes. -/
theorem step_made {now want F : List Fi} {f : Fi} (hn : Good now) (hw : Good want) (hA : betA now want = []) (h : want.filter (isB now) = f :: F) :
  mayB now (mkd f).kind ⟨f.path.toArray⟩ = true ∧ Good (doF now (mkd f)) ∧ betw (doF now (mkd f)) want = F.map mkd ++ betC now want := by
 obtain ⟨hf, hB⟩ := first_chosen h
 have hfd : f.dir = true := by unfold isB at hB; simp at hB; exact hB.1
 have hnf : Pln.has now f = false := by unfold isB at hB; simp at hB; exact hB.2
 have hpk : pk f = (f.path, true) := by unfold pk; rw [hfd]
 have hall := betA_nil hA
 have hpath : ∀ y ∈ now, y.path ≠ f.path := by
  intro y hy e
  obtain ⟨z, hz, e2⟩ := has_is.1 (hall y hy)
  have e3 := no_other hw hf hz (by rw [pk_path e2, e])
  exact has_no.1 hnf y hy (by unfold pk; rw [e, ← pk_dir e2, e3])
 have hpl : placedB now ⟨f.path.toArray⟩ = true := by
  obtain ⟨h1, h2⟩ := placed_in hw hf
  refine placed_iff.2 ⟨h1, ?_⟩
  rcases h2 with h2 | ⟨d, hd, h2⟩
  ·exact .inl h2
  ·by_cases hu0 : up f.path = []
   ·exact .inl hu0
   ·right
    have hdd : d.dir = true := congrArg Prod.snd h2
    have hdp : d.path = up f.path := congrArg Prod.fst h2
    have hdn : Pln.has now d = true := by
     cases hq : Pln.has now d with
     | true => rfl
     | false =>
      exfalso
      have hm : d ∈ f :: F := by rw [← h]; exact List.mem_filter.2 ⟨hd, by unfold isB; rw [hdd, hq]; rfl⟩
      obtain ⟨n, hn2⟩ := up_below h1 hu0
      have hlt : cmpP d.path f.path < 0 := by
       rw [hdp]
       conv => lhs; arg 2; rw [hn2]
       exact cmp_below _ _
      have hs : (f :: F).Pairwise fun a b => cmpF a b < 0 := by rw [← h]; exact hw.one.strict.filter _
      rcases List.mem_cons.1 hm with h4 | h4
      ·rw [h4, cmpP_self] at hlt; exact absurd hlt (by decide)
      ·have h5 := (List.pairwise_cons.1 hs).1 d h4
       unfold cmpF at h5
       rw [cmpP_swap] at h5
       omega
    obtain ⟨z, hz, e⟩ := has_is.1 hdn
    exact ⟨z, hz, by rw [e]; exact h2⟩
 obtain ⟨x, hx⟩ : ∃ x : Fi, x = ⟨f.path, true, 0, ⟨#[]⟩, 0⟩ := ⟨_, rfl⟩
 have hxp : pk x = pk f := by rw [hx, hpk]; rfl
 have hxx : x.path = f.path := by rw [hx]
 obtain ⟨hg, hm, hlk⟩ := put_one hn (x := x) (fun y hy e => absurd (by rw [e, hxx]) (hpath y hy)) (fun _ => by rw [hx]) (by rw [hxx]; exact hpl) (fun y hy _ e => hpath y hy (by rw [pk_path e, hxx]))
 have eD : doF now (mkd f) = insF (rest now (pk x)) x := by rw [doF_mkd, hxp, hpk, hx]
 rw [← eD] at hg hm hlk
 refine ⟨?_, hg, ?_⟩
 ·have h8 : ∀ b : Bool, (lkP now (f.path, b)).isSome = false := fun b => lk_no fun y hy e => hpath y hy (congrArg Prod.fst e : y.path = f.path)
  rw [mk_may, hpl, h8, h8]
  rfl
 ·have hlo : ∀ {p : Plc}, p ≠ pk f → lkP (doF now (mkd f)) p = lkP now p := fun {p} hp => lk_other hn.one hg.one hm (by rw [hxp]; exact hp)
  have eA : betA (doF now (mkd f)) want = [] := by
   unfold betA
   rw [List.map_eq_nil_iff, List.filter_eq_nil_iff]
   intro y hy
   have hw2 : Pln.has want y = true := by
    by_cases e : pk y = pk x
    ·exact has_is.2 ⟨f, hf, by rw [e, hxp]⟩
    ·exact hall y ((hm y e).1 (List.mem_reverse.1 hy))
   rw [hw2]
   simp
  have eB : betB (doF now (mkd f)) want = F.map mkd := by
   unfold betB
   congr 1
   rw [← chosen_rest hw.one.nodup hw.one.once h]
   refine List.filter_congr fun g hg2 => ?_
   unfold isB Pln.has
   by_cases e : pk g = pk f
   ·rw [e, ← hxp, hlk]
    simp
   ·rw [hlo e]
    simp [e]
  have eC : betC (doF now (mkd f)) want = betC now want := by
   unfold betC
   congr 1
   refine List.filter_congr fun g hg2 => ?_
   unfold isC newer
   cases hgd : g.dir with
   | true => rfl
   | false => rw [hlo (fun e => by have := pk_dir e; rw [hgd, hfd] at this; cases this)]
  unfold betw
  rw [eA, eB, eC]
  rfl
/-- The fourth kind: a file comes. -/
theorem step_put {now want F : List Fi} {f : Fi} (hn : Good now) (hw : Good want) (hA : betA now want = []) (hB : betB now want = []) (h : want.filter (isC now) = f :: F) :
  mayB now (put f).kind ⟨f.path.toArray⟩ = true ∧ Good (doF now (put f)) ∧ betw (doF now (put f)) want = F.map put := by
 obtain ⟨hf, hC⟩ := first_chosen h
 have hfd : f.dir = false := by unfold isC at hC; simp at hC; exact hC.1
 have hpk : pk f = (f.path, false) := by unfold pk; rw [hfd]
 have hall := betA_nil hA
 have hpath : ∀ y ∈ now, y.path = f.path → pk y = pk f := by
  intro y hy e
  obtain ⟨z, hz, e2⟩ := has_is.1 (hall y hy)
  have e3 := no_other hw hf hz (by rw [pk_path e2, e])
  unfold pk
  rw [e, ← pk_dir e2, e3]
 have hpl : placedB now ⟨f.path.toArray⟩ = true := by
  obtain ⟨h1, h2⟩ := placed_in hw hf
  refine placed_iff.2 ⟨h1, ?_⟩
  rcases h2 with h2 | ⟨d, hd, h2⟩
  ·exact .inl h2
  ·obtain ⟨z, hz, e⟩ := has_is.1 (betB_nil hB d hd (congrArg Prod.snd h2))
   exact .inr ⟨z, hz, by rw [e]; exact h2⟩
 obtain ⟨x, hx⟩ : ∃ x : Fi, x = ⟨f.path, false, 0, f.dg, 0⟩ := ⟨_, rfl⟩
 have hxp : pk x = pk f := by rw [hx, hpk]; rfl
 have hxx : x.path = f.path := by rw [hx]
 obtain ⟨hg, hm, hlk⟩ := put_one hn (x := x) (fun y hy e => by rw [hxp]; exact hpath y hy (by rw [e, hxx])) (fun e => by rw [hx] at e; cases e) (by rw [hxx]; exact hpl) (fun y hy hd e => by have := pk_dir e; rw [hd, hx] at this; cases this)
 have eD : doF now (put f) = insF (rest now (pk x)) x := by rw [doF_put, hxp, hpk, hx]
 rw [← eD] at hg hm hlk
 refine ⟨?_, hg, ?_⟩
 ·rw [put_may, hpl, lk_no fun y hy e => by have := hpath y hy (congrArg Prod.fst e); rw [e, hpk] at this; cases this]
  rfl
 ·have hlo : ∀ {p : Plc}, p ≠ pk f → lkP (doF now (put f)) p = lkP now p := fun {p} hp => lk_other hn.one hg.one hm (by rw [hxp]; exact hp)
  have eA : betA (doF now (put f)) want = [] := by
   unfold betA
   rw [List.map_eq_nil_iff, List.filter_eq_nil_iff]
   intro y hy
   have hw2 : Pln.has want y = true := by
    by_cases e : pk y = pk x
    ·exact has_is.2 ⟨f, hf, by rw [e, hxp]⟩
    ·exact hall y ((hm y e).1 (List.mem_reverse.1 hy))
   rw [hw2]
   simp
  have eB : betB (doF now (put f)) want = [] := by
   rw [← hB]
   unfold betB
   congr 1
   refine List.filter_congr fun g hg2 => ?_
   unfold isB Pln.has
   cases hgd : g.dir with
   | false => rfl
   | true => rw [hlo (fun e => by have := pk_dir e; rw [hgd, hfd] at this; cases this)]
  have eC : betC (doF now (put f)) want = F.map put := by
   unfold betC
   congr 1
   rw [← chosen_rest hw.one.nodup hw.one.once h]
   refine List.filter_congr fun g hg2 => ?_
   unfold isC newer
   by_cases e : pk g = pk f
   ·have eg : g = f := hw.one.same hg2 hf e
    rw [e, ← hxp, hlk, hx, eg]
    simp
   ·rw [hlo e]
    simp [e]
  unfold betw
  rw [eA, eB, eC]
  rfl
/-- The first of the steps may be done, and what stands there then has the rest of them. -/
theorem step_one {now want : List Fi} {s : Pt} {r : List Pt} (hn : Good now) (hw : Good want) (h : betw now want = s :: r) :
  mayB now s.kind ⟨s.path.toArray⟩ = true ∧ Good (doF now s) ∧ betw (doF now s) want = r := by
 cases hA : (now.reverse.filter fun y => !Pln.has want y) with
 | cons f F =>
  have e : betA now want = gon f :: F.map gon := by unfold betA; rw [hA]; rfl
  unfold betw at h
  rw [e] at h
  simp only [List.cons_append, List.cons.injEq] at h
  obtain ⟨rfl, rfl⟩ := h
  exact step_gone hn hw hA
 | nil =>
  have eA : betA now want = [] := by unfold betA; rw [hA]; rfl
  cases hB : want.filter (isB now) with
  | cons f F =>
   have e : betB now want = mkd f :: F.map mkd := by unfold betB; rw [hB]; rfl
   unfold betw at h
   rw [eA, e] at h
   simp only [List.nil_append, List.cons_append, List.cons.injEq] at h
   obtain ⟨rfl, rfl⟩ := h
   exact step_made hn hw eA hB
  | nil =>
   have eB : betB now want = [] := by unfold betB; rw [hB]; rfl
   cases hC : want.filter (isC now) with
   | cons f F =>
    have e : betC now want = put f :: F.map put := by unfold betC; rw [hC]; rfl
    unfold betw at h
    rw [eA, eB, e] at h
    simp only [List.nil_append, List.cons.injEq] at h
    obtain ⟨rfl, rfl⟩ := h
    exact step_put hn hw eA eB hC
   | nil =>
    have eC : betC now want = [] := by unfold betC; rw [hC]; rfl
    unfold betw at h
    rw [eA, eB, eC] at h
    cases h
end Go.Pln
