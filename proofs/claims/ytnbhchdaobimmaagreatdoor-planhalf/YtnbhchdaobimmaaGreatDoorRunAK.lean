/- Several texts in one: ImageShelf, ImageCmp, MoveKidsAll. -/
import Derived.Shelf.SlGeneric
import Derived.Shelf.SlSortCmp.NoneTotal
import Derived.Shelf.SlicesG.Cmp
import Derived.Test.YtnbhchdaobimmaaGreatDoorRows
import Derived.WalkKit
import Derived.Test.YtnbhchdaobimmaaGreatDoorRunAJ
import Derived.BigQuiet
import Derived.Deep.QuietTactic
import Derived.Lib.MinMax
import Derived.Test.YtnbhchdaobimmaaGreatDoorSortThree
import Derived.Test.YtnbhchdaobimmaaGreatDoorMoveKids
/- What the library's sorting by a comparison, its comparison of numbers, and its sorting of texts do, at this program: by the shelf's contracts. -/
namespace Go.Proofs.YtnbhchdaobimmaaGreatDoor
open Go.RowKit Go.Sort Go.Shelf
def sortFL_ren : Go.Shelf.Ren := ⟨fun | 6 => 26 | 15 => 62 | 14 => 61 | 28 => 97 | 29 => 98 | 20 => 89 | 21 => 90 | 22 => 91 | 23 => 92 | 24 => 93 | 25 => 94 | 26 => 95 | 27 => 96 | 46 => 117 | 47 => 118 | 48 => 119 | 49 => 120 | 50 => 121 | 57 => 141 | n => n, fun | 22 => 27 | 24 => 51 | 25 => 48 | 3 => 3 | 39 => 139 | 0 => 0 | 53 => 177 | 55 => 49 | 4 => 4 | 46 => 171 | 45 => 170 | 50 => 115 | 5 => 5 | 9 => 9 | 66 => 189 | 70 => 193 | 76 => 210 | 77 => 211 | n => n, fun | n => n⟩
theorem sortFL : Go.Proofs.SlLaysF0.n6 Tryz.prog sortFL_ren := {
 mixed := by kernel_rfl
 f6 := ⟨Tryz.f26.name, by decide, Tryz.func26.trans (congrArg some (by kernel_rfl))⟩
 f14 := ⟨Tryz.f61.name, by decide, Tryz.func61.trans (congrArg some (by kernel_rfl))⟩
 f15 := Tryz.func62.trans (congrArg some (by kernel_rfl))
 f20 := ⟨Tryz.f89.name, by decide, Tryz.func89.trans (congrArg some (by kernel_rfl))⟩
 f21 := ⟨Tryz.f90.name, by decide, Tryz.func90.trans (congrArg some (by kernel_rfl))⟩
 f22 := ⟨Tryz.f91.name, by decide, Tryz.func91.trans (congrArg some (by kernel_rfl))⟩
 f23 := ⟨Tryz.f92.name, by decide, Tryz.func92.trans (congrArg some (by kernel_rfl))⟩
 f24 := ⟨Tryz.f93.name, by decide, Tryz.func93.trans (congrArg some (by kernel_rfl))⟩
 f25 := ⟨Tryz.f94.name, by decide, Tryz.func94.trans (congrArg some (by kernel_rfl))⟩
 f26 := ⟨Tryz.f95.name, by decide, Tryz.func95.trans (congrArg some (by kernel_rfl))⟩
 f27 := ⟨Tryz.f96.name, by decide, Tryz.func96.trans (congrArg some (by kernel_rfl))⟩
 f28 := Tryz.func97.trans (congrArg some (by kernel_rfl))
 f29 := Tryz.func98.trans (congrArg some (by kernel_rfl))
 f46 := ⟨Tryz.f117.name, by decide, Tryz.func117.trans (congrArg some (by kernel_rfl))⟩
 f47 := Tryz.func118.trans (congrArg some (by kernel_rfl))
 f48 := Tryz.func119.trans (congrArg some (by kernel_rfl))
 f49 := ⟨Tryz.f120.name, by decide, Tryz.func120.trans (congrArg some (by kernel_rfl))⟩
 f50 := ⟨Tryz.f121.name, by decide, Tryz.func121.trans (congrArg some (by kernel_rfl))⟩
 f57 := ⟨Tryz.f141.name, by decide, Tryz.func141.trans (congrArg some (by kernel_rfl))⟩
 t0 := Tryz.underlying0
 a0 := Tryz.isAgg0
 z0 := Tryz.sizeOf0
 v0 := Tryz.zeroValue0
 t3 := Tryz.underlying3
 a3 := Tryz.isAgg3
 z3 := Tryz.sizeOf3
 v3 := Tryz.zeroValue3
 t4 := Tryz.underlying4
 a4 := Tryz.isAgg4
 z4 := Tryz.sizeOf4
 v4 := Tryz.zeroValue4
 t5 := Tryz.underlying5
 a5 := Tryz.isAgg5
 z5 := Tryz.sizeOf5
 v5 := Tryz.zeroValue5
 t9 := Tryz.underlying9
 a9 := Tryz.isAgg9
 z9 := Tryz.sizeOf9
 v9 := Tryz.zeroValue9
 t22 := Tryz.underlying27
 a22 := Tryz.isAgg27
 z22 := Tryz.sizeOf27
 v22 := Tryz.zeroValue27
 t25 := Tryz.underlying48
 a25 := Tryz.isAgg48
 z25 := Tryz.sizeOf48
 v25 := Tryz.zeroValue48
 t39 := Tryz.underlying139
 a39 := Tryz.isAgg139
 z39 := Tryz.sizeOf139
 v39 := Tryz.zeroValue139
 t45 := Tryz.underlying170
 a45 := Tryz.isAgg170
 z45 := Tryz.sizeOf170
 v45 := Tryz.zeroValue170
 t46 := Tryz.underlying171
 a46 := Tryz.isAgg171
 z46 := Tryz.sizeOf171
 v46 := Tryz.zeroValue171
 t50 := Tryz.underlying115
 a50 := Tryz.isAgg115
 z50 := Tryz.sizeOf115
 v50 := Tryz.zeroValue115
 t53 := Tryz.underlying177
 a53 := Tryz.isAgg177
 z53 := Tryz.sizeOf177
 v53 := Tryz.zeroValue177
 t55 := Tryz.underlying49
 a55 := Tryz.isAgg49
 z55 := Tryz.sizeOf49
 v55 := Tryz.zeroValue49
 t66 := Tryz.underlying189
 a66 := Tryz.isAgg189
 z66 := Tryz.sizeOf189
 v66 := Tryz.zeroValue189
 t70 := Tryz.underlying193
 a70 := Tryz.isAgg193
 z70 := Tryz.sizeOf193
 v70 := Tryz.zeroValue193
 t76 := Tryz.underlying210
 a76 := Tryz.isAgg210
 z76 := Tryz.sizeOf210
 v76 := Tryz.zeroValue210
 t77 := Tryz.underlying211
 a77 := Tryz.isAgg211
 z77 := Tryz.sizeOf211
 v77 := Tryz.zeroValue211 }
def cmpIL_ren : Go.Shelf.Ren := ⟨fun | 5 => 43 | 7 => 73 | n => n, fun | 22 => 3 | 3 => 3 | 4 => 4 | n => n, fun | n => n⟩
theorem cmpIL : Go.Proofs.SlLaysC2.n5 Tryz.prog cmpIL_ren := {
 mixed := by kernel_rfl
 f5 := ⟨Tryz.f43.name, by decide, Tryz.func43.trans (congrArg some (by kernel_rfl))⟩
 f7 := ⟨Tryz.f73.name, by decide, Tryz.func73.trans (congrArg some (by kernel_rfl))⟩
 t3 := Tryz.underlying3
 a3 := Tryz.isAgg3
 z3 := Tryz.sizeOf3
 v3 := Tryz.zeroValue3
 t4 := Tryz.underlying4
 a4 := Tryz.isAgg4
 z4 := Tryz.sizeOf4
 v4 := Tryz.zeroValue4
 t22 := Tryz.underlying3
 a22 := Tryz.isAgg3
 z22 := Tryz.sizeOf3
 v22 := Tryz.zeroValue3 }

end Go.Proofs.YtnbhchdaobimmaaGreatDoor
/- Contracts: a path of a name in a folder; two files by their paths. -/
theorem Go.old_alloc_ImageCmp (w : Go.World) (o : Go.Obj) (i : Nat) (h : i < w.heap.size) : (w.alloc o).heap[i]? = w.heap[i]? := by first | exact Go.heap_alloc_old w o i h | exact Go.heap_alloc_old w o h
namespace Go.Proofs.YtnbhchdaobimmaaGreatDoor
open Go.RowKit Go.Img Go.Shelf
attribute [local go_sem] Oper.semAt_some
set_option maxRecDepth 100000 in
theorem join_any (f s : List UInt8) (w : World) (hf : f.length ≤ 1000000) (hs : s.length ≤ 1000000) :
  Calls Tryz.prog 60 #[.string ⟨f.toArray⟩, .string ⟨s.toArray⟩] w fun e w' => e = .returned (.string ⟨(Img.join f s).toArray⟩) ∧ w' = w := by
 obtain ⟨X, hX⟩ : ∃ X : ByteArray, X = ⟨f.toArray⟩ := ⟨_, rfl⟩
 obtain ⟨S, hS⟩ : ∃ S : ByteArray, S = ⟨s.toArray⟩ := ⟨_, rfl⟩
 rw [← hX, ← hS]
 by_cases h : f = []
 ·have h1 : (X.toList == []) = true := by rw [hX, h, ByteArray.toList_eq]; rfl
  have HE : Hid (Img.join f s = s) := by show _ = _; unfold Img.join; rw [if_pos h]
  have HS := hide hS
  clear hX hS h
  go_enter Tryz.func60, Tryz.ntmps60
  go_wp2
  go_ret
  rw [HE.out, ← HS.out]
  exact ⟨rfl, rfl⟩
 ·have h1 : (X.toList == []) = false := by
   rw [beq_eq_false_iff_ne, hX, ByteArray.toList_eq]
   simpa using h
  have HE : Hid (Img.join f s = f ++ 47 :: s) := by show _ = _; unfold Img.join; rw [if_neg h]
  have HS := hide (And.intro hX hS)
  have hz : X.size ≤ 1000000 ∧ S.size ≤ 1000000 := by rw [hX, hS]; exact ⟨by show f.toArray.size ≤ _; simpa using hf, by show s.toArray.size ≤ _; simpa using hs⟩
  clear hX hS h
  go_enter Tryz.func60, Tryz.ntmps60
  go_wp2
  go_ret
  rw [HE.out, HS.out.1, HS.out.2]
  refine ⟨?_, rfl⟩
  have happ : ∀ a b : List UInt8, (⟨a.toArray⟩ : ByteArray) ++ ⟨b.toArray⟩ = ⟨(a ++ b).toArray⟩ := fun a b => ByteArray.ext (by rw [ByteArray.data_append]; simp)
  have e1 : (⟨f.toArray⟩ : ByteArray) ++ ⟨#[47]⟩ ++ ⟨s.toArray⟩ = ⟨(f ++ 47 :: s).toArray⟩ := by
   rw [show (⟨#[47]⟩ : ByteArray) = ⟨([47] : List UInt8).toArray⟩ from rfl, happ, happ, List.append_assoc]; rfl
  show Ending.returned (Value.string ((⟨f.toArray⟩ : ByteArray) ++ ⟨#[47]⟩ ++ ⟨s.toArray⟩)) = _
  rw [e1]
set_option maxRecDepth 100000 in
theorem rank_any (s : ByteArray) (i : Nat) (w : World) (hi : i ≤ s.size) :
  Calls Tryz.prog 44 #[.string s, .int .i64 i] w fun e w' => e = .returned (.int .i64 (rkH (s.data.toList.drop i))) ∧ w' = w := by
 by_cases h : i = s.size
 ·have h1 : ((i : Int) == s.size) = true := by rw [h]; simp
  have h2 : (i : Int) = s.size := by omega
  have HE := hide (rkH_end (a := s.data.toList) (i := i) (by simp; omega))
  clear h hi
  go_enter Tryz.func44, Tryz.ntmps44
  go_wp2
  go_ret
  rw [HE.out]
  exact ⟨rfl, rfl⟩
 ·have hil : i < s.size := by omega
  have h1 : ((i : Int) == s.size) = false := by rw [beq_eq_false_iff_ne]; omega
  have h2 : ¬ (i : Int) = s.size := by omega
  have h0 : (0 : Int) ≤ i := by omega
  have hI : (i : Int) < s.size := by omega
  have HE := hide (rkH_in (bs_get s i hil))
  clear h hi
  by_cases hc : s[i] = 47
  ·have hc1 : (s[i].toNat : Int) = 47 := by rw [hc]; rfl
   have HC := hide hc
   clear hc
   go_enter Tryz.func44, Tryz.ntmps44
   go_wp2
   go_ret
   rw [HE.out]
   unfold rkC
   rw [if_pos HC.out]
   exact ⟨rfl, rfl⟩
  ·have hc1 : ¬ (s[i].toNat : Int) = 47 := fun e => hc (UInt8.toNat_inj.1 (by show s[i].toNat = 47; omega))
   have HC := hide hc
   have hlt := s[i].toNat_lt
   clear hc
   go_enter Tryz.func44, Tryz.ntmps44
   go_wp2
   go_ret
   rw [HE.out]
   unfold rkC
   rw [if_neg HC.out]
   refine ⟨?_, rfl⟩
   first | rfl | (congr 2; omega)
set_option maxHeartbeats 4000000 in
set_option maxRecDepth 100000 in
theorem fcompare_any (x y : Fi) (w : World) (hx : x.path.length ≤ 1000) (hy : y.path.length ≤ 1000) :
  Calls Tryz.prog 17 #[.agg x.cs.toArray, .agg y.cs.toArray] w fun e w' => e = .returned (.int .i64 (cmpF x y)) ∧ ∃ n, w' = ((w.alloc (.cells x.cs.toArray 51)).alloc (.cells y.cs.toArray 51)).drewN n := by
 obtain ⟨xp, xd, xi, xg, xs⟩ := x
 obtain ⟨yp, yd, yi, yg, ys⟩ := y
 dsimp only at hx hy
 unfold cmpF Fi.cs
 dsimp only
 obtain ⟨X, hX⟩ : ∃ X : ByteArray, X = ⟨xp.toArray⟩ := ⟨_, rfl⟩
 obtain ⟨Y, hY⟩ : ∃ Y : ByteArray, Y = ⟨yp.toArray⟩ := ⟨_, rfl⟩
 have hXl : X.data.toList = xp := by rw [hX]
 have hYl : Y.data.toList = yp := by rw [hY]
 rw [← hX, ← hY, ← hXl, ← hYl]
 have hXs : X.size ≤ 1000 := by rw [hX]; show xp.toArray.size ≤ _; simpa using hx
 have hYs : Y.size ≤ 1000 := by rw [hY]; show yp.toArray.size ≤ _; simpa using hy
 clear hX hY hXl hYl hx hy xp yp
 obtain ⟨W1, hW1⟩ : ∃ W1, (w.alloc (.cells #[.string X, .bool xd, .int .u64 xi, .string xg, .int .i64 xs] 51)).alloc (.cells #[.string Y, .bool yd, .int .u64 yi, .string yg, .int .i64 ys] 51) = W1 := ⟨_, rfl⟩
 have c0 : W1.cell? ⟨w.heap.size, 0, none⟩ = some (.string X) := by rw [← hW1]; exact (cell_of_row _ _ _ _ _ _ ((Go.old_alloc_ImageCmp _ _ _ (by simp)).trans (heap_alloc_new w _))).trans rfl
 have c1 : W1.cell? ⟨w.heap.size + 1, 0, none⟩ = some (.string Y) := by rw [← hW1]; exact (cell_of_row _ _ _ _ _ _ (new_at (by simp) _)).trans rfl
 have hr1 := hide (fun i w' (h : i ≤ X.size) => rank_any X i w' h)
 have hr2 := hide (fun i w' (h : i ≤ Y.size) => rank_any Y i w' h)
 have hcc : Hid (∀ (a b : Int) (w' : World), Calls Tryz.prog 43 #[.int .i64 a, .int .i64 b] w' fun e w2 => e = .returned (.int .i64 (cmpI a b)) ∧ w2 = w') := fun a b w' => AnyG.cmp_Compare_int cmpIL a b w'
 have HW := hide hW1
 clear hW1
 go_enter Tryz.func17, Tryz.ntmps17
 go_upto_region 1 with fail
 rw [HW.out]
 go_wp2
 go_loopw [5] (fun v5 wr => ∃ i n : Nat, v5 = .int .i64 i ∧ i ≤ X.size ∧ i ≤ Y.size ∧ wr = W1.drewN n ∧ Hid (X.data.toList.take i = Y.data.toList.take i)) (fun v5 _ => 2000 - (intOf v5).toNat)
 case atStart => exact ⟨0, 0, rfl, Nat.zero_le _, Nat.zero_le _, rfl, rfl⟩
 case round =>
  obtain ⟨i, n, rfl, hiX, hiY, rfl, HT⟩ := hrel
  have h0 : (0 : Int) ≤ i := by omega
  obtain ⟨M, hM⟩ : ∃ M : Nat, M = min X.size Y.size := ⟨_, rfl⟩
  have hm : min (X.size : Int) (Y.size : Int) = (M : Int) := by omega
  have HM := hide hM
  have hiM : i ≤ M := by omega
  clear hM
  have HRX := hide (hr1.out i)
  have HRY := hide (hr2.out i)
  clear hr1 hr2
  by_cases hgo : ∃ (h1 : i < X.size) (h2 : i < Y.size), X[i] = Y[i]
  ·obtain ⟨h1, h2, he⟩ := hgo
   have hI1 : (i : Int) < X.size := by omega
   have hI2 : (i : Int) < Y.size := by omega
   have hIM : (i : Int) < M := by have := HM.out; omega
   have he1 : (X[i].toNat : Int) = Y[i].toNat := by rw [he]
   have HN := hide (take_same HT.out (bs_get X i h1) (by rw [he]; exact bs_get Y i h2))
   clear he
   go_upto_region 2 with fail
   go_big_quiet (fail)
   go_wp2 
   go_roundw
   case rel => exact ⟨i + 1, _, by simp, by omega, by omega, rfl, HN.out⟩
   case measure => simp [intOf]; omega
  ·have HLE := hide (And.intro hiX hiY)
   have hend : i = X.data.toList.length ∨ i = Y.data.toList.length ∨ X.data.toList[i]? ≠ Y.data.toList[i]? := by
    by_cases h1 : i < X.size
    ·by_cases h2 : i < Y.size
     ·refine .inr (.inr fun e => hgo ⟨h1, h2, ?_⟩)
      rw [bs_get X i h1, bs_get Y i h2] at e
      exact Option.some.inj e
     ·exact .inr (.inl (by simp; omega))
    ·exact .inl (by simp; omega)
   have HE : Hid (cmpP X.data.toList Y.data.toList = cmpI (rkH (X.data.toList.drop i)) (rkH (Y.data.toList.drop i))) := cmp_at HT.out hend
   clear hend
   by_cases hIM : (i : Int) < M
   ·have h1 : i < X.size := by have := HM.out; omega
    have h2 : i < Y.size := by have := HM.out; omega
    have hI1 : (i : Int) < X.size := by omega
    have hI2 : (i : Int) < Y.size := by omega
    have he1 : ¬ (X[i].toNat : Int) = Y[i].toNat := fun e => hgo ⟨h1, h2, UInt8.toNat_inj.1 (by omega)⟩
    clear hgo
    go_upto_region 2 with fail
    go_big_quiet (fail)
    go_upto_region 4 with fail
    refine wp_region_quiet_lit (by kernel_rfl) (by kernel_rfl) ?_
    iterate 3 go_big_quiet_step (fail)
    go_big_quiet_step ((go_at_call 44; exact (HRX.out _ HLE.out.1).mono fun e w2 h => ⟨h.1, _, h.2⟩))
    iterate 3 go_big_quiet_step (fail)
    go_big_quiet_step ((go_at_call 44; exact (HRY.out _ HLE.out.2).mono fun e w2 h => ⟨h.1, _, h.2⟩))
    go_big_quiet_step ((go_at_call 43; exact (hcc.out _ _ _).mono fun e w2 h => ⟨h.1, _, h.2⟩))
    iterate 1 go_big_quiet_step (fail)
    refine wpQuiet_nil ?_
    rintro _ ⟨nz, rfl⟩
    go_wp2
    go_ret
    rw [HE.out]
    rw [HW.out]
    exact ⟨rfl, n + nq + nz, by first | rfl | simp only [World.drewN_drewN]⟩
   ·clear hgo
    go_upto_region 2 with fail
    go_big_quiet (fail)
    go_upto_region 4 with fail
    refine wp_region_quiet_lit (by kernel_rfl) (by kernel_rfl) ?_
    iterate 3 go_big_quiet_step (fail)
    go_big_quiet_step ((go_at_call 44; exact (HRX.out _ HLE.out.1).mono fun e w2 h => ⟨h.1, _, h.2⟩))
    iterate 3 go_big_quiet_step (fail)
    go_big_quiet_step ((go_at_call 44; exact (HRY.out _ HLE.out.2).mono fun e w2 h => ⟨h.1, _, h.2⟩))
    go_big_quiet_step ((go_at_call 43; exact (hcc.out _ _ _).mono fun e w2 h => ⟨h.1, _, h.2⟩))
    iterate 1 go_big_quiet_step (fail)
    refine wpQuiet_nil ?_
    rintro _ ⟨nz, rfl⟩
    go_wp2
    go_ret
    rw [HE.out]
    rw [HW.out]
    exact ⟨rfl, n + nq + nz, by first | rfl | simp only [World.drewN_drewN]⟩
end Go.Proofs.YtnbhchdaobimmaaGreatDoor
/- Contract: the things below one, however many. -/
namespace Go.Mov
open Go.RowKit Go.MapInt Go.MapFun Go.Rws Go.Srt
/-- The keys of some that stand below a number. -/
def idsK (l : List (Int × Th)) (k : Int) : List Int := (l.filter fun x => decide (x.2.par = k)).map (·.1)
/-- While the things below one are gathered: the iterator's block r, the row of numbers. -/
structure Ki (P : Program) (kt m r : Nat) (l todo : List (Int × Th)) (k : Int) (w0 w : World) (v : Value) (ps : List Int) : Prop where
 ov : OvI P kt m r l todo w0 w
 own : w.ownsRow (r + 1) kt 1 v ps.length (ps.flatMap csU)
 rel : (ps ++ idsK todo k).Perm (idsK l k)
end Go.Mov
namespace Go.Proofs.YtnbhchdaobimmaaGreatDoor
open Go.RowKit Go.Opn Go.Stamp Go.MapInt Go.Mov Go.Shelf Go.Rws Go.Srt
attribute [local go_sem] Oper.semAt_some
end Go.Proofs.YtnbhchdaobimmaaGreatDoor
