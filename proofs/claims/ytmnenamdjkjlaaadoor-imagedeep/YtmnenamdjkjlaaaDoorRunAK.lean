/- Several texts in one: ImageShelf, ImageCmp, MoveKidsAll. -/
import Derived.Shelf.SlGeneric
import Derived.Shelf.SlSortCmp.NoneTotal
import Derived.Shelf.SlicesG.Cmp
import Derived.Test.YtmnenamdjkjlaaaDoorRows
import Derived.WalkKit
import Derived.Test.YtmnenamdjkjlaaaDoorRunAJ
import Derived.BigQuiet
import Derived.Deep.QuietTactic
import Derived.Lib.MinMax
import Derived.Test.YtmnenamdjkjlaaaDoorSortThree
import Derived.Test.YtmnenamdjkjlaaaDoorMoveKids
/- What the library's sorting by a comparison, its comparison of numbers, and its sorting of texts do, at this program: by the shelf's contracts. -/
namespace Go.Proofs.YtmnenamdjkjlaaaDoor
open Go.RowKit Go.Sort Go.Shelf
def sortFL_ren : Go.Shelf.Ren := ⟨fun | 6 => 16 | 15 => 30 | 14 => 29 | 28 => 53 | 29 => 54 | 20 => 45 | 21 => 46 | 22 => 47 | 23 => 48 | 24 => 49 | 25 => 50 | 26 => 51 | 27 => 52 | 46 => 63 | 47 => 64 | 48 => 65 | 49 => 66 | 50 => 67 | 57 => 81 | n => n, fun | 22 => 33 | 24 => 37 | 25 => 60 | 3 => 3 | 39 => 63 | 0 => 0 | 53 => 107 | 55 => 25 | 4 => 4 | 46 => 101 | 45 => 100 | 50 => 43 | 5 => 5 | 9 => 9 | 66 => 118 | 70 => 122 | 76 => 135 | 77 => 136 | n => n, fun | n => n⟩
theorem sortFL : Go.Proofs.SlLaysF0.n6 Tryd.prog sortFL_ren := {
  mixed := by kernel_rfl
  f6 := ⟨Tryd.f16.name, by decide, Tryd.func16.trans (congrArg some (by kernel_rfl))⟩
  f14 := ⟨Tryd.f29.name, by decide, Tryd.func29.trans (congrArg some (by kernel_rfl))⟩
  f15 := Tryd.func30.trans (congrArg some (by kernel_rfl))
  f20 := ⟨Tryd.f45.name, by decide, Tryd.func45.trans (congrArg some (by kernel_rfl))⟩
  f21 := ⟨Tryd.f46.name, by decide, Tryd.func46.trans (congrArg some (by kernel_rfl))⟩
  f22 := ⟨Tryd.f47.name, by decide, Tryd.func47.trans (congrArg some (by kernel_rfl))⟩
  f23 := ⟨Tryd.f48.name, by decide, Tryd.func48.trans (congrArg some (by kernel_rfl))⟩
  f24 := ⟨Tryd.f49.name, by decide, Tryd.func49.trans (congrArg some (by kernel_rfl))⟩
  f25 := ⟨Tryd.f50.name, by decide, Tryd.func50.trans (congrArg some (by kernel_rfl))⟩
  f26 := ⟨Tryd.f51.name, by decide, Tryd.func51.trans (congrArg some (by kernel_rfl))⟩
  f27 := ⟨Tryd.f52.name, by decide, Tryd.func52.trans (congrArg some (by kernel_rfl))⟩
  f28 := Tryd.func53.trans (congrArg some (by kernel_rfl))
  f29 := Tryd.func54.trans (congrArg some (by kernel_rfl))
  f46 := ⟨Tryd.f63.name, by decide, Tryd.func63.trans (congrArg some (by kernel_rfl))⟩
  f47 := Tryd.func64.trans (congrArg some (by kernel_rfl))
  f48 := Tryd.func65.trans (congrArg some (by kernel_rfl))
  f49 := ⟨Tryd.f66.name, by decide, Tryd.func66.trans (congrArg some (by kernel_rfl))⟩
  f50 := ⟨Tryd.f67.name, by decide, Tryd.func67.trans (congrArg some (by kernel_rfl))⟩
  f57 := ⟨Tryd.f81.name, by decide, Tryd.func81.trans (congrArg some (by kernel_rfl))⟩
  t0 := Tryd.underlying0
  a0 := Tryd.isAgg0
  z0 := Tryd.sizeOf0
  v0 := Tryd.zeroValue0
  t3 := Tryd.underlying3
  a3 := Tryd.isAgg3
  z3 := Tryd.sizeOf3
  v3 := Tryd.zeroValue3
  t4 := Tryd.underlying4
  a4 := Tryd.isAgg4
  z4 := Tryd.sizeOf4
  v4 := Tryd.zeroValue4
  t5 := Tryd.underlying5
  a5 := Tryd.isAgg5
  z5 := Tryd.sizeOf5
  v5 := Tryd.zeroValue5
  t9 := Tryd.underlying9
  a9 := Tryd.isAgg9
  z9 := Tryd.sizeOf9
  v9 := Tryd.zeroValue9
  t22 := Tryd.underlying33
  a22 := Tryd.isAgg33
  z22 := Tryd.sizeOf33
  v22 := Tryd.zeroValue33
  t25 := Tryd.underlying60
  a25 := Tryd.isAgg60
  z25 := Tryd.sizeOf60
  v25 := Tryd.zeroValue60
  t39 := Tryd.underlying63
  a39 := Tryd.isAgg63
  z39 := Tryd.sizeOf63
  v39 := Tryd.zeroValue63
  t45 := Tryd.underlying100
  a45 := Tryd.isAgg100
  z45 := Tryd.sizeOf100
  v45 := Tryd.zeroValue100
  t46 := Tryd.underlying101
  a46 := Tryd.isAgg101
  z46 := Tryd.sizeOf101
  v46 := Tryd.zeroValue101
  t50 := Tryd.underlying43
  a50 := Tryd.isAgg43
  z50 := Tryd.sizeOf43
  v50 := Tryd.zeroValue43
  t53 := Tryd.underlying107
  a53 := Tryd.isAgg107
  z53 := Tryd.sizeOf107
  v53 := Tryd.zeroValue107
  t55 := Tryd.underlying25
  a55 := Tryd.isAgg25
  z55 := Tryd.sizeOf25
  v55 := Tryd.zeroValue25
  t66 := Tryd.underlying118
  a66 := Tryd.isAgg118
  z66 := Tryd.sizeOf118
  v66 := Tryd.zeroValue118
  t70 := Tryd.underlying122
  a70 := Tryd.isAgg122
  z70 := Tryd.sizeOf122
  v70 := Tryd.zeroValue122
  t76 := Tryd.underlying135
  a76 := Tryd.isAgg135
  z76 := Tryd.sizeOf135
  v76 := Tryd.zeroValue135
  t77 := Tryd.underlying136
  a77 := Tryd.isAgg136
  z77 := Tryd.sizeOf136
  v77 := Tryd.zeroValue136 }
def cmpIL_ren : Go.Shelf.Ren := ⟨fun | 5 => 31 | 7 => 55 | n => n, fun | 22 => 3 | 3 => 3 | 4 => 4 | n => n, fun | n => n⟩
theorem cmpIL : Go.Proofs.SlLaysC2.n5 Tryd.prog cmpIL_ren := {
  mixed := by kernel_rfl
  f5 := ⟨Tryd.f31.name, by decide, Tryd.func31.trans (congrArg some (by kernel_rfl))⟩
  f7 := ⟨Tryd.f55.name, by decide, Tryd.func55.trans (congrArg some (by kernel_rfl))⟩
  t3 := Tryd.underlying3
  a3 := Tryd.isAgg3
  z3 := Tryd.sizeOf3
  v3 := Tryd.zeroValue3
  t4 := Tryd.underlying4
  a4 := Tryd.isAgg4
  z4 := Tryd.sizeOf4
  v4 := Tryd.zeroValue4
  t22 := Tryd.underlying3
  a22 := Tryd.isAgg3
  z22 := Tryd.sizeOf3
  v22 := Tryd.zeroValue3 }

end Go.Proofs.YtmnenamdjkjlaaaDoor
/- Contracts: a path of a name in a folder; two files by their paths. -/
namespace Go.Proofs.YtmnenamdjkjlaaaDoor
open Go.RowKit Go.Img Go.Shelf
attribute [local go_sem] Oper.semAt_some
set_option maxRecDepth 100000 in
theorem join_any (f s : List UInt8) (w : World) (hf : f.length ≤ 1000000) (hs : s.length ≤ 1000000) :
    Calls Tryd.prog 28 #[.string ⟨f.toArray⟩, .string ⟨s.toArray⟩] w fun e w' => e = .returned (.string ⟨(Img.join f s).toArray⟩) ∧ w' = w := by
  obtain ⟨X, hX⟩ : ∃ X : ByteArray, X = ⟨f.toArray⟩ := ⟨_, rfl⟩
  obtain ⟨S, hS⟩ : ∃ S : ByteArray, S = ⟨s.toArray⟩ := ⟨_, rfl⟩
  rw [← hX, ← hS]
  by_cases h : f = []
  · have h1 : (X.toList == []) = true := by rw [hX, h, ByteArray.toList_eq]; rfl
    have HE : Hid (Img.join f s = s) := by show _ = _; unfold Img.join; rw [if_pos h]
    have HS := hide hS
    clear hX hS h
    go_enter Tryd.func28, Tryd.ntmps28
    go_wp2
    go_ret
    rw [HE.out, ← HS.out]
    exact ⟨rfl, rfl⟩
  · have h1 : (X.toList == []) = false := by
      rw [beq_eq_false_iff_ne, hX, ByteArray.toList_eq]
      simpa using h
    have HE : Hid (Img.join f s = f ++ 47 :: s) := by show _ = _; unfold Img.join; rw [if_neg h]
    have HS := hide (And.intro hX hS)
    have hz : X.size ≤ 1000000 ∧ S.size ≤ 1000000 := by rw [hX, hS]; exact ⟨by show f.toArray.size ≤ _; simpa using hf, by show s.toArray.size ≤ _; simpa using hs⟩
    clear hX hS h
    go_enter Tryd.func28, Tryd.ntmps28
    go_wp2
    go_ret
    rw [HE.out, HS.out.1, HS.out.2]
    refine ⟨?_, rfl⟩
    have happ : ∀ a b : List UInt8, (⟨a.toArray⟩ : ByteArray) ++ ⟨b.toArray⟩ = ⟨(a ++ b).toArray⟩ := fun a b => ByteArray.ext (by rw [ByteArray.data_append]; simp)
    have e1 : (⟨f.toArray⟩ : ByteArray) ++ ⟨#[47]⟩ ++ ⟨s.toArray⟩ = ⟨(f ++ 47 :: s).toArray⟩ := by
      rw [show (⟨#[47]⟩ : ByteArray) = ⟨([47] : List UInt8).toArray⟩ from rfl, happ, happ, List.append_assoc]; rfl
    show Ending.returned (Value.string ((⟨f.toArray⟩ : ByteArray) ++ ⟨#[47]⟩ ++ ⟨s.toArray⟩)) = _
    rw [e1]
set_option maxRecDepth 100000 in
theorem rank_any (s : ByteArray) (i : Nat) (w : World) (hi : i ≤ s.size) :
    Calls Tryd.prog 32 #[.string s, .int .i64 i] w fun e w' => e = .returned (.int .i64 (rkH (s.data.toList.drop i))) ∧ w' = w := by
  by_cases h : i = s.size
  · have h1 : ((i : Int) == s.size) = true := by rw [h]; simp
    have h2 : (i : Int) = s.size := by omega
    have HE := hide (rkH_end (a := s.data.toList) (i := i) (by simp; omega))
    clear h hi
    go_enter Tryd.func32, Tryd.ntmps32
    go_wp2
    go_ret
    rw [HE.out]
    exact ⟨rfl, rfl⟩
  · have hil : i < s.size := by omega
    have h1 : ((i : Int) == s.size) = false := by rw [beq_eq_false_iff_ne]; omega
    have h2 : ¬ (i : Int) = s.size := by omega
    have h0 : (0 : Int) ≤ i := by omega
    have hI : (i : Int) < s.size := by omega
    have HE := hide (rkH_in (bs_get s i hil))
    clear h hi
    by_cases hc : s[i] = 47
    · have hc1 : (s[i].toNat : Int) = 47 := by rw [hc]; rfl
      have HC := hide hc
      clear hc
      go_enter Tryd.func32, Tryd.ntmps32
      go_wp2
      go_ret
      rw [HE.out]
      unfold rkC
      rw [if_pos HC.out]
      exact ⟨rfl, rfl⟩
    · have hc1 : ¬ (s[i].toNat : Int) = 47 := fun e => hc (UInt8.toNat_inj.1 (by show s[i].toNat = 47; omega))
      have HC := hide hc
      have hlt := s[i].toNat_lt
      clear hc
      go_enter Tryd.func32, Tryd.ntmps32
      go_wp2
      go_ret
      rw [HE.out]
      unfold rkC
      rw [if_neg HC.out]
      refine ⟨?_, rfl⟩
      first | rfl | (congr 2; omega)
/-- While two paths are gone over: the world is the first one behind some draws. -/
theorem drewN_cell (w : World) (n : Nat) (a : Addr) : (w.drewN n).cell? a = w.cell? a := rfl
set_option maxHeartbeats 4000000 in
set_option maxRecDepth 100000 in
theorem fcompare_any (x y : Fi) (w : World) (hx : x.path.length ≤ 1000) (hy : y.path.length ≤ 1000) :
    Calls Tryd.prog 17 #[.agg x.cs.toArray, .agg y.cs.toArray] w fun e w' => e = .returned (.int .i64 (cmpF x y)) ∧ ∃ n, w' = ((w.alloc (.cells x.cs.toArray 37)).alloc (.cells y.cs.toArray 37)).drewN n := by
  obtain ⟨xp, xd, xi, xg, xs⟩ := x
  obtain ⟨yp, yd, yi, yg, ys⟩ := y
  dsimp only at hx hy
  unfold cmpF Fi.cs
  dsimp only
  obtain ⟨X, hX⟩ : ∃ X : ByteArray, X = ⟨xp.toArray⟩ := ⟨_, rfl⟩
  obtain ⟨Y, hY⟩ : ∃ Y : ByteArray, Y = ⟨yp.toArray⟩ := ⟨_, rfl⟩
  have hXl : X.data.toList = xp := by rw [hX]
  have hYl : Y.data.toList = yp := by rw [hY]
  rw [← hX, ← hY, ← hXl, ← hYl]
  have hXs : X.size ≤ 1000 := by rw [hX]; show xp.toArray.size ≤ _; simpa using hx
  have hYs : Y.size ≤ 1000 := by rw [hY]; show yp.toArray.size ≤ _; simpa using hy
  clear hX hY hXl hYl hx hy xp yp
  obtain ⟨W1, hW1⟩ : ∃ W1, (w.alloc (.cells #[.string X, .bool xd, .int .u64 xi, .string xg, .int .i64 xs] 37)).alloc (.cells #[.string Y, .bool yd, .int .u64 yi, .string yg, .int .i64 ys] 37) = W1 := ⟨_, rfl⟩
  have c0 : W1.cell? ⟨w.heap.size, 0, none⟩ = some (.string X) := by rw [← hW1]; exact (cell_of_row _ _ _ _ _ _ ((heap_alloc_old _ _ (by simp)).trans (heap_alloc_new w _))).trans rfl
  have c1 : W1.cell? ⟨w.heap.size + 1, 0, none⟩ = some (.string Y) := by rw [← hW1]; exact (cell_of_row _ _ _ _ _ _ (new_at (by simp) _)).trans rfl
  have hr1 := hide (fun i w' (h : i ≤ X.size) => rank_any X i w' h)
  have hr2 := hide (fun i w' (h : i ≤ Y.size) => rank_any Y i w' h)
  have hcc : Hid (∀ (a b : Int) (w' : World), Calls Tryd.prog 31 #[.int .i64 a, .int .i64 b] w' fun e w2 => e = .returned (.int .i64 (cmpI a b)) ∧ w2 = w') := fun a b w' => AnyG.cmp_Compare_int cmpIL a b w'
  have HW := hide hW1
  clear hW1
  go_enter Tryd.func17, Tryd.ntmps17
  go_upto_region 1 with fail
  rw [HW.out]
  go_wp2
  go_loopw [5] (fun v5 wr => ∃ i n : Nat, v5 = .int .i64 i ∧ i ≤ X.size ∧ i ≤ Y.size ∧ wr = W1.drewN n ∧ Hid (X.data.toList.take i = Y.data.toList.take i)) (fun v5 _ => 2000 - (intOf v5).toNat)
  case atStart => exact ⟨0, 0, rfl, Nat.zero_le _, Nat.zero_le _, rfl, rfl⟩
  case round =>
    obtain ⟨i, n, rfl, hiX, hiY, rfl, HT⟩ := hrel
    have h0 : (0 : Int) ≤ i := by omega
    obtain ⟨M, hM⟩ : ∃ M : Nat, M = min X.size Y.size := ⟨_, rfl⟩
    have hm : min (X.size : Int) (Y.size : Int) = (M : Int) := by omega
    have HM := hide hM
    have hiM : i ≤ M := by omega
    clear hM
    have HRX := hide (hr1.out i)
    have HRY := hide (hr2.out i)
    clear hr1 hr2
    by_cases hgo : ∃ (h1 : i < X.size) (h2 : i < Y.size), X[i] = Y[i]
    · obtain ⟨h1, h2, he⟩ := hgo
      have hI1 : (i : Int) < X.size := by omega
      have hI2 : (i : Int) < Y.size := by omega
      have hIM : (i : Int) < M := by have := HM.out; omega
      have he1 : (X[i].toNat : Int) = Y[i].toNat := by rw [he]
      have HN := hide (take_same HT.out (bs_get X i h1) (by rw [he]; exact bs_get Y i h2))
      clear he
      go_upto_region 2 with fail
      go_big_quiet (fail)
      go_wp2 
      go_roundw
      case rel => exact ⟨i + 1, _, by simp, by omega, by omega, rfl, HN.out⟩
      case measure => simp [intOf]; omega
    · have HLE := hide (And.intro hiX hiY)
      have hend : i = X.data.toList.length ∨ i = Y.data.toList.length ∨ X.data.toList[i]? ≠ Y.data.toList[i]? := by
        by_cases h1 : i < X.size
        · by_cases h2 : i < Y.size
          · refine .inr (.inr fun e => hgo ⟨h1, h2, ?_⟩)
            rw [bs_get X i h1, bs_get Y i h2] at e
            exact Option.some.inj e
          · exact .inr (.inl (by simp; omega))
        · exact .inl (by simp; omega)
      have HE : Hid (cmpP X.data.toList Y.data.toList = cmpI (rkH (X.data.toList.drop i)) (rkH (Y.data.toList.drop i))) := cmp_at HT.out hend
      clear hend
      by_cases hIM : (i : Int) < M
      · have h1 : i < X.size := by have := HM.out; omega
        have h2 : i < Y.size := by have := HM.out; omega
        have hI1 : (i : Int) < X.size := by omega
        have hI2 : (i : Int) < Y.size := by omega
        have he1 : ¬ (X[i].toNat : Int) = Y[i].toNat := fun e => hgo ⟨h1, h2, UInt8.toNat_inj.1 (by omega)⟩
        clear hgo
        go_upto_region 2 with fail
        go_big_quiet (fail)
        go_upto_region 4 with fail
        refine wp_region_quiet_lit (by kernel_rfl) (by kernel_rfl) ?_
        iterate 3 go_big_quiet_step (fail)
        go_big_quiet_step ((go_at_call 32; exact (HRX.out _ HLE.out.1).mono fun e w2 h => ⟨h.1, _, h.2⟩))
        iterate 3 go_big_quiet_step (fail)
        go_big_quiet_step ((go_at_call 32; exact (HRY.out _ HLE.out.2).mono fun e w2 h => ⟨h.1, _, h.2⟩))
        go_big_quiet_step ((go_at_call 31; exact (hcc.out _ _ _).mono fun e w2 h => ⟨h.1, _, h.2⟩))
        iterate 1 go_big_quiet_step (fail)
        refine wpQuiet_nil ?_
        rintro _ ⟨nz, rfl⟩
        go_wp2
        go_ret
        rw [HE.out]
        rw [HW.out]
        exact ⟨rfl, n + nq + nz, by first | rfl | simp only [World.drewN_drewN]⟩
      · clear hgo
        go_upto_region 2 with fail
        go_big_quiet (fail)
        go_upto_region 4 with fail
        refine wp_region_quiet_lit (by kernel_rfl) (by kernel_rfl) ?_
        iterate 3 go_big_quiet_step (fail)
        go_big_quiet_step ((go_at_call 32; exact (HRX.out _ HLE.out.1).mono fun e w2 h => ⟨h.1, _, h.2⟩))
        iterate 3 go_big_quiet_step (fail)
        go_big_quiet_step ((go_at_call 32; exact (HRY.out _ HLE.out.2).mono fun e w2 h => ⟨h.1, _, h.2⟩))
        go_big_quiet_step ((go_at_call 31; exact (hcc.out _ _ _).mono fun e w2 h => ⟨h.1, _, h.2⟩))
        iterate 1 go_big_quiet_step (fail)
        refine wpQuiet_nil ?_
        rintro _ ⟨nz, rfl⟩
        go_wp2
        go_ret
        rw [HE.out]
        rw [HW.out]
        exact ⟨rfl, n + nq + nz, by first | rfl | simp only [World.drewN_drewN]⟩
end Go.Proofs.YtmnenamdjkjlaaaDoor
/- Contract: the things below one, however many. -/
namespace Go.Mov
open Go.RowKit Go.MapInt Go.MapFun Go.Rws Go.Srt
/-- The keys of some that stand below a number. -/
def idsK (l : List (Int × Th)) (k : Int) : List Int := (l.filter fun x => decide (x.2.par = k)).map (·.1)
theorem idsK_pr (t : Ths) (k : Int) : idsK (t.map pr) k = (kidsOf t k).map (·.id) := by
  unfold idsK kidsOf
  rw [List.filter_map, List.map_map]
  rfl
theorem idsK_cut {l : List (Int × Th)} (hn : (l.map (·.1)).Nodup) {s : Int} {x : Th} (h : (s, x) ∈ l) (k : Int) : (idsK l k).Perm (if x.par = k then s :: idsK (cut l s) k else idsK (cut l s) k) := by
  induction l with
  | nil => cases h
  | cons y l ih =>
    simp only [List.map_cons, List.nodup_cons] at hn
    rcases List.mem_cons.1 h with e | h
    · subst e
      have e1 : cut ((s, x) :: l) s = l := by
        unfold cut
        rw [List.filter_cons_of_neg (by simp)]
        refine List.filter_eq_self.2 fun z hz => ?_
        have : z.1 ≠ s := fun e => hn.1 (List.mem_map.2 ⟨z, hz, e⟩)
        simpa using this
      rw [e1]
      unfold idsK
      rw [List.filter_cons]
      by_cases ha : x.par = k <;> simp [ha]
    · have hne : y.1 ≠ s := fun e => hn.1 (e ▸ List.mem_map.2 ⟨_, h, rfl⟩)
      have e1 : cut (y :: l) s = y :: cut l s := by unfold cut; rw [List.filter_cons_of_pos (by simp [hne])]
      have := ih hn.2 h
      rw [e1]
      unfold idsK at this ⊢
      simp only [List.filter_cons]
      by_cases ha : y.2.par = k
      · simp only [ha, decide_true, if_true, List.map_cons]
        refine (this.cons y.1).trans ?_
        by_cases hb : x.par = k
        · rw [if_pos hb, if_pos hb]; exact List.Perm.swap _ _ _
        · rw [if_neg hb, if_neg hb]
      · simp only [ha, decide_false]
        exact this
/-- While the things below one are gathered: the iterator's block r, the row of numbers. -/
structure Ki (P : Program) (kt m r : Nat) (l todo : List (Int × Th)) (k : Int) (w0 w : World) (v : Value) (ps : List Int) : Prop where
  ov : OvI P kt m r l todo w0 w
  own : w.ownsRow (r + 1) kt 1 v ps.length (ps.flatMap csU)
  rel : (ps ++ idsK todo k).Perm (idsK l k)
theorem Ki.step {P : Program} {kt m r : Nat} {l todo : List (Int × Th)} {k : Int} {w0 w w' : World} {v : Value} {ps : List Int} (h : Ki P kt m r l todo k w0 w v ps) (b : Below w.heap.size w w') : Ki P kt m r l todo k w0 w' v ps ∧ w'.rangeLeft m r = w.rangeLeft m r :=
  ⟨⟨(h.ov.step b).1, own_kept h.own (fun g hg => b.block g (h.own.lt g hg).2), h.rel⟩, (h.ov.step b).2⟩
/-- The next one is taken. -/
theorem Ki.next {P : Program} {kt m r : Nat} {l todo todo' : List (Int × Th)} {k : Int} {w0 w w' : World} {v : Value} {ps : List Int} (h : Ki P kt m r l todo k w0 w v ps) (hg : w.grownBy w' (some r)) (hr : RngL P kt thE w' m r l todo') : OvI P kt m r l todo' w0 w' ∧ w'.ownsRow (r + 1) kt 1 v ps.length (ps.flatMap csU) :=
  ⟨h.ov.next hg hr, h.own.kept hg (.inr fun e => by have := (h.own.lt r e).1; omega)⟩
theorem Ki.start {P : Program} {kt m : Nat} {l : List (Int × Th)} {k : Int} {w0 w : World} (h : OvI P kt m w0.heap.size l l w0 w) : Ki P kt m w0.heap.size l l k w0 w (.slice none 0 0) [] :=
  ⟨h, ⟨rfl, .inl ⟨rfl, rfl⟩⟩, List.Perm.refl _⟩
theorem Ki.row {P : Program} {kt m r : Nat} {l : List (Int × Th)} {k : Int} {w0 w : World} {v : Value} {ps : List Int} (h : Ki P kt m r l [] k w0 w v ps) : OwnR csU 1 kt w0 v ps w := by
  obtain ⟨h0, h1⟩ := h.own
  refine ⟨⟨h0, ?_⟩, h.ov.below⟩
  have hr := h.ov.hr
  rcases h1 with h1 | ⟨g, cap, cur, h1, h2, h3⟩
  · exact .inl h1
  · exact .inr ⟨g, cap, cur, h1, by omega, h3⟩
/-- A row elsewhere grows. -/
theorem OvI.grows {P : Program} {kt m r : Nat} {l todo : List (Int × Th)} {w0 w w' : World} {v : Value} {n e : Nat} {xs : List Value} (h : OvI P kt m r l todo w0 w) (hm : m ≤ r) (ho : w.ownsRow (r + 1) e 1 v n xs) (hg : w.grownBy w' v.ownBlock) : OvI P kt m r l todo w0 w' ∧ w'.rangeLeft m r = w.rangeLeft m r := by
  have hl := h.rng.lt
  have k1 : w'.heap[m]? = w.heap[m]? := hg.block m hl.1 (fun e => by have := (ho.lt m e.symm).1; omega)
  have k2 : w'.heap[r]? = w.heap[r]? := hg.block r hl.2 (fun e => by have := (ho.lt r e.symm).1; omega)
  have hr := h.hr
  exact ⟨⟨h.rng.kept k1 k2, h.below.grown hg h.below.size (fun k e => by have := (ho.lt k e).1; omega), h.hr⟩, rangeLeft_kept k1 k2⟩
end Go.Mov
namespace Go.Proofs.YtmnenamdjkjlaaaDoor
open Go.RowKit Go.Opn Go.Stamp Go.MapInt Go.Mov Go.Shelf Go.Rws Go.Srt
attribute [local go_sem] Oper.semAt_some
end Go.Proofs.YtmnenamdjkjlaaaDoor
