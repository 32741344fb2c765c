/- Several texts in one: ShaRefMix, ShaRefSum, ShaRefParts, ShaTagged. -/
import Derived.Test.YtkbboddibgfjbaaGreatDoorRows
import Derived.Test.YtkbboddibgfjbaaGreatDoorShaOne
import Derived.WalkKit
import Derived.WalkSpells
import Derived.WalkLawsBesides
import Derived.Deep.QuietTactic
import Derived.Deep.RegionWith
import Derived.Test.YtkbboddibgfjbaaGreatDoorPureSha
import Derived.BigQuiet
import Derived.Deep.WholeRow
import Derived.Test.YtkbboddibgfjbaaGreatDoorShaTwo
import Derived.Lib.QuietBelow
import Derived.Deep.DeepCutAuto
import Derived.Lib.AppendStr
/- The contract of the mixing of a block in the reference. -/
namespace Go.Proofs.YtkbboddibgfjbaaGreatDoor
open Go.RowKit
theorem ShaW.wd_ref (s : List UInt8) (k : Nat) (h : 16 ≤ k) : IntKind.u64.wrap (IntKind.u64.wrap (IntKind.u64.wrap (Sha.wd s (k - 16) + bits BinOp.xor IntKind.u64 (bits BinOp.xor IntKind.u64 (Sha.rotr (Sha.wd s (k - 15)) 1) (Sha.rotr (Sha.wd s (k - 15)) 8)) (Sha.wd s (k - 15) / 128)) + Sha.wd s (k - 7)) +
    bits BinOp.xor IntKind.u64 (bits BinOp.xor IntKind.u64 (Sha.rotr (Sha.wd s (k - 2)) 19) (Sha.rotr (Sha.wd s (k - 2)) 61)) (Sha.wd s (k - 2) / 64)) = Sha.wd s k := by
  rw [Sha.wd_later s k h]; rfl
theorem built39 : (Tryz.prog.built 235 []).getD #[] = Sha.cells80 (fun _ => 0) := by kernel_rfl
set_option maxRecDepth 100000 in
set_option maxHeartbeats 4000000 in
theorem rmix_any (a b c d e f g h : Int) (s : ByteArray) (w : World) (hs : s.size = 128) :
    Calls Tryz.prog 109 #[.agg #[.int .u64 a, .int .u64 b, .int .u64 c, .int .u64 d, .int .u64 e, .int .u64 f, .int .u64 g, .int .u64 h], .string s] w fun e1 w' => e1 = .returned (.agg (Sha.mix ⟨a, b, c, d, e, f, g, h⟩ s.data.toList).cells) ∧ Below w.heap.size w w' := by
  have hs2 : (s.size : Int) = 128 := by omega
  have hz := (zero_of_info zero39).1
  go_enter Tryz.func109, Tryz.ntmps109
  go_wp2_with (refine wpList_build rfl 235 _ rfl (by kernel_rfl) ?_)
  rw [built39]
  refine (salts_any _).mono ?_
  rintro ee w1 ⟨rfl, hb⟩
  go_wp2_with (first | refine wpList_store_row rfl 235 _ _ rfl w1.heap.size _ rfl rfl 235 _ (heap_alloc2_old _ _ _) (by rw [Sha.cells80_size]; exact info39) (by simp only [Sha.cells80_size]) (ShaW.cells80_one _) ?_ | refine wpList_store_row rfl 235 _ _ rfl (w1.heap.size + 1) _ rfl rfl 235 _ (by rw [setRow_other _ _ _ _ (by omega)]; exact heap_alloc2_new _ _ _) (by rw [Sha.cells80_size]; exact info39) (by simp only [Sha.cells80_size]) (ShaW.cells80_one _) ?_)
  have hz1 : w.heap.size + 2 ≤ w1.heap.size := by have := hb.size; simpa using this
  generalize hW : ((((w1.alloc (Obj.cells (Sha.cells80 fun x => 0) 235)).alloc (Obj.cells (Sha.cells80 fun x => 0) 235)).setRow w1.heap.size (Sha.cells80 fun x => 0)).setRow (w1.heap.size + 1) (Sha.cells80 Sha.kk)) = W
  have hWw : W.heap[w1.heap.size]? = some (.cells (Sha.cells80 fun _ => 0) 235 (0, 0)) := by
    rw [← hW, setRow_other _ _ _ _ (by omega)]; exact setRow_heap _ _ _ _ _ _ (heap_alloc2_old _ _ _)
  have hWk : W.heap[w1.heap.size + 1]? = some (.cells (Sha.cells80 Sha.kk) 235 (0, 0)) := by
    rw [← hW]; exact setRow_heap _ _ _ _ _ _ (by rw [setRow_other _ _ _ _ (by omega)]; exact heap_alloc2_new _ _ _)
  have old : ∀ i, i < w.heap.size + 2 → W.heap[i]? = ((w.alloc (Obj.cells #[Value.int IntKind.u64 a, Value.int IntKind.u64 b, Value.int IntKind.u64 c, Value.int IntKind.u64 d, Value.int IntKind.u64 e, Value.int IntKind.u64 f, Value.int IntKind.u64 g, Value.int IntKind.u64 h] 177)).alloc (Obj.cells #[Value.int IntKind.u64 0, Value.int IntKind.u64 0, Value.int IntKind.u64 0, Value.int IntKind.u64 0, Value.int IntKind.u64 0, Value.int IntKind.u64 0, Value.int IntKind.u64 0, Value.int IntKind.u64 0] 177)).heap[i]? := by
    intro i hi
    rw [← hW, setRow_other _ _ _ _ (by omega), setRow_other _ _ _ _ (by omega), heap_alloc_old _ _ (by simp; omega), heap_alloc_old _ _ (by omega)]
    exact hb.block i (by simpa using hi)
  have hWh := (old w.heap.size (by omega)).trans (heap_alloc2_old _ _ _)
  have hWr := (old (w.heap.size + 1) (by omega)).trans (heap_alloc2_new _ _ _)
  have hbW : Below w.heap.size w W := by
    rw [← hW]
    exact ShaW.below_setRow (ShaW.below_setRow ((((((Below.refl _ _).alloc (Nat.le_refl _) _).alloc (by simp) _).trans (hb.mono (by simp; omega))).alloc (by omega) _).alloc (by simp; omega) _) (by omega) _) (by omega) _
  have hsW : w1.heap.size + 2 ≤ W.heap.size := by rw [← hW]; simp
  have HW : Hid (W.heap[w1.heap.size + 1]? = some (.cells (Sha.cells80 Sha.kk) 235 (0, 0)) ∧ W.heap[w.heap.size]? = some (Obj.cells #[Value.int IntKind.u64 a, Value.int IntKind.u64 b, Value.int IntKind.u64 c, Value.int IntKind.u64 d, Value.int IntKind.u64 e, Value.int IntKind.u64 f, Value.int IntKind.u64 g, Value.int IntKind.u64 h] 177) ∧ W.heap[w.heap.size + 1]? = some (Obj.cells #[Value.int IntKind.u64 0, Value.int IntKind.u64 0, Value.int IntKind.u64 0, Value.int IntKind.u64 0, Value.int IntKind.u64 0, Value.int IntKind.u64 0, Value.int IntKind.u64 0, Value.int IntKind.u64 0] 177) ∧ W.heap[w1.heap.size]? = some (.cells (Sha.cells80 fun _ => 0) 235 (0, 0)) ∧ Below w.heap.size w W) := ⟨hWk, hWh, hWr, hWw, hbW⟩
  clear hW hb old hz hWk hWh hWr hWw hbW
  go_wp2_with fail
  go_loopw [7] (fun t wr => ∃ (k : Nat) (cs : Array Value), k ≤ 128 ∧ t = .int .i64 k ∧ Hid (wr.heap[w1.heap.size]? = some (.cells cs 235 (0, 0)) ∧ cs.size = 80 ∧ (∀ j, j < 80 → cs[j]? = some (.int .u64 (Sha.pw s.data.toList k j))) ∧ (∀ i, i ≠ w1.heap.size → wr.heap[i]? = W.heap[i]?) ∧ Below w.heap.size w wr)) (fun t _ => 128 - (intOf t).toNat)
  case atStart =>
    exact ⟨0, _, by omega, rfl, HW.out.2.2.2.1, Sha.cells80_size _, fun j hj => by rw [Sha.pw_zero]; exact Sha.cells80_at _ _ hj, fun _ _ => rfl, HW.out.2.2.2.2⟩
  case round =>
    obtain ⟨k, cs, hk, rfl, HH⟩ := hrel
    by_cases hlt : k < 128
    · have hcell : wr.cell? ⟨w1.heap.size, k / 8, none⟩ = some (.int .u64 (Sha.pw s.data.toList k (k / 8))) := ShaW.cell HH.out.1 (HH.out.2.2.1 _ (by omega))
      have hfr : wr.frozen? ⟨w1.heap.size, k / 8, none⟩ = false := frozen_of_row _ _ _ _ _ HH.out.1
      have hk1 : (k : Int) < 128 := by omega
      go_wp2_with fail
      refine QTail.wp_region_tail (fun w' => ∃ n, w' = wr.drewN n) 12 (by kernel_rfl) (by kernel_rfl) ⟨1, rfl⟩ ?_
      simp only [List.take_succ_cons, List.take_zero, List.drop_succ_cons, List.drop_zero]
      repeat (first | go_big_quiet_step (fail) | quiet_step (fail))
      refine wpQuiet_nil ?_
      rintro _ ⟨nq, rfl⟩
      rw [← Sha.pw_next s k (by omega)]
      go_wp2
      go_roundw
      case rel =>
        obtain ⟨hg, hsz, hcs, hot, hb⟩ := HH.out
        refine ⟨k + 1, cs.setIfInBounds (k / 8) (.int .u64 (Sha.pw s.data.toList (k + 1) (k / 8))), by omega, by go_num, ?_, by simpa using hsz, fun j hj => ?_, fun i hi => ?_, ?_⟩
        · exact heap_setCell_same (wr.drewN nq) _ _ _ _ _ hg
        · by_cases e : j = k / 8
          · subst e; rw [Array.getElem?_setIfInBounds_self_of_lt (by omega)]
          · rw [Array.getElem?_setIfInBounds_ne (by omega), Sha.pw_other _ _ _ e]; exact hcs j (by omega)
        · rw [heap_setCell_other _ _ _ _ hi]; exact hot i hi
        · exact (below_drewN hb nq).setCell (by show w.heap.size ≤ w1.heap.size; omega) _
      case measure => simp [intOf]; omega
    · have hk128 : k = 128 := by omega
      subst hk128
      go_wp2_with fail
      go_loopw [8] (fun t wr => ∃ (k : Nat) (cs : Array Value), 16 ≤ k ∧ k ≤ 80 ∧ t = .int .i64 k ∧ Hid (wr.heap[w1.heap.size]? = some (.cells cs 235 (0, 0)) ∧ cs.size = 80 ∧ (∀ j, j < k → cs[j]? = some (.int .u64 (Sha.wd s.data.toList j))) ∧ (∀ i, i ≠ w1.heap.size → wr.heap[i]? = W.heap[i]?) ∧ Below w.heap.size w wr)) (fun t _ => 80 - (intOf t).toNat)
      case atStart =>
        obtain ⟨hg, hsz, hcs, hot, hb⟩ := HH.out
        exact ⟨16, cs, by omega, by omega, rfl, hg, hsz, fun j hj => by rw [← Sha.pw_whole _ _ hj]; exact hcs j (by omega), hot, hb⟩
      case round =>
        clear HH hk hlt
        obtain ⟨k, cs, hk16, hk, rfl, HH⟩ := hrel
        by_cases hlt : k < 80
        · obtain ⟨v, hv⟩ : ∃ v, cs[k]? = some v := ⟨_, Array.getElem?_eq_getElem (by have := HH.out.2.1; omega)⟩
          have hk1 : (16 : Int) ≤ k := by omega
          have hk2 : (k : Int) < 80 := by omega
          have h15 : wr.cell? ⟨w1.heap.size, k - 15, none⟩ = some (.int .u64 (Sha.wd s.data.toList (k - 15))) := ShaW.cell HH.out.1 (HH.out.2.2.1 _ (by omega))
          have h2 : wr.cell? ⟨w1.heap.size, k - 2, none⟩ = some (.int .u64 (Sha.wd s.data.toList (k - 2))) := ShaW.cell HH.out.1 (HH.out.2.2.1 _ (by omega))
          have HV : Hid (wr.cell? ⟨w1.heap.size, k, none⟩ = some v) := ShaW.cell HH.out.1 hv
          clear hv
          go_wp2_with fail
          go_quiet (fail)
          clear h15 h2
          obtain ⟨V, hV⟩ : ∃ V, V = wr.drewN nq := ⟨_, rfl⟩
          rw [← hV]
          have hcell : V.cell? ⟨w1.heap.size, k, none⟩ = some v := by rw [hV]; exact HV.out
          have hfr : V.frozen? ⟨w1.heap.size, k, none⟩ = false := by rw [hV]; exact frozen_of_row wr _ _ _ _ HH.out.1
          have h16 : V.cell? ⟨w1.heap.size, k - 16, none⟩ = some (.int .u64 (Sha.wd s.data.toList (k - 16))) := by rw [hV]; exact ShaW.cell (W := wr) HH.out.1 (HH.out.2.2.1 _ (by omega))
          have h7 : V.cell? ⟨w1.heap.size, k - 7, none⟩ = some (.int .u64 (Sha.wd s.data.toList (k - 7))) := by rw [hV]; exact ShaW.cell (W := wr) HH.out.1 (HH.out.2.2.1 _ (by omega))
          have HVV : Hid (V = wr.drewN nq) := hV
          clear hV HV
          go_wp2_with fail
          refine QTail.wp_region_tail (fun w' => ∃ n, w' = V.drewN n) 28 (by kernel_rfl) (by kernel_rfl) ⟨1, rfl⟩ ?_
          simp only [List.take_succ_cons, List.take_zero, List.drop_succ_cons, List.drop_zero]
          repeat (first | go_big_quiet_step ((go_at_call 151; exact Calls.quiet_of_same (rturn_any _ _ _ (by omega) (by omega)))) | quiet_step ((go_at_call 151; exact Calls.quiet_of_same (rturn_any _ _ _ (by omega) (by omega)))))
          refine wpQuiet_nil ?_
          rintro _ ⟨nq2, rfl⟩
          rw [ShaW.wd_ref s.data.toList k hk16]
          go_wp2
          go_roundw
          case rel =>
            obtain ⟨hg, hsz, hcs, hot, hb⟩ := HH.out
            have hV := HVV.out
            refine ⟨k + 1, cs.setIfInBounds k (.int .u64 (Sha.wd s.data.toList k)), by omega, by omega, by go_num, ?_, by simpa using hsz, fun j hj => ?_, fun i hi => ?_, ?_⟩
            · exact heap_setCell_same (V.drewN nq2) _ _ _ _ _ (by rw [hV]; exact hg)
            · by_cases e : j = k
              · subst e; rw [Array.getElem?_setIfInBounds_self_of_lt (by omega)]
              · rw [Array.getElem?_setIfInBounds_ne (by omega)]; exact hcs j (by omega)
            · rw [heap_setCell_other _ _ _ _ hi, hV]; exact hot i hi
            · rw [hV]; exact (below_drewN (below_drewN hb nq) nq2).setCell (by show w.heap.size ≤ w1.heap.size; omega) _
          case measure => simp [intOf]; omega
        · have hk80 : k = 80 := by omega
          subst hk80
          have hcs80 : cs = Sha.cells80 (Sha.wd s.data.toList) := Sha.cells80_of _ cs HH.out.2.1 HH.out.2.2.1
          obtain ⟨W2, rfl⟩ : ∃ V, V = wr := ⟨_, rfl⟩
          have HX : Hid (W2.heap[w1.heap.size]? = some (.cells (Sha.cells80 (Sha.wd s.data.toList)) 235 (0, 0)) ∧ W2.heap[w1.heap.size + 1]? = some (.cells (Sha.cells80 Sha.kk) 235 (0, 0)) ∧ W2.heap[w.heap.size + 1]? = some (Obj.cells #[Value.int IntKind.u64 0, Value.int IntKind.u64 0, Value.int IntKind.u64 0, Value.int IntKind.u64 0, Value.int IntKind.u64 0, Value.int IntKind.u64 0, Value.int IntKind.u64 0, Value.int IntKind.u64 0] 177) ∧ Below w.heap.size w W2) := by
            obtain ⟨hg, hsz, hcs, hot, hb⟩ := HH.out
            refine ⟨by rw [← hcs80]; exact hg, ?_, ?_, hb⟩
            · rw [hot _ (by omega)]; exact HW.out.1
            · rw [hot _ (by omega)]; exact HW.out.2.2.1
          have hWh : W2.heap[w.heap.size]? = some (Obj.cells #[Value.int IntKind.u64 a, Value.int IntKind.u64 b, Value.int IntKind.u64 c, Value.int IntKind.u64 d, Value.int IntKind.u64 e, Value.int IntKind.u64 f, Value.int IntKind.u64 g, Value.int IntKind.u64 h] 177) := by rw [HH.out.2.2.2.1 _ (by omega)]; exact HW.out.2.1
          clear HH HW hcs80 cs
          have c0 := ShaW.cell (j := 0) hWh rfl
          have c1 := ShaW.cell (j := 1) hWh rfl
          have c2 := ShaW.cell (j := 2) hWh rfl
          have c3 := ShaW.cell (j := 3) hWh rfl
          have c4 := ShaW.cell (j := 4) hWh rfl
          have c5 := ShaW.cell (j := 5) hWh rfl
          have c6 := ShaW.cell (j := 6) hWh rfl
          have c7 := ShaW.cell (j := 7) hWh rfl
          clear hWh
          go_wp2_with fail
          go_quiet (fail)
          go_wp2_with fail
          go_loopw [11, 12, 13, 14, 15, 16, 17, 18, 19] (fun va vb vc vd ve vf vg vh vi wr => ∃ (k : Nat) (t : Sha.St), k ≤ 80 ∧ vi = .int .i64 k ∧ Hid (t = Sha.steps Sha.kk (Sha.wd s.data.toList) ⟨a, b, c, d, e, f, g, h⟩ k) ∧ va = .int .u64 t.a ∧ vb = .int .u64 t.b ∧ vc = .int .u64 t.c ∧ vd = .int .u64 t.d ∧ ve = .int .u64 t.e ∧ vf = .int .u64 t.f ∧ vg = .int .u64 t.g ∧ vh = .int .u64 t.h ∧ Hid (∃ n, wr = W2.drewN n)) (fun _ _ _ _ _ _ _ _ vi _ => 80 - (intOf vi).toNat)
          case atStart => exact ⟨0, _, by omega, rfl, rfl, rfl, rfl, rfl, rfl, rfl, rfl, rfl, rfl, nq, rfl⟩
          case round =>
            clear hlt hk
            obtain ⟨k, t, hk, rfl, ht, rfl, rfl, rfl, rfl, rfl, rfl, rfl, rfl, hwr⟩ := hrel
            by_cases hlt : k < 80
            · have cw : wr.cell? ⟨w1.heap.size, k, none⟩ = some (.int .u64 (Sha.wd s.data.toList k)) := by
                obtain ⟨n, rfl⟩ := hwr.out
                exact ShaW.cell (W := W2.drewN n) HX.out.1 (Sha.cells80_at _ _ hlt)
              have ck : wr.cell? ⟨w1.heap.size + 1, k, none⟩ = some (.int .u64 (Sha.kk k)) := by
                obtain ⟨n, rfl⟩ := hwr.out
                exact ShaW.cell (W := W2.drewN n) HX.out.2.1 (Sha.cells80_at _ _ hlt)
              clear c0 c1 c2 c3 c4 c5 c6 c7
              go_wp2_with fail
              go_quiet ((go_at_call 151; exact Calls.quiet_of_same (rturn_any _ _ _ (by omega) (by omega))))
              go_wp2_with (go_at_call 151; refine (rturn_any _ _ _ (by omega) (by omega)).mono ?_; rintro e w' ⟨rfl, rfl⟩)
              go_roundw
              case rel =>
                rw [Sha.ref_inv]
                have hres : ∃ (k' : Nat) (t' : Sha.St), k' ≤ 80 ∧ Value.int .i64 ((k : Int) + 1) = .int .i64 k' ∧ Hid (t' = Sha.steps Sha.kk (Sha.wd s.data.toList) ⟨a, b, c, d, e, f, g, h⟩ k') ∧ t' = Sha.step t (Sha.kk k) (Sha.wd s.data.toList k) :=
                  ⟨k + 1, _, by omega, by go_num, by rw [ht.out]; rfl, rfl⟩
                obtain ⟨k', t', h1, h2, h3, h4⟩ := hres
                (repeat apply Exists.intro)
                refine ⟨?_, rfl⟩
                refine ⟨k', t', h1, h2, h3, ?_⟩
                rw [h4]
                exact ⟨rfl, rfl, rfl, rfl, rfl, rfl, rfl, rfl, by obtain ⟨n, rfl⟩ := hwr.out; exact ⟨_, World.drewN_drewN _ _ _⟩⟩
              case measure => simp [intOf]; omega
            · have hk80 : k = 80 := by omega
              subst hk80
              have d0 : wr.cell? ⟨w.heap.size, 0, none⟩ = some (.int .u64 a) := by obtain ⟨n, rfl⟩ := hwr.out; exact c0
              have d1 : wr.cell? ⟨w.heap.size, 1, none⟩ = some (.int .u64 b) := by obtain ⟨n, rfl⟩ := hwr.out; exact c1
              have d2 : wr.cell? ⟨w.heap.size, 2, none⟩ = some (.int .u64 c) := by obtain ⟨n, rfl⟩ := hwr.out; exact c2
              have d3 : wr.cell? ⟨w.heap.size, 3, none⟩ = some (.int .u64 d) := by obtain ⟨n, rfl⟩ := hwr.out; exact c3
              have d4 : wr.cell? ⟨w.heap.size, 4, none⟩ = some (.int .u64 e) := by obtain ⟨n, rfl⟩ := hwr.out; exact c4
              have d5 : wr.cell? ⟨w.heap.size, 5, none⟩ = some (.int .u64 f) := by obtain ⟨n, rfl⟩ := hwr.out; exact c5
              have d6 : wr.cell? ⟨w.heap.size, 6, none⟩ = some (.int .u64 g) := by obtain ⟨n, rfl⟩ := hwr.out; exact c6
              have d7 : wr.cell? ⟨w.heap.size, 7, none⟩ = some (.int .u64 h) := by obtain ⟨n, rfl⟩ := hwr.out; exact c7
              have hWr : Hid (wr.heap[w.heap.size + 1]? = some (Obj.cells #[Value.int IntKind.u64 0, Value.int IntKind.u64 0, Value.int IntKind.u64 0, Value.int IntKind.u64 0, Value.int IntKind.u64 0, Value.int IntKind.u64 0, Value.int IntKind.u64 0, Value.int IntKind.u64 0] 177)) := by obtain ⟨n, rfl⟩ := hwr.out; exact HX.out.2.2.1
              clear c0 c1 c2 c3 c4 c5 c6 c7
              go_wp2_with (refine wpList_store_row rfl 177 _ _ rfl _ _ rfl rfl 177 _ hWr.out (by exact info23) (by rfl) (by simp [Value.oneCell']) ?_)
              have hv : (Sha.mix ⟨a, b, c, d, e, f, g, h⟩ s.data.toList).cells = (Sha.St.plus ⟨a, b, c, d, e, f, g, h⟩ t).cells := by rw [ht.out]; rfl
              rw [hv]
              exact bodyPost_ret (v := .agg (Sha.St.plus ⟨a, b, c, d, e, f, g, h⟩ t).cells) (results_cell_row Tryz.results109 _ _ _ 177 _ (0, 0) _ rfl (setRow_heap _ _ _ _ _ _ hWr.out) under23 rfl (by exact info23)) rfl ⟨rfl, by obtain ⟨n, rfl⟩ := hwr.out; exact ShaW.below_setRow (below_drewN HX.out.2.2.2 n) (by omega) _⟩
end Go.Proofs.YtkbboddibgfjbaaGreatDoor
/- The contract of the digest of bytes, in the reference. -/
namespace Go.Proofs.YtkbboddibgfjbaaGreatDoor
open Go.RowKit
open Go.Sort
theorem rmix_st (t : Sha.St) (s : ByteArray) (w : World) (hs : s.size = 128) :
    Calls Tryz.prog 109 #[.agg #[.int .u64 t.a, .int .u64 t.b, .int .u64 t.c, .int .u64 t.d, .int .u64 t.e, .int .u64 t.f, .int .u64 t.g, .int .u64 t.h], .string s] w fun e1 w' => e1 = .returned (.agg (Sha.mix t s.data.toList).cells) ∧ Below w.heap.size w w' :=
  rmix_any t.a t.b t.c t.d t.e t.f t.g t.h s w hs
set_option maxRecDepth 100000 in
set_option maxHeartbeats 1000000 in
theorem rsum_any (s : ByteArray) (w : World) (hs : s.size ≤ 19000000) :
    Calls Tryz.prog 68 #[.string s] w fun e w' => e = .returned (.string ⟨(Sha.sum s.data.toList).toArray⟩) ∧ Below w.heap.size w w' := by
  obtain ⟨T, hT⟩ : ∃ T : ByteArray, T = ⟨(Sha.ended s.data.toList s.size).toArray⟩ := ⟨_, rfl⟩
  have hTl : T.data.toList = Sha.ended s.data.toList s.size := by rw [hT]
  have hTs : T.size = T.data.toList.length := by simp
  have hTm : T.size % 128 = 0 := by rw [hTs, hTl]; exact Sha.ended_length _ _
  have hTb : T.size ≤ 20000000 := by
    rw [hTs, hTl]
    simp only [Sha.ended, List.length_append, Sha.marked_length, Sha.be_length]
    have : Sha.zeros s.data.toList.length < 128 := by unfold Sha.zeros; omega
    have : s.data.toList.length = s.size := by simp
    omega
  have HT : Hid (T = ⟨(Sha.ended s.data.toList s.size).toArray⟩ ∧ T.data.toList = Sha.ended s.data.toList s.size) := ⟨hT, hTl⟩
  obtain ⟨q, hq⟩ : ∃ q, T.size = 128 * q := ⟨T.size / 128, by omega⟩
  have HQ : Hid (T.size = 128 * q) := hq
  have hqi : (T.size : Int) ≤ 20000000 := by omega
  clear hT hTl hTs hTm hq
  go_enter Tryz.func68, Tryz.ntmps68
  go_wp2_with fail
  refine (padded_any s _ (by omega)).mono ?_
  rw [← HT.out.1]
  rintro e w1 ⟨rfl, hb1⟩
  go_wp2_with fail
  refine (rstart_any _).mono ?_
  rintro e w2 ⟨rfl, hb2⟩
  go_wp2_with (refine wpList_store_row rfl 177 _ _ rfl _ _ rfl rfl 177 _ (heap_alloc_new _ _) (by rw [ShaW.st_size]; exact info23) (by rfl) (ShaW.st_one _) ?_)
  rw [World.setRow_alloc_new]
  have hbW : Below w.heap.size w (w2.alloc (Obj.cells Sha.start.cells 177)) := by
    have h1 := hb1.size
    have h2 := hb2.size
    exact (hb1.trans (hb2.mono h1)).alloc (by omega) _
  have hWb : (w2.alloc (Obj.cells Sha.start.cells 177)).heap[w2.heap.size]? = some (.cells Sha.start.cells 177 (0, 0)) := heap_alloc_new _ _
  have hbb : w.heap.size ≤ w2.heap.size := Nat.le_trans hb1.size hb2.size
  generalize w2.alloc (Obj.cells Sha.start.cells 177) = W at hbW hWb
  generalize w2.heap.size = b at hWb hbb
  clear hb1 hb2
  have HW : Hid (W.heap[b]? = some (.cells Sha.start.cells 177 (0, 0)) ∧ Below w.heap.size w W) := ⟨hWb, hbW⟩
  clear hWb hbW
  go_loopw [5] (fun v wr => ∃ (m : Nat) (u : Sha.St), m ≤ q ∧ v = .int .i64 (128 * (m : Int)) ∧ Hid (u = Sha.mixN Sha.start T.data.toList m ∧ wr.heap[b]? = some (.cells u.cells 177 (0, 0)) ∧ Below w.heap.size w wr)) (fun v _ => 40000000 - (intOf v).toNat)
  case atStart => exact ⟨0, Sha.start, by omega, rfl, rfl, HW.out.1, HW.out.2⟩
  case round =>
    clear HW
    obtain ⟨m, u, hm, rfl, HH⟩ := hrel
    have HL : Hid (b < wr.heap.size) := by
      rcases Nat.lt_or_ge b wr.heap.size with h | h
      · exact h
      · have := HH.out.2.1; rw [Array.getElem?_eq_none h] at this; cases this
    by_cases hlt : m < q
    · have hq1 : 128 * (m : Int) + 128 ≤ T.size := by have := HQ.out; omega
      have c0 := cell_regrown (ShaW.cell (j := 0) HH.out.2.1 rfl)
      have c1 := cell_regrown (ShaW.cell (j := 1) HH.out.2.1 rfl)
      have c2 := cell_regrown (ShaW.cell (j := 2) HH.out.2.1 rfl)
      have c3 := cell_regrown (ShaW.cell (j := 3) HH.out.2.1 rfl)
      have c4 := cell_regrown (ShaW.cell (j := 4) HH.out.2.1 rfl)
      have c5 := cell_regrown (ShaW.cell (j := 5) HH.out.2.1 rfl)
      have c6 := cell_regrown (ShaW.cell (j := 6) HH.out.2.1 rfl)
      have c7 := cell_regrown (ShaW.cell (j := 7) HH.out.2.1 rfl)
      obtain ⟨x, hx⟩ : ∃ x, x = Sha.mix u (T.extract (128 * m) (128 * m + 128)).data.toList := ⟨_, rfl⟩
      have HM : Hid (∀ (d : Nat) (os : Array Obj), Calls Tryz.prog 109 #[.agg #[.int .u64 u.a, .int .u64 u.b, .int .u64 u.c, .int .u64 u.d, .int .u64 u.e, .int .u64 u.f, .int .u64 u.g, .int .u64 u.h], .string (T.extract (128 * m) (128 * m + 128))] (grow (redrawn wr d) os) fun e w'' => e = .returned (.agg x.cells) ∧ ∃ p : Regrown, w'' = grow (redrawn wr p.d) p.os) := by
        intro d os
        rw [hx]
        exact Calls.regrown_of (rmix_st u _ _ (by rw [ByteArray.size_extract]; omega))
      have HX : Hid (x = Sha.mixN Sha.start T.data.toList (m + 1)) := by
        have e1 : 128 * m + 128 - 128 * m = 128 := by omega
        have e2 := HH.out.1
        show x = _
        rw [hx, Sha.mixN_succ, ← e2, Sha.extract_list, e1]
      clear hx
      go_wp2_with fail
      refine QTail.wp_region_tail (fun w' => ∃ p : Regrown, w' = grow (redrawn wr p.d) p.os) 7 (by kernel_rfl) (by kernel_rfl) ⟨⟨wr.drawn + 1, #[]⟩, by rw [grow_empty]; rfl⟩ ?_
      simp only [List.take_succ_cons, List.take_zero, List.drop_succ_cons, List.drop_zero]
      repeat (first | go_big_quiet_step ((go_at_call 109; exact HM.out _ _)) | quiet_step ((go_at_call 109; exact HM.out _ _)))
      refine wpQuiet_nil ?_
      rintro _ ⟨⟨dq, osq⟩, rfl⟩
      clear HM
      have hbl := below_regrown wr dq osq
      generalize grow (redrawn wr dq) osq = V at hbl
      have HG : Hid (V.heap[b]? = some (.cells u.cells 177 (0, 0)) ∧ Below w.heap.size w V) := by
        obtain ⟨h1, h2, h3⟩ := HH.out
        exact ⟨(hbl.block b HL.out).trans h2, h3.trans (hbl.mono h3.size)⟩
      clear hbl c0 c1 c2 c3 c4 c5 c6 c7
      refine wpList_store_row rfl 177 _ _ rfl _ _ rfl rfl 177 _ HG.out.1 (by rw [ShaW.st_size]; exact info23) (by rw [ShaW.st_size, ShaW.st_size]) (ShaW.st_one _) ?_
      go_wp2
      go_roundw
      case rel => exact ⟨m + 1, x, by omega, by go_num, HX.out, setRow_heap _ _ _ _ _ _ HG.out.1, ShaW.below_setRow HG.out.2 hbb _⟩
      case measure => simp [intOf]; omega
    · have hmq : m = q := by omega
      subst hmq
      have hq1 : (T.size : Int) = 128 * (m : Int) := by have := HQ.out; omega
      have HU : Hid (Sha.out u = Sha.sum s.data.toList) := by
        have e : Sha.mixN Sha.start T.data.toList m = Sha.mixAll Sha.start T.data.toList := by
          unfold Sha.mixAll
          have : T.data.toList.length = T.size := by simp
          rw [this, HQ.out, Nat.mul_div_cancel_left _ (by decide)]
        have e2 : s.data.toList.length = s.size := by simp
        have e3 := HH.out.1
        have e4 := HT.out.2
        show Sha.out u = _
        rw [e3, e, e4, Sha.sum, e2]
      go_wp2_with fail
      go_loopw [6, 7] (fun vo vi wr2 => ∃ (i : Nat) (o : ByteArray), i ≤ 32 ∧ vi = .int .i64 i ∧ vo = .string o ∧ o.size ≤ 32 ∧ Hid (o.data.toList = (Sha.out u).take i ∧ wr2.heap[b]? = some (.cells u.cells 177 (0, 0)) ∧ Below w.heap.size w wr2)) (fun _ vi _ => 32 - (intOf vi).toNat)
      case atStart => exact ⟨0, _, by omega, rfl, rfl, by show (0 : Nat) ≤ 32; omega, rfl, HH.out.2.1, HH.out.2.2⟩
      case round =>
        clear HH HL
        obtain ⟨i, o, hi, rfl, rfl, ho, HH⟩ := hrel
        by_cases hli : i < 32
        · have hc : wr.cell? ⟨b, i / 8, none⟩ = some (.int .u64 (u.nth (i / 8))) := ShaW.cell HH.out.2.1 (Sha.cells_nth _ _ (by omega))
          have hi2 : (i : Int) < 32 := by omega
          have HO : Hid ((Sha.out u).take (i + 1) = (Sha.out u).take i ++ [Sha.byteOf (u.nth (i / 8) / 2 ^ (56 - i % 8 * 8))]) := Sha.take_next (Sha.out_at u i hli)
          go_wp2_with (refine ByteRow.to_string _ rfl 44 9 5 _ rfl [Sha.byteOf (u.nth (i / 8) / 2 ^ (56 - i % 8 * 8))] rfl (ByteRow.Has.one HH.out.2.2.size _ _ (Sha.byteV_of _).symm _) (by simp) under46 u5' u9' ?_)
          go_roundw
          case rel =>
            refine ⟨i + 1, _, by omega, by go_num, rfl, ?_, ?_, ?_, HH.out.2.2.alloc HH.out.2.2.size _⟩
            · have e1 := congrArg List.length HH.out.1
              rw [List.length_take_of_le (by rw [Sha.out_length]; omega)] at e1
              have e2 : o.data.toList.length = o.size := by simp
              rw [Sha.app_size]
              show o.size + 1 ≤ 32
              omega
            · have e1 := HH.out.1
              have e2 := HO.out
              show _ = _
              rw [Sha.app_list, e1, e2]
            · rw [heap_alloc_old _ _ (by
                rcases Nat.lt_or_ge b wr.heap.size with h | h
                · exact h
                · have := HH.out.2.1; rw [Array.getElem?_eq_none h] at this; cases this)]
              exact HH.out.2.1
          case measure => simp [intOf]; omega
        · have hi32 : i = 32 := by omega
          subst hi32
          go_wp2
          go_ret
          refine ⟨?_, HH.out.2.2⟩
          have hb : o = ⟨(Sha.sum s.data.toList).toArray⟩ := by
            apply Sha.ba_ext
            have e1 := HH.out.1
            have e2 := HU.out
            rw [e1, List.take_of_length_le (by rw [Sha.out_length]; omega), e2]
          show Ending.returned (Value.string o) = _
          rw [hb]
end Go.Proofs.YtkbboddibgfjbaaGreatDoor
/- Contracts of the reference on parts for a purpose. -/
namespace Go.Proofs.YtkbboddibgfjbaaGreatDoor
open Go.RowKit
open Go.Sort
theorem ShaW.be4 (n : Nat) (hn : n ≤ 2000000) : (#[Value.int IntKind.u8 ((n : Int) / 16777216), Value.int IntKind.u8 ((n : Int) / 65536 % 256), Value.int IntKind.u8 ((n : Int) / 256 % 256), Value.int IntKind.u8 ((n : Int) % 256)] : Array Value) = ((Sha.be n 4).map Sha.byteV).toArray := by
  have e3 : (2 : Int) ^ (8 * 3) = 16777216 := by decide
  have e2 : (2 : Int) ^ (8 * 2) = 65536 := by decide
  have e1 : (2 : Int) ^ (8 * 1) = 256 := by decide
  have e0 : (2 : Int) ^ (8 * 0) = 1 := by decide
  have e4 : (n : Int) / 16777216 % 256 = (n : Int) / 16777216 := by omega
  simp only [Sha.be, List.map_cons, List.map_nil, Sha.byteV_of, e3, e2, e1, e0, e4, Int.ediv_one]
set_option maxRecDepth 100000 in
set_option maxHeartbeats 1000000 in
theorem four_any (n : Nat) (w : World) (hn : n ≤ 2000000) :
    Calls Tryz.prog 122 #[.int .i64 n] w fun e w' => e = .returned (.string ⟨(Sha.be n 4).toArray⟩) ∧ Below w.heap.size w w' := by
  have hn2 : (n : Int) ≤ 2000000 := by omega
  go_enter Tryz.func122, Tryz.ntmps122
  go_wp2_with (refine ByteRow.to_string _ rfl 44 9 5 _ rfl (Sha.be n 4) rfl (ByteRow.Has.lit (Nat.le_refl _) _ _ _ (Sha.be_length _ _).symm (ShaW.be4 n hn) _) (by simp [Sha.be]) under46 shaUnder5 shaUnder9 ?_)
  go_ret
  exact ⟨rfl, (Below.refl _ _).alloc (Nat.le_refl _) _⟩
set_option maxRecDepth 100000 in
set_option maxHeartbeats 1000000 in
theorem rparts_any (p : UInt8) (v : Value) (xs : List ByteArray) (w : World) (hr : StrRow.Reads w v xs) (hn : xs.length ≤ 8) (hx : ∀ s ∈ xs, s.size ≤ 2000000) :
    Calls Tryz.prog 79 #[.int .u8 p.toNat, v] w fun e w' => e = .returned (.string ⟨(Sha.parts p (xs.map fun s => s.data.toList)).toArray⟩) ∧ Below w.heap.size w w' := by
  obtain ⟨a, c, rfl⟩ := hr.form
  have HR : Hid (StrRow.Reads w (.slice a xs.length c) xs) := hr
  clear hr
  have hn2 : (xs.length : Int) ≤ 8 := by omega
  go_enter Tryz.func79, Tryz.ntmps79
  go_wp2_with fail
  have hcv : ∀ (V : World) (g : Nat), V.cell? ⟨g, 0, none⟩ = some (.int .u8 p.toNat) → (convert 44 9 (.slice (some ⟨g, 0, none⟩) 1 1)).run Tryz.prog V = .ok (.string ⟨#[p]⟩) V := fun V g hc =>
    run_convert_bytes_back (P := Tryz.prog) V 44 9 5 ⟨g, 0, none⟩ 1 [p] under46 shaUnder5 shaUnder9 (fun j hj => by
      have hj0 : j = 0 := by simpa using hj
      subst hj0
      exact hc)
  go_cut [5, 6] (fun v u wr => ∃ r : ByteArray, v = .string r ∧ u = .string ⟨#[]⟩ ∧ r.size = 5 ∧ Hid (r.data.toList = [p] ++ Sha.be xs.length 4 ∧ Below w.heap.size w wr))
  case first =>
    go_region_with (go_at_call 122; go_must (refine (four_any xs.length _ (by omega)).mono ?_); rintro e w1 ⟨rfl, hb1⟩; first | (have hc : w1.cell? ⟨w.heap.size, 0, none⟩ = some (.int .u8 p.toNat) := by (rw [hb1.cell (p := ⟨w.heap.size, 0, none⟩) (by simp)]; simp)) | skip)
    all_goals
      go_wp2
      go_meet
      case rel =>
        refine ⟨_, rfl, rfl, ?_, ?_, ?_⟩
        · rw [Sha.app_size]
          show 1 + (Sha.be xs.length 4).toArray.size = 5
          rw [List.size_toArray, Sha.be_length]
        · show _ = _
          rw [Sha.app_list]
        · first | exact ((((Below.refl w.heap.size w).alloc (Nat.le_refl _) _).drew).trans (hb1.mono (by simp))) | exact ((((Below.refl w.heap.size w).drew).trans hb1).alloc hb1.size _)
  case rest =>
    obtain ⟨r, rfl, rfl, hr5, HH⟩ := hcut
    clear hcv
    go_wp2_with fail
    go_loopw [5, 6, 7] (fun vr vt vi wr => ∃ (i : Nat) (r t : ByteArray), i ≤ xs.length ∧ vi = .int .i64 i ∧ vr = .string r ∧ vt = .string t ∧ r.size ≤ 5 + 4 * i ∧ t.size ≤ 2000000 * i ∧ Hid (r.data.toList = [p] ++ Sha.be xs.length 4 ++ Sha.lens ((xs.take i).map fun s => s.data.toList) ∧ t.data.toList = ((xs.take i).map fun s => s.data.toList).flatten ∧ Below w.heap.size w wr)) (fun _ _ vi _ => 8 - (intOf vi).toNat)
    case atStart => exact ⟨0, r, _, by omega, rfl, rfl, rfl, by omega, by show (0 : Nat) ≤ _; omega, by rw [HH.out.1]; simp [Sha.lens], by simp, HH.out.2⟩
    case round =>
      clear HH hr5
      obtain ⟨i, r, t, hi, rfl, rfl, rfl, hr, ht, HH⟩ := hrel
      by_cases hlt : i < xs.length
      · obtain ⟨b, off, cap, hv, hcap, hbl⟩ := HR.out.at (by intro h; rw [h] at hlt; simp at hlt)
        simp only [Value.slice.injEq, true_and] at hv
        obtain ⟨rfl, rfl⟩ := hv
        obtain ⟨s, hs⟩ : ∃ s, xs[i]? = some s := ⟨_, List.getElem?_eq_getElem hlt⟩
        have hss : s.size ≤ 2000000 := hx s (List.mem_of_getElem? hs)
        have hcell : wr.cell? ⟨b, off + i, none⟩ = some (.string s) := (HH.out.2.2.cell (p := ⟨b, off + i, none⟩) hbl).trans (HR.out.cell hs)
        have HT : Hid ((xs.take (i + 1)).map (fun s => s.data.toList) = (xs.take i).map (fun s => s.data.toList) ++ [s.data.toList]) := by
          show _ = _
          rw [List.take_add_one, hs]; simp
        clear hs
        have hlt2 : (i : Int) < xs.length := by omega
        go_wp2_with fail
        refine (four_any s.size _ (by omega)).mono ?_
        rintro e w1 ⟨rfl, hb1⟩
        have hcell1 : w1.cell? ⟨b, off + i, none⟩ = some (.string s) := (hb1.cell (p := ⟨b, off + i, none⟩) (by show b < wr.heap.size; have := HH.out.2.2.size; omega)).trans hcell
        have H4 : Hid ((⟨(Sha.be s.size 4).toArray⟩ : ByteArray).size = 4 ∧ Below w.heap.size w w1) := ⟨by show (Sha.be s.size 4).toArray.size = 4; rw [List.size_toArray, Sha.be_length], HH.out.2.2.trans (hb1.mono HH.out.2.2.size)⟩
        have hb4 : (⟨(Sha.be s.size 4).toArray⟩ : ByteArray).size ≤ 4 := by rw [H4.out.1]; omega
        have HE : Hid ((⟨(Sha.be s.size 4).toArray⟩ : ByteArray).data.toList = Sha.be s.data.toList.length 4) := by
          show Sha.be s.size 4 = _
          rw [show s.data.toList.length = s.size by simp]
        generalize (⟨(Sha.be s.size 4).toArray⟩ : ByteArray) = f at *
        clear hb1 hcell
        go_wp2
        go_roundw
        case rel =>
          obtain ⟨h1, h2, h3⟩ := HH.out
          have e1 := HT.out
          have e2 := HE.out
          refine ⟨i + 1, r ++ f, t ++ s, by omega, by go_num, rfl, rfl, by rw [Sha.app_size]; omega, by rw [Sha.app_size]; omega, ?_, ?_, H4.out.2⟩
          · show _ = _
            rw [Sha.app_list, h1, e1, Sha.lens_snoc, e2, List.append_assoc]
          · rw [Sha.app_list, h2, e1]; simp
        case measure => simp [intOf]; omega
      · have hin : i = xs.length := by omega
        subst hin
        go_wp2
        go_ret
        refine ⟨?_, HH.out.2.2⟩
        have hb : r ++ t = ⟨(Sha.parts p (xs.map fun s => s.data.toList)).toArray⟩ := by
          apply Sha.ba_ext
          obtain ⟨h1, h2, _⟩ := HH.out
          rw [Sha.app_list, h1, h2, List.take_of_length_le (Nat.le_refl _), Sha.parts, List.length_map]
        show Ending.returned (Value.string (r ++ t)) = _
        rw [hb]
end Go.Proofs.YtkbboddibgfjbaaGreatDoor
/- Contracts of the digest of parts for a purpose. -/
namespace Go.Proofs.YtkbboddibgfjbaaGreatDoor
open Go.RowKit
open Go.Sort
theorem ShaW.flat_le : ∀ ys : List ByteArray, (∀ s ∈ ys, s.size ≤ 2000000) → (ys.map fun s => s.data.toList).flatten.length ≤ 2000000 * ys.length := by
  intro ys
  induction ys with
  | nil => intro _; simp
  | cons y ys ih =>
    intro h
    have h1 := ih (fun s hs => h s (by simp [hs]))
    have h2 := h y (by simp)
    have h3 : y.data.toList.length = y.size := by simp
    rw [List.map_cons, List.flatten_cons, List.length_append, h3, List.length_cons]
    omega
theorem ShaW.parts_le (p : UInt8) (xs : List ByteArray) (hn : xs.length ≤ 8) (hx : ∀ s ∈ xs, s.size ≤ 2000000) : (Sha.parts p (xs.map fun s => s.data.toList)).length ≤ 16000100 := by
  have h4 := ShaW.flat_le xs hx
  unfold Sha.parts
  rw [List.length_append, List.length_append, List.length_append, Sha.be_length, Sha.lens_length, List.length_map]
  have h5 : [p].length = 1 := rfl
  omega
set_option maxRecDepth 100000 in
set_option maxHeartbeats 1000000 in
theorem rtagged_any (p : UInt8) (v : Value) (xs : List ByteArray) (w : World) (hr : StrRow.Reads w v xs) (hn : xs.length ≤ 8) (hx : ∀ s ∈ xs, s.size ≤ 2000000) :
    Calls Tryz.prog 51 #[.int .u8 p.toNat, v] w fun e w' => e = .returned (.string ⟨(Sha.sum (Sha.parts p (xs.map fun s => s.data.toList))).toArray⟩) ∧ Below w.heap.size w w' := by
  have hl := ShaW.parts_le p xs hn hx
  go_enter Tryz.func51, Tryz.ntmps51
  go_wp2_with fail
  refine (rparts_any p v xs w hr hn hx).mono ?_
  rintro e w1 ⟨rfl, hb1⟩
  generalize hT : Sha.parts p (xs.map fun s => s.data.toList) = T at *
  have HT : Hid (Sha.parts p (xs.map fun s => s.data.toList) = T) := hT
  clear hT hr
  go_wp2_with fail
  refine (rsum_any ⟨T.toArray⟩ _ (by show T.toArray.size ≤ _; rw [List.size_toArray]; omega)).mono ?_
  rintro e w2 ⟨rfl, hb2⟩
  go_wp2
  go_ret
  exact ⟨by rw [HT.out]; rfl, hb1.trans (hb2.mono hb1.size)⟩
set_option maxRecDepth 100000 in
set_option maxHeartbeats 1000000 in
theorem tagged_any (p : UInt8) (v : Value) (xs : List ByteArray) (w : World) (hr : StrRow.Reads w v xs) (hn : xs.length ≤ 8) (hx : ∀ s ∈ xs, s.size ≤ 2000000) (hst : Steps w) :
    Calls Tryz.prog 52 #[.int .u8 p.toNat, v] w fun e w' => e = .returned (.string ⟨(Sha.sum (Sha.parts p (xs.map fun s => s.data.toList))).toArray⟩) ∧ Below w.heap.size w w' := by
  have hl := ShaW.parts_le p xs hn hx
  obtain ⟨i0, hif, hz0, hz1, hz2⟩ := info_parts shaInfo5
  obtain ⟨a, c, rfl⟩ := hr.form
  have HR : Hid (StrRow.Reads w (.slice a xs.length c) xs ∧ Steps w) := ⟨hr, hst⟩
  clear hr hst
  have hn2 : (xs.length : Int) ≤ 8 := by omega
  go_enter Tryz.func52, Tryz.ntmps52
  go_wp2_with fail
  refine (number_own w.heap.size _ [p] xs.length 4 _ (World.ownsRow_lit w #[.int .u8 p.toNat] 1 (Nat.le_refl _) (by unfold maxLen; omega) rfl) (by simp) (by simp) (by omega)).mono ?_
  rintro e w1 ⟨v1, rfl, hh1, hb1⟩
  have H1 : Hid (w1.ownsRow w.heap.size 5 1 v1 ([p] ++ Sha.be xs.length 4).length (([p] ++ Sha.be xs.length 4).map Sha.byteV) ∧ Below w.heap.size w w1) := ⟨hh1, ((Below.refl _ _).alloc (Nat.le_refl _) _).trans hb1⟩
  clear hh1 hb1
  go_wp2_with fail
  go_loopw [5, 18] (fun vb vi wr => ∃ (i : Nat), i ≤ xs.length ∧ vi = .int .i64 i ∧ Hid (wr.ownsRow w.heap.size 5 1 vb ([p] ++ Sha.be xs.length 4 ++ Sha.lens ((xs.take i).map fun s => s.data.toList)).length (([p] ++ Sha.be xs.length 4 ++ Sha.lens ((xs.take i).map fun s => s.data.toList)).map Sha.byteV) ∧ Below w.heap.size w wr)) (fun _ vi _ => 8 - (intOf vi).toNat)
  case atStart => exact ⟨0, by omega, rfl, by have h := H1.out; show _ ∧ _; simpa [Sha.lens] using h⟩
  case round =>
    clear H1
    obtain ⟨i, hi, rfl, HH⟩ := hrel
    by_cases hlt : i < xs.length
    · obtain ⟨b, off, cap, hv, hcap, hbl⟩ := HR.out.1.at (by intro h; rw [h] at hlt; simp at hlt)
      simp only [Value.slice.injEq, true_and] at hv
      obtain ⟨rfl, rfl⟩ := hv
      obtain ⟨s, hs⟩ : ∃ s, xs[i]? = some s := ⟨_, List.getElem?_eq_getElem hlt⟩
      have hss : s.size ≤ 2000000 := hx s (List.mem_of_getElem? hs)
      have hcell : wr.cell? ⟨b, off + i, none⟩ = some (.string s) := (HH.out.2.cell (p := ⟨b, off + i, none⟩) hbl).trans (HR.out.1.cell hs)
      have HT : Hid ((xs.take (i + 1)).map (fun s => s.data.toList) = (xs.take i).map (fun s => s.data.toList) ++ [s.data.toList]) := by
        show _ = _
        rw [List.take_add_one, hs]; simp
      clear hs
      have hlt2 : (i : Int) < xs.length := by omega
      have HL : Hid (([p] ++ Sha.be xs.length 4 ++ Sha.lens ((xs.take i).map fun s => s.data.toList)).length ≤ 1000000) := by
        show _ ≤ _
        rw [List.length_append, List.length_append, Sha.be_length, Sha.lens_length, List.length_map, List.length_take_of_le hi]
        have : [p].length = 1 := rfl
        omega
      generalize hLL : [p] ++ Sha.be xs.length 4 ++ Sha.lens ((xs.take i).map fun s => s.data.toList) = L at HH HL
      have HLL : Hid (L ++ Sha.be s.size 4 = [p] ++ Sha.be xs.length 4 ++ Sha.lens ((xs.take (i + 1)).map fun s => s.data.toList)) := by
        have e1 := HT.out
        show _ = _
        rw [e1, Sha.lens_snoc, ← List.append_assoc, hLL, show s.data.toList.length = s.size by simp]
      clear hLL HT
      go_wp2_with fail
      refine (number_own w.heap.size _ L s.size 4 _ HH.out.1 HH.out.2.size HL.out (by omega)).mono ?_
      rintro e w2 ⟨v2, rfl, hh2, hb2⟩
      have H2 : Hid (w2.ownsRow w.heap.size 5 1 v2 ([p] ++ Sha.be xs.length 4 ++ Sha.lens ((xs.take (i + 1)).map fun s => s.data.toList)).length (([p] ++ Sha.be xs.length 4 ++ Sha.lens ((xs.take (i + 1)).map fun s => s.data.toList)).map Sha.byteV) ∧ Below w.heap.size w w2) := by
        have e1 := HLL.out
        rw [← e1]
        exact ⟨hh2, HH.out.2.trans hb2⟩
      clear hh2 hb2
      go_wp2
      go_roundw
      case rel => exact ⟨i + 1, by omega, by go_num, H2.out⟩
      case measure => simp [intOf]; omega
    · have hin : i = xs.length := by omega
      subst hin
      rw [List.take_of_length_le (Nat.le_refl _)] at HH
      go_wp2_with fail
      go_loopw [5, 30] (fun vb vi wr => ∃ (i : Nat), i ≤ xs.length ∧ vi = .int .i64 i ∧ Hid (wr.ownsRow w.heap.size 5 1 vb ([p] ++ Sha.be xs.length 4 ++ Sha.lens (xs.map fun s => s.data.toList) ++ ((xs.take i).map fun s => s.data.toList).flatten).length (([p] ++ Sha.be xs.length 4 ++ Sha.lens (xs.map fun s => s.data.toList) ++ ((xs.take i).map fun s => s.data.toList).flatten).map Sha.byteV) ∧ Below w.heap.size w wr)) (fun _ vi _ => 8 - (intOf vi).toNat)
      case atStart => exact ⟨0, by omega, rfl, by have h := HH.out; show _ ∧ _; simpa using h⟩
      case round =>
        clear HH hlt
        obtain ⟨i, hi', rfl, HH⟩ := hrel
        by_cases hlt : i < xs.length
        · obtain ⟨b, off, cap, hv, hcap, hbl⟩ := HR.out.1.at (by intro h; rw [h] at hlt; simp at hlt)
          simp only [Value.slice.injEq, true_and] at hv
          obtain ⟨rfl, rfl⟩ := hv
          obtain ⟨s, hs⟩ : ∃ s, xs[i]? = some s := ⟨_, List.getElem?_eq_getElem hlt⟩
          have hss : s.size ≤ 2000000 := hx s (List.mem_of_getElem? hs)
          have hcell : wr.cell? ⟨b, off + i, none⟩ = some (.string s) := (HH.out.2.cell (p := ⟨b, off + i, none⟩) hbl).trans (HR.out.1.cell hs)
          have HT : Hid ((xs.take (i + 1)).map (fun s => s.data.toList) = (xs.take i).map (fun s => s.data.toList) ++ [s.data.toList]) := by
            show _ = _
            rw [List.take_add_one, hs]; simp
          clear hs
          have hlt2 : (i : Int) < xs.length := by omega
          have HL : Hid (([p] ++ Sha.be xs.length 4 ++ Sha.lens (xs.map fun s => s.data.toList) ++ ((xs.take i).map fun s => s.data.toList).flatten).length ≤ 16000100) := by
            show _ ≤ _
            rw [List.length_append, List.length_append, List.length_append, Sha.be_length, Sha.lens_length, List.length_map]
            have h2 := ShaW.flat_le (xs.take i) (fun s hs => hx s (List.mem_of_mem_take hs))
            rw [List.length_take_of_le hi'] at h2
            have h3 : [p].length = 1 := rfl
            omega
          generalize hLL : [p] ++ Sha.be xs.length 4 ++ Sha.lens (xs.map fun s => s.data.toList) ++ ((xs.take i).map fun s => s.data.toList).flatten = L at HH HL
          have HLL : Hid (L ++ s.data.toList = [p] ++ Sha.be xs.length 4 ++ Sha.lens (xs.map fun s => s.data.toList) ++ ((xs.take (i + 1)).map fun s => s.data.toList).flatten) := by
            have e1 := HT.out
            show _ = _
            rw [e1, List.flatten_append, ← List.append_assoc, hLL]; simp
          clear hLL HT
          go_wp2_with (at_builtin; refine Lib.wpList_append_own_string _ rfl _ _ 44 9 rfl w.heap.size 5 i0 under46 shaUnder9 hif hz0 hz1 hz2 _ _ _ rfl HH.out.1 s rfl ?_ ?_ ?_ ?_)
          · have := HL.out; unfold maxLen; omega
          · have := HL.out; omega
          · exact HH.out.2.size
          · intro v2 w2 hh2 hg2 _
            have hrow : Hid (∀ k, u5.ownBlock = some k → w.heap.size ≤ k) := fun k hk => (HH.out.1.lt k hk).1
            have H2 : Hid (w2.ownsRow w.heap.size 5 1 v2 ([p] ++ Sha.be xs.length 4 ++ Sha.lens (xs.map fun s => s.data.toList) ++ ((xs.take (i + 1)).map fun s => s.data.toList).flatten).length (([p] ++ Sha.be xs.length 4 ++ Sha.lens (xs.map fun s => s.data.toList) ++ ((xs.take (i + 1)).map fun s => s.data.toList).flatten).map Sha.byteV) ∧ Below w.heap.size w w2) := by
              have e1 := HLL.out
              rw [← e1]
              refine ⟨?_, HH.out.2.grown hg2 HH.out.2.size hrow.out⟩
              have e2 : (L ++ s.data.toList).length = L.length + s.size := by simp
              rw [e2, List.map_append]
              exact hh2
            clear hh2 hg2
            go_wp2
            go_roundw
            case rel => exact ⟨i + 1, by omega, by go_num, H2.out⟩
            case measure => simp [intOf]; omega
        · have hin : i = xs.length := by omega
          subst hin
          rw [List.take_of_length_le (Nat.le_refl _)] at HH
          have HF : Hid (ByteRow.Has w.heap.size wr u5 (Sha.parts p (xs.map fun s => s.data.toList)) ∧ Below w.heap.size w wr ∧ Steps wr) := by
            refine ⟨?_, HH.out.2, Steps.by HH.out.2 HR.out.2.pos HR.out.2⟩
            have h1 := ByteRow.Has.of_own HH.out.1
            unfold Sha.parts
            rw [List.length_map]
            exact h1
          clear HH
          generalize hT : Sha.parts p (xs.map fun s => s.data.toList) = T at HF hl
          have HT : Hid (Sha.parts p (xs.map fun s => s.data.toList) = T ∧ T ≠ []) := ⟨hT, by rw [← hT]; simp [Sha.parts]⟩
          clear hT
          go_wp2_with (refine ByteRow.to_string _ rfl 44 9 5 _ rfl T rfl HF.out.1 HT.out.2 under46 shaUnder5 shaUnder9 ?_)
          refine (sum_any ⟨T.toArray⟩ _ (by show T.toArray.size ≤ _; rw [List.size_toArray]; omega) HF.out.2.2).mono ?_
          rintro e w2 ⟨rfl, hb2⟩
          go_wp2
          go_ret
          exact ⟨by rw [HT.out.1]; rfl, HF.out.2.1.trans (hb2.mono HF.out.2.1.size)⟩
end Go.Proofs.YtkbboddibgfjbaaGreatDoor
