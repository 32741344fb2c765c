/- The contract of the mixing of a block in the reference. -/
import Derived.Test.YtcfjlnceofdcdaaDoorRows
import Derived.Test.YtcfjlnceofdcdaaDoorShaStart
import Derived.WalkKit
import Derived.WalkSpells
import Derived.WalkLawsBesides
import Derived.Deep.QuietTactic
import Derived.Deep.RegionWith
import Derived.Test.YtcfjlnceofdcdaaDoorTail
import Derived.BigQuiet
import Derived.Deep.WholeRow
namespace Go.Proofs.YtcfjlnceofdcdaaDoor
open Go.RowKit
theorem ShaW.wd_ref (s : List UInt8) (k : Nat) (h : 16 ≤ k) : IntKind.u64.wrap (IntKind.u64.wrap (IntKind.u64.wrap (Sha.wd s (k - 16) + bits BinOp.xor IntKind.u64 (bits BinOp.xor IntKind.u64 (Sha.rotr (Sha.wd s (k - 15)) 1) (Sha.rotr (Sha.wd s (k - 15)) 8)) (Sha.wd s (k - 15) / 128)) + Sha.wd s (k - 7)) +
    bits BinOp.xor IntKind.u64 (bits BinOp.xor IntKind.u64 (Sha.rotr (Sha.wd s (k - 2)) 19) (Sha.rotr (Sha.wd s (k - 2)) 61)) (Sha.wd s (k - 2) / 64)) = Sha.wd s k := by
  rw [Sha.wd_later s k h]; rfl
theorem built39 : (Tryd.prog.built 59 []).getD #[] = Sha.cells80 (fun _ => 0) := by kernel_rfl
set_option maxRecDepth 100000 in
set_option maxHeartbeats 4000000 in
theorem rmix_any (a b c d e f g h : Int) (s : ByteArray) (w : World) (hs : s.size = 128) :
    Calls Tryd.prog 30 #[.agg #[.int .u64 a, .int .u64 b, .int .u64 c, .int .u64 d, .int .u64 e, .int .u64 f, .int .u64 g, .int .u64 h], .string s] w fun e1 w' => e1 = .returned (.agg (Sha.mix ⟨a, b, c, d, e, f, g, h⟩ s.data.toList).cells) ∧ Below w.heap.size w w' := by
  have hs2 : (s.size : Int) = 128 := by omega
  have hz := (zero_of_info zero39).1
  go_enter Tryd.func30, Tryd.ntmps30
  go_wp2_with (refine wpList_build rfl 59 _ rfl (by kernel_rfl) ?_)
  rw [built39]
  refine (salts_any _).mono ?_
  rintro ee w1 ⟨rfl, hb⟩
  go_wp2_with (first | refine wpList_store_row rfl 59 _ _ rfl w1.heap.size _ rfl rfl 59 _ (heap_alloc2_old _ _ _) (by rw [Sha.cells80_size]; exact info39) (by simp only [Sha.cells80_size]) (ShaW.cells80_one _) ?_ | refine wpList_store_row rfl 59 _ _ rfl (w1.heap.size + 1) _ rfl rfl 59 _ (by rw [setRow_other _ _ _ _ (by omega)]; exact heap_alloc2_new _ _ _) (by rw [Sha.cells80_size]; exact info39) (by simp only [Sha.cells80_size]) (ShaW.cells80_one _) ?_)
  have hz1 : w.heap.size + 2 ≤ w1.heap.size := by have := hb.size; simpa using this
  generalize hW : ((((w1.alloc (Obj.cells (Sha.cells80 fun x => 0) 59)).alloc (Obj.cells (Sha.cells80 fun x => 0) 59)).setRow w1.heap.size (Sha.cells80 fun x => 0)).setRow (w1.heap.size + 1) (Sha.cells80 Sha.kk)) = W
  have hWw : W.heap[w1.heap.size]? = some (.cells (Sha.cells80 fun _ => 0) 59 (0, 0)) := by
    rw [← hW, setRow_other _ _ _ _ (by omega)]; exact setRow_heap _ _ _ _ _ _ (heap_alloc2_old _ _ _)
  have hWk : W.heap[w1.heap.size + 1]? = some (.cells (Sha.cells80 Sha.kk) 59 (0, 0)) := by
    rw [← hW]; exact setRow_heap _ _ _ _ _ _ (by rw [setRow_other _ _ _ _ (by omega)]; exact heap_alloc2_new _ _ _)
  have old : ∀ i, i < w.heap.size + 2 → W.heap[i]? = ((w.alloc (Obj.cells #[Value.int IntKind.u64 a, Value.int IntKind.u64 b, Value.int IntKind.u64 c, Value.int IntKind.u64 d, Value.int IntKind.u64 e, Value.int IntKind.u64 f, Value.int IntKind.u64 g, Value.int IntKind.u64 h] 52)).alloc (Obj.cells #[Value.int IntKind.u64 0, Value.int IntKind.u64 0, Value.int IntKind.u64 0, Value.int IntKind.u64 0, Value.int IntKind.u64 0, Value.int IntKind.u64 0, Value.int IntKind.u64 0, Value.int IntKind.u64 0] 52)).heap[i]? := by
    intro i hi
    rw [← hW, setRow_other _ _ _ _ (by omega), setRow_other _ _ _ _ (by omega), heap_alloc_old _ _ (by simp; omega), heap_alloc_old _ _ (by omega)]
    exact hb.block i (by simpa using hi)
  have hWh := (old w.heap.size (by omega)).trans (heap_alloc2_old _ _ _)
  have hWr := (old (w.heap.size + 1) (by omega)).trans (heap_alloc2_new _ _ _)
  have hbW : Below w.heap.size w W := by
    rw [← hW]
    exact ShaW.below_setRow (ShaW.below_setRow ((((((Below.refl _ _).alloc (Nat.le_refl _) _).alloc (by simp) _).trans (hb.mono (by simp; omega))).alloc (by omega) _).alloc (by simp; omega) _) (by omega) _) (by omega) _
  have hsW : w1.heap.size + 2 ≤ W.heap.size := by rw [← hW]; simp
  have HW : Hid (W.heap[w1.heap.size + 1]? = some (.cells (Sha.cells80 Sha.kk) 59 (0, 0)) ∧ W.heap[w.heap.size]? = some (Obj.cells #[Value.int IntKind.u64 a, Value.int IntKind.u64 b, Value.int IntKind.u64 c, Value.int IntKind.u64 d, Value.int IntKind.u64 e, Value.int IntKind.u64 f, Value.int IntKind.u64 g, Value.int IntKind.u64 h] 52) ∧ W.heap[w.heap.size + 1]? = some (Obj.cells #[Value.int IntKind.u64 0, Value.int IntKind.u64 0, Value.int IntKind.u64 0, Value.int IntKind.u64 0, Value.int IntKind.u64 0, Value.int IntKind.u64 0, Value.int IntKind.u64 0, Value.int IntKind.u64 0] 52) ∧ W.heap[w1.heap.size]? = some (.cells (Sha.cells80 fun _ => 0) 59 (0, 0)) ∧ Below w.heap.size w W) := ⟨hWk, hWh, hWr, hWw, hbW⟩
  clear hW hb old hz hWk hWh hWr hWw hbW
  go_wp2_with fail
  go_loopw [7] (fun t wr => ∃ (k : Nat) (cs : Array Value), k ≤ 128 ∧ t = .int .i64 k ∧ Hid (wr.heap[w1.heap.size]? = some (.cells cs 59 (0, 0)) ∧ cs.size = 80 ∧ (∀ j, j < 80 → cs[j]? = some (.int .u64 (Sha.pw s.data.toList k j))) ∧ (∀ i, i ≠ w1.heap.size → wr.heap[i]? = W.heap[i]?) ∧ Below w.heap.size w wr)) (fun t _ => 128 - (intOf t).toNat)
  case atStart =>
    exact ⟨0, _, by omega, rfl, HW.out.2.2.2.1, Sha.cells80_size _, fun j hj => by rw [Sha.pw_zero]; exact Sha.cells80_at _ _ hj, fun _ _ => rfl, HW.out.2.2.2.2⟩
  case round =>
    obtain ⟨k, cs, hk, rfl, HH⟩ := hrel
    by_cases hlt : k < 128
    · have hcell : wr.cell? ⟨w1.heap.size, k / 8, none⟩ = some (.int .u64 (Sha.pw s.data.toList k (k / 8))) := ShaW.cell HH.out.1 (HH.out.2.2.1 _ (by omega))
      have hfr : wr.frozen? ⟨w1.heap.size, k / 8, none⟩ = false := frozen_of_row _ _ _ _ _ HH.out.1
      have hk1 : (k : Int) < 128 := by omega
      go_wp2_with fail
      refine QTail.wp_region_tail (fun w' => ∃ n, w' = wr.drewN n) 12 (by kernel_rfl) (by kernel_rfl) ⟨1, rfl⟩ ?_
      simp only [List.take_succ_cons, List.take_zero, List.drop_succ_cons, List.drop_zero]
      repeat (first | go_big_quiet_step (fail) | quiet_step (fail))
      refine wpQuiet_nil ?_
      rintro _ ⟨nq, rfl⟩
      rw [← Sha.pw_next s k (by omega)]
      go_wp2
      go_roundw
      case rel =>
        obtain ⟨hg, hsz, hcs, hot, hb⟩ := HH.out
        refine ⟨k + 1, cs.setIfInBounds (k / 8) (.int .u64 (Sha.pw s.data.toList (k + 1) (k / 8))), by omega, by go_num, ?_, by simpa using hsz, fun j hj => ?_, fun i hi => ?_, ?_⟩
        · exact heap_setCell_same (wr.drewN nq) _ _ _ _ _ hg
        · by_cases e : j = k / 8
          · subst e; rw [Array.getElem?_setIfInBounds_self_of_lt (by omega)]
          · rw [Array.getElem?_setIfInBounds_ne (by omega), Sha.pw_other _ _ _ e]; exact hcs j (by omega)
        · rw [heap_setCell_other _ _ _ _ hi]; exact hot i hi
        · exact (below_drewN hb nq).setCell (by show w.heap.size ≤ w1.heap.size; omega) _
      case measure => simp [intOf]; omega
    · have hk128 : k = 128 := by omega
      subst hk128
      go_wp2_with fail
      go_loopw [8] (fun t wr => ∃ (k : Nat) (cs : Array Value), 16 ≤ k ∧ k ≤ 80 ∧ t = .int .i64 k ∧ Hid (wr.heap[w1.heap.size]? = some (.cells cs 59 (0, 0)) ∧ cs.size = 80 ∧ (∀ j, j < k → cs[j]? = some (.int .u64 (Sha.wd s.data.toList j))) ∧ (∀ i, i ≠ w1.heap.size → wr.heap[i]? = W.heap[i]?) ∧ Below w.heap.size w wr)) (fun t _ => 80 - (intOf t).toNat)
      case atStart =>
        obtain ⟨hg, hsz, hcs, hot, hb⟩ := HH.out
        exact ⟨16, cs, by omega, by omega, rfl, hg, hsz, fun j hj => by rw [← Sha.pw_whole _ _ hj]; exact hcs j (by omega), hot, hb⟩
      case round =>
        clear HH hk hlt
        obtain ⟨k, cs, hk16, hk, rfl, HH⟩ := hrel
        by_cases hlt : k < 80
        · obtain ⟨v, hv⟩ : ∃ v, cs[k]? = some v := ⟨_, Array.getElem?_eq_getElem (by have := HH.out.2.1; omega)⟩
          have hk1 : (16 : Int) ≤ k := by omega
          have hk2 : (k : Int) < 80 := by omega
          have h15 : wr.cell? ⟨w1.heap.size, k - 15, none⟩ = some (.int .u64 (Sha.wd s.data.toList (k - 15))) := ShaW.cell HH.out.1 (HH.out.2.2.1 _ (by omega))
          have h2 : wr.cell? ⟨w1.heap.size, k - 2, none⟩ = some (.int .u64 (Sha.wd s.data.toList (k - 2))) := ShaW.cell HH.out.1 (HH.out.2.2.1 _ (by omega))
          have HV : Hid (wr.cell? ⟨w1.heap.size, k, none⟩ = some v) := ShaW.cell HH.out.1 hv
          clear hv
          go_wp2_with fail
          go_quiet (fail)
          clear h15 h2
          obtain ⟨V, hV⟩ : ∃ V, V = wr.drewN nq := ⟨_, rfl⟩
          rw [← hV]
          have hcell : V.cell? ⟨w1.heap.size, k, none⟩ = some v := by rw [hV]; exact HV.out
          have hfr : V.frozen? ⟨w1.heap.size, k, none⟩ = false := by rw [hV]; exact frozen_of_row wr _ _ _ _ HH.out.1
          have h16 : V.cell? ⟨w1.heap.size, k - 16, none⟩ = some (.int .u64 (Sha.wd s.data.toList (k - 16))) := by rw [hV]; exact ShaW.cell (W := wr) HH.out.1 (HH.out.2.2.1 _ (by omega))
          have h7 : V.cell? ⟨w1.heap.size, k - 7, none⟩ = some (.int .u64 (Sha.wd s.data.toList (k - 7))) := by rw [hV]; exact ShaW.cell (W := wr) HH.out.1 (HH.out.2.2.1 _ (by omega))
          have HVV : Hid (V = wr.drewN nq) := hV
          clear hV HV
          go_wp2_with fail
          refine QTail.wp_region_tail (fun w' => ∃ n, w' = V.drewN n) 28 (by kernel_rfl) (by kernel_rfl) ⟨1, rfl⟩ ?_
          simp only [List.take_succ_cons, List.take_zero, List.drop_succ_cons, List.drop_zero]
          repeat (first | go_big_quiet_step ((go_at_call 35; exact Calls.quiet_of_same (rturn_any _ _ _ (by omega) (by omega)))) | quiet_step ((go_at_call 35; exact Calls.quiet_of_same (rturn_any _ _ _ (by omega) (by omega)))))
          refine wpQuiet_nil ?_
          rintro _ ⟨nq2, rfl⟩
          rw [ShaW.wd_ref s.data.toList k hk16]
          go_wp2
          go_roundw
          case rel =>
            obtain ⟨hg, hsz, hcs, hot, hb⟩ := HH.out
            have hV := HVV.out
            refine ⟨k + 1, cs.setIfInBounds k (.int .u64 (Sha.wd s.data.toList k)), by omega, by omega, by go_num, ?_, by simpa using hsz, fun j hj => ?_, fun i hi => ?_, ?_⟩
            · exact heap_setCell_same (V.drewN nq2) _ _ _ _ _ (by rw [hV]; exact hg)
            · by_cases e : j = k
              · subst e; rw [Array.getElem?_setIfInBounds_self_of_lt (by omega)]
              · rw [Array.getElem?_setIfInBounds_ne (by omega)]; exact hcs j (by omega)
            · rw [heap_setCell_other _ _ _ _ hi, hV]; exact hot i hi
            · rw [hV]; exact (below_drewN (below_drewN hb nq) nq2).setCell (by show w.heap.size ≤ w1.heap.size; omega) _
          case measure => simp [intOf]; omega
        · have hk80 : k = 80 := by omega
          subst hk80
          have hcs80 : cs = Sha.cells80 (Sha.wd s.data.toList) := Sha.cells80_of _ cs HH.out.2.1 HH.out.2.2.1
          obtain ⟨W2, rfl⟩ : ∃ V, V = wr := ⟨_, rfl⟩
          have HX : Hid (W2.heap[w1.heap.size]? = some (.cells (Sha.cells80 (Sha.wd s.data.toList)) 59 (0, 0)) ∧ W2.heap[w1.heap.size + 1]? = some (.cells (Sha.cells80 Sha.kk) 59 (0, 0)) ∧ W2.heap[w.heap.size + 1]? = some (Obj.cells #[Value.int IntKind.u64 0, Value.int IntKind.u64 0, Value.int IntKind.u64 0, Value.int IntKind.u64 0, Value.int IntKind.u64 0, Value.int IntKind.u64 0, Value.int IntKind.u64 0, Value.int IntKind.u64 0] 52) ∧ Below w.heap.size w W2) := by
            obtain ⟨hg, hsz, hcs, hot, hb⟩ := HH.out
            refine ⟨by rw [← hcs80]; exact hg, ?_, ?_, hb⟩
            · rw [hot _ (by omega)]; exact HW.out.1
            · rw [hot _ (by omega)]; exact HW.out.2.2.1
          have hWh : W2.heap[w.heap.size]? = some (Obj.cells #[Value.int IntKind.u64 a, Value.int IntKind.u64 b, Value.int IntKind.u64 c, Value.int IntKind.u64 d, Value.int IntKind.u64 e, Value.int IntKind.u64 f, Value.int IntKind.u64 g, Value.int IntKind.u64 h] 52) := by rw [HH.out.2.2.2.1 _ (by omega)]; exact HW.out.2.1
          clear HH HW hcs80 cs
          have c0 := ShaW.cell (j := 0) hWh rfl
          have c1 := ShaW.cell (j := 1) hWh rfl
          have c2 := ShaW.cell (j := 2) hWh rfl
          have c3 := ShaW.cell (j := 3) hWh rfl
          have c4 := ShaW.cell (j := 4) hWh rfl
          have c5 := ShaW.cell (j := 5) hWh rfl
          have c6 := ShaW.cell (j := 6) hWh rfl
          have c7 := ShaW.cell (j := 7) hWh rfl
          clear hWh
          go_wp2_with fail
          go_quiet (fail)
          go_wp2_with fail
          go_loopw [11, 12, 13, 14, 15, 16, 17, 18, 19] (fun va vb vc vd ve vf vg vh vi wr => ∃ (k : Nat) (t : Sha.St), k ≤ 80 ∧ vi = .int .i64 k ∧ Hid (t = Sha.steps Sha.kk (Sha.wd s.data.toList) ⟨a, b, c, d, e, f, g, h⟩ k) ∧ va = .int .u64 t.a ∧ vb = .int .u64 t.b ∧ vc = .int .u64 t.c ∧ vd = .int .u64 t.d ∧ ve = .int .u64 t.e ∧ vf = .int .u64 t.f ∧ vg = .int .u64 t.g ∧ vh = .int .u64 t.h ∧ Hid (∃ n, wr = W2.drewN n)) (fun _ _ _ _ _ _ _ _ vi _ => 80 - (intOf vi).toNat)
          case atStart => exact ⟨0, _, by omega, rfl, rfl, rfl, rfl, rfl, rfl, rfl, rfl, rfl, rfl, nq, rfl⟩
          case round =>
            clear hlt hk
            obtain ⟨k, t, hk, rfl, ht, rfl, rfl, rfl, rfl, rfl, rfl, rfl, rfl, hwr⟩ := hrel
            by_cases hlt : k < 80
            · have cw : wr.cell? ⟨w1.heap.size, k, none⟩ = some (.int .u64 (Sha.wd s.data.toList k)) := by
                obtain ⟨n, rfl⟩ := hwr.out
                exact ShaW.cell (W := W2.drewN n) HX.out.1 (Sha.cells80_at _ _ hlt)
              have ck : wr.cell? ⟨w1.heap.size + 1, k, none⟩ = some (.int .u64 (Sha.kk k)) := by
                obtain ⟨n, rfl⟩ := hwr.out
                exact ShaW.cell (W := W2.drewN n) HX.out.2.1 (Sha.cells80_at _ _ hlt)
              clear c0 c1 c2 c3 c4 c5 c6 c7
              go_wp2_with fail
              go_quiet ((go_at_call 35; exact Calls.quiet_of_same (rturn_any _ _ _ (by omega) (by omega))))
              go_wp2_with (go_at_call 35; refine (rturn_any _ _ _ (by omega) (by omega)).mono ?_; rintro e w' ⟨rfl, rfl⟩)
              go_roundw
              case rel =>
                rw [Sha.ref_inv]
                have hres : ∃ (k' : Nat) (t' : Sha.St), k' ≤ 80 ∧ Value.int .i64 ((k : Int) + 1) = .int .i64 k' ∧ Hid (t' = Sha.steps Sha.kk (Sha.wd s.data.toList) ⟨a, b, c, d, e, f, g, h⟩ k') ∧ t' = Sha.step t (Sha.kk k) (Sha.wd s.data.toList k) :=
                  ⟨k + 1, _, by omega, by go_num, by rw [ht.out]; rfl, rfl⟩
                obtain ⟨k', t', h1, h2, h3, h4⟩ := hres
                (repeat apply Exists.intro)
                refine ⟨?_, rfl⟩
                refine ⟨k', t', h1, h2, h3, ?_⟩
                rw [h4]
                exact ⟨rfl, rfl, rfl, rfl, rfl, rfl, rfl, rfl, by obtain ⟨n, rfl⟩ := hwr.out; exact ⟨_, World.drewN_drewN _ _ _⟩⟩
              case measure => simp [intOf]; omega
            · have hk80 : k = 80 := by omega
              subst hk80
              have d0 : wr.cell? ⟨w.heap.size, 0, none⟩ = some (.int .u64 a) := by obtain ⟨n, rfl⟩ := hwr.out; exact c0
              have d1 : wr.cell? ⟨w.heap.size, 1, none⟩ = some (.int .u64 b) := by obtain ⟨n, rfl⟩ := hwr.out; exact c1
              have d2 : wr.cell? ⟨w.heap.size, 2, none⟩ = some (.int .u64 c) := by obtain ⟨n, rfl⟩ := hwr.out; exact c2
              have d3 : wr.cell? ⟨w.heap.size, 3, none⟩ = some (.int .u64 d) := by obtain ⟨n, rfl⟩ := hwr.out; exact c3
              have d4 : wr.cell? ⟨w.heap.size, 4, none⟩ = some (.int .u64 e) := by obtain ⟨n, rfl⟩ := hwr.out; exact c4
              have d5 : wr.cell? ⟨w.heap.size, 5, none⟩ = some (.int .u64 f) := by obtain ⟨n, rfl⟩ := hwr.out; exact c5
              have d6 : wr.cell? ⟨w.heap.size, 6, none⟩ = some (.int .u64 g) := by obtain ⟨n, rfl⟩ := hwr.out; exact c6
              have d7 : wr.cell? ⟨w.heap.size, 7, none⟩ = some (.int .u64 h) := by obtain ⟨n, rfl⟩ := hwr.out; exact c7
              have hWr : Hid (wr.heap[w.heap.size + 1]? = some (Obj.cells #[Value.int IntKind.u64 0, Value.int IntKind.u64 0, Value.int IntKind.u64 0, Value.int IntKind.u64 0, Value.int IntKind.u64 0, Value.int IntKind.u64 0, Value.int IntKind.u64 0, Value.int IntKind.u64 0] 52)) := by obtain ⟨n, rfl⟩ := hwr.out; exact HX.out.2.2.1
              clear c0 c1 c2 c3 c4 c5 c6 c7
              go_wp2_with (refine wpList_store_row rfl 52 _ _ rfl _ _ rfl rfl 52 _ hWr.out (by exact info23) (by rfl) (by simp [Value.oneCell']) ?_)
              have hv : (Sha.mix ⟨a, b, c, d, e, f, g, h⟩ s.data.toList).cells = (Sha.St.plus ⟨a, b, c, d, e, f, g, h⟩ t).cells := by rw [ht.out]; rfl
              rw [hv]
              exact bodyPost_ret (v := .agg (Sha.St.plus ⟨a, b, c, d, e, f, g, h⟩ t).cells) (results_cell_row Tryd.results30 _ _ _ 52 _ (0, 0) _ rfl (setRow_heap _ _ _ _ _ _ hWr.out) under23 rfl (by exact info23)) rfl ⟨rfl, by obtain ⟨n, rfl⟩ := hwr.out; exact ShaW.below_setRow (below_drewN HX.out.2.2.2 n) (by omega) _⟩
end Go.Proofs.YtcfjlnceofdcdaaDoor
