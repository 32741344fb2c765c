/- The contract of mixing in bytes that are whole blocks. -/
import Derived.Test.YtcfjlnceofdcdaaDoorRows
import Derived.Test.YtcfjlnceofdcdaaDoorShaStart
import Derived.WalkKit
import Derived.WalkSpells
import Derived.WalkLawsBesides
import Derived.Deep.QuietTactic
import Derived.Deep.RegionWith
import Derived.Test.YtcfjlnceofdcdaaDoorTail
import Derived.BigQuiet
import Derived.Deep.WholeRow
import Derived.Lib.QuietBelow
namespace Go.Proofs.YtcfjlnceofdcdaaDoor
open Go.RowKit
open Go.Sort
theorem ShaW.st_one (u : Sha.St) : u.cells.all (·.oneCell') = true := by simp [Sha.St.cells, Value.oneCell']
theorem ShaW.st_size (u : Sha.St) : u.cells.size = 8 := rfl
theorem mix_st (t : Sha.St) (s : ByteArray) (w : World) (hs : s.size = 128) (hst : Steps w) :
    Calls Tryd.prog 32 #[.agg #[.int .u64 t.a, .int .u64 t.b, .int .u64 t.c, .int .u64 t.d, .int .u64 t.e, .int .u64 t.f, .int .u64 t.g, .int .u64 t.h], .string s] w fun e1 w' => e1 = .returned (.agg (Sha.mix t s.data.toList).cells) ∧ Below w.heap.size w w' :=
  mix_any t.a t.b t.c t.d t.e t.f t.g t.h s w hs hst
set_option maxRecDepth 100000 in
set_option maxHeartbeats 1000000 in
theorem mixAll_any (t : Sha.St) (s : ByteArray) (w : World) (hs : s.size ≤ 1000000) (hst : Steps w) :
    Calls Tryd.prog 24 #[.agg #[.int .u64 t.a, .int .u64 t.b, .int .u64 t.c, .int .u64 t.d, .int .u64 t.e, .int .u64 t.f, .int .u64 t.g, .int .u64 t.h], .string s] w fun e1 w' => e1 = .returned (.agg (Sha.mixAll t s.data.toList).cells) ∧ Below w.heap.size w w' := by
  have h0 := hst.pos
  have Hst : Hid (Steps w) := hst
  clear hst
  go_enter Tryd.func24, Tryd.ntmps24
  go_wp2_with fail
  go_loopw [1] (fun v wr => ∃ (r : ByteArray) (u : Sha.St), v = .string r ∧ r.size ≤ 1000000 ∧ Hid (Sha.mixAll u r.data.toList = Sha.mixAll t s.data.toList ∧ wr.heap[w.heap.size]? = some (.cells u.cells 52 (0, 0)) ∧ wr.heap[w.heap.size + 1]? = some (Obj.cells #[Value.int IntKind.u64 0, Value.int IntKind.u64 0, Value.int IntKind.u64 0, Value.int IntKind.u64 0, Value.int IntKind.u64 0, Value.int IntKind.u64 0, Value.int IntKind.u64 0, Value.int IntKind.u64 0] 52) ∧ Steps wr ∧ Below w.heap.size w wr ∧ w.heap.size + 2 ≤ wr.heap.size)) (fun v _ => match v with | .string r => r.size | _ => 0)
  case atStart =>
    refine ⟨s, t, rfl, hs, rfl, heap_alloc2_old _ _ _, heap_alloc2_new _ _ _, ?_, ((Below.refl _ _).alloc (Nat.le_refl _) _).alloc (by simp) _, by simp⟩
    exact (Hst.out.alloc _).alloc _
  case round =>
    obtain ⟨r, u, rfl, hr, HH⟩ := hrel
    by_cases hlt : 128 ≤ r.size
    · have c0 := cell_regrown (ShaW.cell (j := 0) HH.out.2.1 rfl)
      have c1 := cell_regrown (ShaW.cell (j := 1) HH.out.2.1 rfl)
      have c2 := cell_regrown (ShaW.cell (j := 2) HH.out.2.1 rfl)
      have c3 := cell_regrown (ShaW.cell (j := 3) HH.out.2.1 rfl)
      have c4 := cell_regrown (ShaW.cell (j := 4) HH.out.2.1 rfl)
      have c5 := cell_regrown (ShaW.cell (j := 5) HH.out.2.1 rfl)
      have c6 := cell_regrown (ShaW.cell (j := 6) HH.out.2.1 rfl)
      have c7 := cell_regrown (ShaW.cell (j := 7) HH.out.2.1 rfl)
      have hr2 : (128 : Int) ≤ r.size := by omega
      have cM : ∀ d os, Calls Tryd.prog 32 #[.agg #[.int .u64 u.a, .int .u64 u.b, .int .u64 u.c, .int .u64 u.d, .int .u64 u.e, .int .u64 u.f, .int .u64 u.g, .int .u64 u.h], .string (r.extract 0 128)] (grow (redrawn wr d) os) fun e w'' => e = .returned (.agg (Sha.mix u (r.extract 0 128).data.toList).cells) ∧ ∃ p : Regrown, w'' = grow (redrawn wr p.d) p.os := fun d os => Calls.regrown_of (mix_st u _ _ (by simp; omega) (HH.out.2.2.2.1.below (below_regrown wr d os) HH.out.2.2.2.1.pos))
      have HcM : Hid _ := cM
      clear cM
      go_wp2_with fail
      refine QTail.wp_region_tail (fun w' => ∃ p : Regrown, w' = grow (redrawn wr p.d) p.os) 4 (by kernel_rfl) (by kernel_rfl) ⟨⟨wr.drawn + 1, #[]⟩, by rw [grow_empty]; rfl⟩ ?_
      simp only [List.take_succ_cons, List.take_zero, List.drop_succ_cons, List.drop_zero]
      repeat (first | go_big_quiet_step (exact HcM.out _ _) | quiet_step (exact HcM.out _ _))
      refine wpQuiet_nil ?_
      rintro _ ⟨⟨dq, osq⟩, rfl⟩
      generalize hmx : Sha.mix u (r.extract 0 128).data.toList = x
      have HMX : Hid (x = Sha.mix u (r.extract 0 128).data.toList) := hmx.symm
      clear hmx HcM
      have hbl := below_regrown wr dq osq
      generalize grow (redrawn wr dq) osq = V at hbl
      have HG : Hid (V.heap[w.heap.size]? = some (.cells u.cells 52 (0, 0))) := by
        have := hbl.block w.heap.size (by have := HH.out.2.2.2.2.2; omega)
        exact this.trans HH.out.2.1
      have HB : Hid (Below wr.heap.size wr V) := hbl
      clear hbl c0 c1 c2 c3 c4 c5 c6 c7
      refine wpList_store_row rfl 52 _ _ rfl _ _ rfl rfl 52 _ HG.out (by rw [ShaW.st_size]; exact info23) (by rw [ShaW.st_size, ShaW.st_size]) (ShaW.st_one _) ?_
      go_wp2
      go_roundw
      case rel =>
        obtain ⟨h1, h2, h3, h4, h5, h6⟩ := HH.out
        have hb := HB.out
        refine ⟨r.extract 128 r.size, x, rfl, by simp; omega, ?_, setRow_heap _ _ _ _ _ _ HG.out, ?_, ?_, ?_, ?_⟩
        · rw [← h1, ← Sha.mixAll_extract u r hlt, ← HMX.out]
        · rw [setRow_other _ _ _ _ (by omega), hb.block _ (by omega)]; exact h3
        · exact Steps.by (ShaW.below_setRow (B := 0 + 1) (hb.mono (by omega)) (by omega) _) (by omega) h4
        · exact ShaW.below_setRow (h5.trans (hb.mono (by omega))) (Nat.le_refl _) _
        · have := hb.size; simp; omega
      case measure => simp; omega
    · have he : Sha.mixAll t s.data.toList = u := by rw [← HH.out.1, Sha.mixAll_end _ _ (by simp; omega)]
      have HE : Hid (Sha.mixAll t s.data.toList = u) := he
      have c0 := ShaW.cell (j := 0) HH.out.2.1 rfl
      have c1 := ShaW.cell (j := 1) HH.out.2.1 rfl
      have c2 := ShaW.cell (j := 2) HH.out.2.1 rfl
      have c3 := ShaW.cell (j := 3) HH.out.2.1 rfl
      have c4 := ShaW.cell (j := 4) HH.out.2.1 rfl
      have c5 := ShaW.cell (j := 5) HH.out.2.1 rfl
      have c6 := ShaW.cell (j := 6) HH.out.2.1 rfl
      have c7 := ShaW.cell (j := 7) HH.out.2.1 rfl
      clear he
      go_wp2_with (first | refine wpList_load_row rfl 52 _ rfl _ rfl 52 _ (0, 0) _ HH.out.2.1 under23 rfl (by rw [ShaW.st_size]; exact info23) ?_ | refine wpList_store_row rfl 52 _ _ rfl _ _ rfl rfl 52 _ HH.out.2.2.1 (by rw [ShaW.st_size]; exact info23) (by rw [ShaW.st_size]; rfl) (ShaW.st_one u) ?_)
      exact bodyPost_ret (v := .agg u.cells) (results_cell_row Tryd.results24 _ _ _ 52 _ (0, 0) _ rfl (setRow_heap _ _ _ _ _ _ HH.out.2.2.1) under23 rfl (by rw [ShaW.st_size]; exact info23)) rfl ⟨by rw [HE.out], ShaW.below_setRow HH.out.2.2.2.2.1 (by omega) _⟩
end Go.Proofs.YtcfjlnceofdcdaaDoor
