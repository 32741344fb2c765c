/- The contract of the tag of a text under a key. -/
import Derived.Test.YtcfjlnceofdcdaaDoorMacFill
namespace Go.Proofs.YtcfjlnceofdcdaaDoor
open Go.RowKit
open Go.Sort
/-- A row that is loaded, in a region whose operations only read. -/
theorem MacW.quiet_load_row {P : Program} {ops : Array Oper} {C : World → Prop} {Q : Act → Prop} {rest : List Oper} {o : Oper} {a : Act} (hgd : o.guard = none) (ty : TypeId) (x : Operand) (ho : o.op = .load ty x)
    (g : Nat) (hx : a.eval x = .pointer (some ⟨g, 0, none⟩)) (t : TypeId) (cs : Array Value) (fr : Nat × Nat) (d : TypeDesc) (hg : ∀ w, C w → w.heap[g]? = some (.cells cs t fr))
    (hu : P.underlying ty = some d) (hd : (match d with | .struct _ | .array _ _ => true | _ => false) = true) (hi : (P.info? ty).map (·.size) = some cs.size)
    (h : wpQuiet P ops C Q rest (a.put o.dst (.agg cs))) : wpQuiet P ops C Q (o :: rest) a := by
  refine wpQuiet_step fun K hK => ?_
  rw [if_pos (by simp [Region.wanted, hgd])]
  refine ⟨.agg cs, fun w hw => ?_, hK _ h⟩
  unfold Oper.quietAt execOp
  simp only [ho, hx, Instr.loadAt, Instr.sureAddr, Sem.run_bind, Sem.run_pure, Result.andThen_ok, run_loadVar_row w g t ty cs fr d (hg w hw) hu hd hi]
  exact ⟨rfl, rfl⟩
theorem MacW.cat (a b : List UInt8) : (⟨a.toArray⟩ ++ ⟨b.toArray⟩ : ByteArray) = ⟨(a ++ b).toArray⟩ := Sha.ba_ext (by rw [Sha.app_list])
theorem MacW.size (a : List UInt8) : (⟨a.toArray⟩ : ByteArray).size = a.length := by show a.toArray.size = _; simp
set_option maxRecDepth 100000 in
set_option maxHeartbeats 1000000 in
theorem of_any (k s : ByteArray) (w : World) (hk : k.size ≤ 1000000) (hs : s.size ≤ 900000) (hst : Steps w) :
    Calls Tryd.prog 8 #[.string k, .string s] w fun e w' => e = .returned (.string ⟨(Sha.tag k.data.toList s.data.toList).toArray⟩) ∧ Below w.heap.size w w' := by
  have hz := (zero_of_info zero43).1
  have h0 := hst.pos
  have HS : Hid (Steps w) := hst
  clear hst
  go_enter Tryd.func8, Tryd.ntmps8
  go_wp2_with fail
  refine (fill_any k _ hk HS.out).mono ?_
  rintro e w1 ⟨rfl, hb1⟩
  generalize hK : Sha.filled k.data.toList = K
  have HK : Hid (K.length = 128 ∧ Sha.filled k.data.toList = K) := ⟨by rw [← hK, Sha.filled_length], hK⟩
  clear hK
  have HB : Hid (Below w.heap.size w w1) := hb1
  clear hb1
  go_wp2_with (refine wpList_store_row rfl 43 _ _ rfl _ _ rfl rfl 43 _ (heap_alloc_new _ _) (by rw [Sha.cells_size, HK.out.1]; exact info43) (by rw [Sha.cells_size, Sha.cells_size, Sha.noughts_length, HK.out.1]) (Sha.cells_one _) ?_
               generalize hW : World.setRow _ _ _ = W
               have HW : Hid (W.heap[w1.heap.size]? = some (.cells (Sha.cells K) 43 (0, 0)) ∧ Below w.heap.size w W ∧ Steps W) := by
                 have hb : Below w.heap.size w W := by rw [← hW]; exact ShaW.below_setRow (HB.out.alloc HB.out.size _) HB.out.size _
                 exact ⟨by rw [← hW]; exact setRow_heap _ _ _ _ _ _ (heap_alloc_new _ _), hb, Steps.by hb h0 HS.out⟩
               clear hW)
  have HR : Hid (∀ w', (∃ p : Regrown, w' = grow (redrawn W p.d) p.os) → w'.heap[w1.heap.size]? = some (.cells (Sha.cells K) 43 (0, 0))) := by
    rintro w' ⟨p, rfl⟩
    exact ((below_regrown W p.d p.os).block _ (ByteRow.lt_of_block HW.out.1)).trans HW.out.1
  obtain ⟨ti, hti⟩ : ∃ ti : ByteArray, ti = ⟨(Sha.turned 54 K).toArray⟩ := ⟨_, rfl⟩
  obtain ⟨tu, hto⟩ : ∃ tu : ByteArray, tu = ⟨(Sha.turned 92 K).toArray⟩ := ⟨_, rfl⟩
  have hsi : ti.size = 128 := by rw [hti, MacW.size, Sha.turned_length, HK.out.1]
  have hso : tu.size = 128 := by rw [hto, MacW.size, Sha.turned_length, HK.out.1]
  obtain ⟨di, hdi⟩ : ∃ di : ByteArray, di = ⟨(Sha.sum (ti ++ s).data.toList).toArray⟩ := ⟨_, rfl⟩
  have hsd : di.size = 32 := by rw [hdi, MacW.size, Sha.sum_length]
  have H92 : Hid (∀ d os, Calls Tryd.prog 19 #[.agg (Sha.cells K), .int .u8 92] (grow (redrawn W d) os) fun e w'' => e = .returned (.string tu) ∧ ∃ p : Regrown, w'' = grow (redrawn W p.d) p.os) := by
    intro d os; rw [hto]; exact Calls.regrown_of (turned_any K 92 _ HK.out.1)
  have H54 : Hid (∀ d os, Calls Tryd.prog 19 #[.agg (Sha.cells K), .int .u8 54] (grow (redrawn W d) os) fun e w'' => e = .returned (.string ti) ∧ ∃ p : Regrown, w'' = grow (redrawn W p.d) p.os) := by
    intro d os; rw [hti]; exact Calls.regrown_of (turned_any K 54 _ HK.out.1)
  have HSt : Hid (∀ d os, Steps (grow (redrawn W d) os)) := fun d os => Steps.by (below_regrown W d os) HW.out.2.2.pos HW.out.2.2
  have HS1 : Hid (∀ d os, Calls Tryd.prog 18 #[.string (ti ++ s)] (grow (redrawn W d) os) fun e w'' => e = .returned (.string di) ∧ ∃ p : Regrown, w'' = grow (redrawn W p.d) p.os) := by
    intro d os; rw [hdi]; exact Calls.regrown_of (sum_any _ _ (by rw [Sha.app_size]; omega) (HSt.out d os))
  have HS2 : Hid (∀ d os, Calls Tryd.prog 18 #[.string (tu ++ di)] (grow (redrawn W d) os) fun e w'' => e = .returned (.string ⟨(Sha.tag k.data.toList s.data.toList).toArray⟩) ∧ ∃ p : Regrown, w'' = grow (redrawn W p.d) p.os) := by
    intro d os
    have e : Sha.tag k.data.toList s.data.toList = Sha.sum (tu ++ di).data.toList := by
      rw [Sha.tag, HK.out.2, Sha.app_list, hdi, hto, Sha.app_list, hti]
    rw [e]; exact Calls.regrown_of (sum_any _ _ (by rw [Sha.app_size]; omega) (HSt.out d os))
  clear hti hto hdi HSt
  have hc1 : ¬ 9223372036854775807 < 128 + s.size := by omega
  refine wp_region_quiet_below (by kernel_rfl) (by kernel_rfl) ?_
  refine MacW.quiet_load_row rfl 43 _ rfl w1.heap.size rfl 43 _ (0, 0) _ HR.out under43 rfl (by rw [Sha.cells_size, HK.out.1]; exact info43) ?_
  quiet_step (exact H92.out _ _)
  refine MacW.quiet_load_row rfl 43 _ rfl w1.heap.size rfl 43 _ (0, 0) _ HR.out under43 rfl (by rw [Sha.cells_size, HK.out.1]; exact info43) ?_
  quiet_step (exact H54.out _ _)
  quiet_step (fail)
  quiet_step (fail)
  quiet_step (exact HS1.out _ _)
  quiet_step (fail)
  quiet_step (exact HS2.out _ _)
  quiet_step (fail)
  refine wpQuiet_nil ?_
  rintro _ ⟨⟨dq, osq⟩, rfl⟩
  go_wp2
  go_ret
  exact ⟨rfl, HW.out.2.1.trans ((below_regrown W dq osq).mono HW.out.2.1.size)⟩
end Go.Proofs.YtcfjlnceofdcdaaDoor
