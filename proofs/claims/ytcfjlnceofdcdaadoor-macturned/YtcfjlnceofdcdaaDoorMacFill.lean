/- The contract of a key that is put ahead of noughts. -/
import Derived.Test.YtcfjlnceofdcdaaDoorMacLeaves
import Derived.Test.YtcfjlnceofdcdaaDoorShaSum
namespace Go.Sha
theorem fill_row (l : List UInt8) : ((cells noughts).toList.take 0 ++ Lib.byteCells l ++ (cells noughts).toList.drop (0 + l.length)).toArray = cells (l ++ List.replicate (128 - l.length) 0) := by
  have e : Lib.byteCells l = l.map byteV := rfl
  rw [e]
  simp only [cells, noughts, List.take_zero, List.nil_append, Nat.zero_add, List.map_append, List.map_replicate, List.drop_replicate]
end Go.Sha
namespace Go.Proofs.YtcfjlnceofdcdaaDoor
open Go.RowKit
open Go.Sort
theorem wpList_copy_row_string {P : Program} {w : World} {ops : Array Oper} {rest : List Oper} {o : Oper} {a : Act} {Q : Exit → Act → World → Prop} (hgd : o.guard = none) (d s : Operand) (dT sT : TypeId)
    (ho : o.op = .call { callee := .builtin .copy, args := #[d, s], argTypes := #[dT, sT] }) (elem : TypeId) (hu : P.underlying dT = some (.slice elem)) (hsz : (P.info? elem).map (·.size) = some 1)
    (g off dLen dCap : Nat) (x : ByteArray) (hd : a.eval d = .slice (some ⟨g, off, none⟩) dLen dCap) (hs : a.eval s = .string x)
    (cur : Array Value) (t : TypeId) (hg : w.heap[g]? = some (.cells cur t (0, 0))) (hle : x.size ≤ dLen) (hfit : off + x.size ≤ cur.size)
    (h : wpList P ops Q rest (a.put o.dst (goInt x.size)) (w.setRow g (cur.toList.take off ++ Lib.byteCells x.data.toList ++ cur.toList.drop (off + x.size)).toArray)) : wpList P ops Q (o :: rest) a w := by
  refine wpList_plain hgd fun K hK => ?_
  have hrun := Lib.run_copy_row_string (P := P) w dT sT o.type elem g off dLen dCap x cur t hu hsz hg hle hfit
  unfold Oper.wp
  simp only [List.append_assoc] at hrun h
  simp [execOp, ho, resolve, invoke, builtin, hd, hs, hrun, Result.andThen]
  exact hK _ _ h
theorem fill_world {w w1 W : World} {l : List UInt8} {k : ByteArray} {t : TypeId} {g : Nat} (hgs : g = w1.heap.size) (hW : (w1.alloc (.cells (Sha.cells Sha.noughts) t)).setRow g ((Sha.cells Sha.noughts).toList.take 0 ++ Lib.byteCells k.data.toList ++ (Sha.cells Sha.noughts).toList.drop (0 + k.size)).toArray = W) (hk : k.data.toList = Sha.longKey l ∧ k.size ≤ 128)
    (hg : w1.heap[w.heap.size]? = some (.cells (Sha.cells Sha.noughts) t (0, 0)) ∧ Below w.heap.size w w1) (hlt : w.heap.size < w1.heap.size) :
    W.heap[g]? = some (.cells (Sha.cells (Sha.filled l)) t (0, 0)) ∧ W.heap[w.heap.size]? = some (.cells (Sha.cells Sha.noughts) t (0, 0)) ∧ Below w.heap.size w W := by
  subst hgs
  have e : k.size = k.data.toList.length := by simp
  rw [e, hk.1, Sha.fill_row] at hW
  subst hW
  refine ⟨setRow_heap _ _ _ _ _ _ (heap_alloc_new _ _), ?_, ShaW.below_setRow (hg.2.alloc hg.2.size _) (Nat.le_of_lt hlt) _⟩
  rw [setRow_other _ _ _ _ (by omega)]
  exact ((Below.refl w1.heap.size w1).alloc (Nat.le_refl _) _).block _ hlt |>.trans hg.1
theorem size5 : (Tryd.prog.info? 5).map (·.size) = some 1 := by kernel_rfl
set_option maxRecDepth 100000 in
set_option maxHeartbeats 1000000 in
theorem fill_any (s : ByteArray) (w : World) (hs : s.size ≤ 1000000) (hst : Steps w) :
    Calls Tryd.prog 17 #[.string s] w fun e w' => e = .returned (.agg (Sha.cells (Sha.filled s.data.toList))) ∧ Below w.heap.size w w' := by
  have hz := (zero_of_info zero43).1
  by_cases h : 128 < s.size
  · have HL : Hid (Sha.longKey s.data.toList = Sha.sum s.data.toList) := by show _ = _; rw [Sha.longKey, if_pos (by simpa using h)]
    go_enter Tryd.func17, Tryd.ntmps17
    go_wp2_with fail
    refine (sum_any s _ hs (hst.alloc _)).mono ?_
    rintro e w1 ⟨rfl, hb1⟩
    have HG : Hid (w1.heap[w.heap.size]? = some (.cells (Sha.cells Sha.noughts) 43 (0, 0)) ∧ Below w.heap.size w w1) :=
      ⟨(hb1.block _ (by simp)).trans (heap_alloc_new _ _), ((Below.refl _ _).alloc (Nat.le_refl _) _).trans (hb1.mono (by simp))⟩
    clear hb1
    generalize hK : (⟨(Sha.sum s.data.toList).toArray⟩ : ByteArray) = k
    have HK : Hid (k.data.toList = Sha.longKey s.data.toList ∧ k.size ≤ 128) := by
      subst hK
      rw [HL.out]
      exact ⟨rfl, by show (Sha.sum s.data.toList).toArray.size ≤ 128; rw [List.size_toArray, Sha.sum_length]; omega⟩
    clear hK
    have hlt : w.heap.size < w1.heap.size := ByteRow.lt_of_block HG.out.1
    go_wp2_with (first
      | (refine wpList_copy_row_string rfl _ _ 40 9 rfl 5 under46 size5 w1.heap.size 0 128 128 k rfl rfl (Sha.cells Sha.noughts) 43 (heap_alloc_new _ _) HK.out.2 (by rw [Sha.cells_size, Sha.noughts_length]; have := HK.out.2; omega) ?_
         generalize hW : World.setRow _ _ _ = W
         have HW : Hid (W.heap[w1.heap.size]? = some (.cells (Sha.cells (Sha.filled s.data.toList)) 43 (0, 0)) ∧ W.heap[w.heap.size]? = some (.cells (Sha.cells Sha.noughts) 43 (0, 0)) ∧ Below w.heap.size w W) := fill_world rfl hW HK.out HG.out hlt
         clear hW)
      | refine wpList_load_row rfl 43 _ rfl _ rfl 43 _ (0, 0) _ HW.out.1 under43 rfl (by rw [Sha.cells_size, Sha.filled_length]; exact info43) ?_
      | refine wpList_store_row rfl 43 _ _ rfl _ _ rfl rfl 43 _ HW.out.2.1 (by rw [Sha.cells_size, Sha.filled_length]; exact info43) (by rw [Sha.cells_size, Sha.cells_size, Sha.noughts_length, Sha.filled_length]) (Sha.cells_one _) ?_)
    exact bodyPost_ret (v := .agg (Sha.cells (Sha.filled s.data.toList))) (results_cell_row Tryd.results17 _ _ _ 43 _ (0, 0) _ rfl (setRow_heap _ _ _ _ _ _ HW.out.2.1) under43 rfl (by rw [Sha.cells_size, Sha.filled_length]; exact info43)) rfl ⟨rfl, ShaW.below_setRow HW.out.2.2 (Nat.le_refl _) _⟩
  · have HK : Hid (s.data.toList = Sha.longKey s.data.toList ∧ s.size ≤ 128) := by
      refine ⟨?_, by omega⟩
      rw [Sha.longKey, if_neg (by simpa using h)]
    have HG : Hid ((w.alloc (.cells (Sha.cells Sha.noughts) 43)).heap[w.heap.size]? = some (.cells (Sha.cells Sha.noughts) 43 (0, 0)) ∧ Below w.heap.size w (w.alloc (.cells (Sha.cells Sha.noughts) 43))) := ⟨heap_alloc_new _ _, (Below.refl _ _).alloc (Nat.le_refl _) _⟩
    clear hst
    go_enter Tryd.func17, Tryd.ntmps17
    go_wp2_with (first
      | (refine wpList_copy_row_string rfl _ _ 40 9 rfl 5 under46 size5 (w.heap.size + 1) 0 128 128 s rfl rfl (Sha.cells Sha.noughts) 43 (heap_alloc2_new _ _ _) HK.out.2 (by rw [Sha.cells_size, Sha.noughts_length]; have := HK.out.2; omega) ?_
         generalize hW : World.setRow _ _ _ = W
         have HW : Hid (W.heap[w.heap.size + 1]? = some (.cells (Sha.cells (Sha.filled s.data.toList)) 43 (0, 0)) ∧ W.heap[w.heap.size]? = some (.cells (Sha.cells Sha.noughts) 43 (0, 0)) ∧ Below w.heap.size w W) := fill_world (w1 := w.alloc (.cells (Sha.cells Sha.noughts) 43)) (by simp) hW HK.out HG.out (by simp)
         clear hW)
      | refine wpList_load_row rfl 43 _ rfl _ rfl 43 _ (0, 0) _ HW.out.1 under43 rfl (by rw [Sha.cells_size, Sha.filled_length]; exact info43) ?_
      | refine wpList_store_row rfl 43 _ _ rfl _ _ rfl rfl 43 _ HW.out.2.1 (by rw [Sha.cells_size, Sha.filled_length]; exact info43) (by rw [Sha.cells_size, Sha.cells_size, Sha.noughts_length, Sha.filled_length]) (Sha.cells_one _) ?_)
    exact bodyPost_ret (v := .agg (Sha.cells (Sha.filled s.data.toList))) (results_cell_row Tryd.results17 _ _ _ 43 _ (0, 0) _ rfl (setRow_heap _ _ _ _ _ _ HW.out.2.1) under43 rfl (by rw [Sha.cells_size, Sha.filled_length]; exact info43)) rfl ⟨rfl, ShaW.below_setRow HW.out.2.2 (Nat.le_refl _) _⟩
end Go.Proofs.YtcfjlnceofdcdaaDoor
