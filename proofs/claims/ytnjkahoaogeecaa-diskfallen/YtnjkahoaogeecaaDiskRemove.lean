/- Contract: a file goes. -/
import Derived.Test.YtnjkahoaogeecaaDiskStruck
namespace Go.Dk
/-- Behind a change that leaves other files. -/
def A.left (a : A) (l : List AF) : A := { a with files := l, changes := a.changes + 1 }
end Go.Dk
namespace Go.Proofs.Ytnjkahoaogeecaa
open Go.RowKit Go.Dk
set_option maxRecDepth 100000 in
set_option maxHeartbeats 1000000 in
theorem removefn_any (base K d : Nat) (S : WD) (w : World) (h : DiskAt Try.prog base K d w S) (hl : K + 1 ≤ 100000) (name : ByteArray) (hns : name.size ≤ maxLen) (F : WF) (hf : seek WF.nm name.data.toList S.fs = some F)
    (g0 g1 : Nat) (b0 : w.heap[g0]? = some (.cells #[.pointer (some ⟨d, 0, none⟩)] 23 (0, 0))) (b1 : w.heap[g1]? = some (.cells #[.string name] 9 (0, 0))) :
    Calls Try.prog 50 #[.pointer (some ⟨g0, 0, none⟩), .pointer (some ⟨g1, 0, none⟩)] w fun e w' => e = .returned (.tuple #[]) ∧
      ∃ T : WD, T.counted.a = S.a.left (del AF.name name.data.toList S.a.files) ∧ T.a.changes = S.a.changes ∧ DiskAt Try.prog base (K + 1) d w' T ∧ Dsk base w w' := by
  obtain ⟨hm, hnm⟩ := seek_some hf
  obtain ⟨b, n, hmb, hn, hown⟩ : ∃ b n, S.mb = some b ∧ n ≤ K ∧ w.ownsMap Try.prog 9 Rp b n (Dfs S.fs) := by
    rcases h.map with ⟨_, e⟩ | ⟨b, n, e, _, hn, hown⟩
    · rw [e] at hm; cases hm
    · exact ⟨b, n, e, hn, hown⟩
  have hrow := h.row
  unfold drow at hrow
  obtain ⟨c0, -⟩ := cells6 hrow
  rw [hmb] at c0
  have q0 : w.cell? ⟨g0, 0, none⟩ = some (.pointer (some ⟨d, 0, none⟩)) := by rw [cell_of_row _ _ _ _ _ _ b0]; rfl
  have q1 : w.cell? ⟨g1, 0, none⟩ = some (.string name) := by rw [cell_of_row _ _ _ _ _ _ b1]; rfl
  have hkey : keyOf Try.prog 9 (.string name) = some (.string name.data.toList) := WideMaps.keyOf_string_mk Try.underlying9 hns
  have HFin : Hid (∀ q w2, w2.ownsMap Try.prog 9 Rp b n ((Dfs S.fs).del (.string name.data.toList)) → (w.drewN q).mapTurned w2 b → ∃ T : WD, T.counted.a = S.a.left (del AF.name name.data.toList S.a.files) ∧ T.a.changes = S.a.changes ∧ DiskAt Try.prog base (K + 1) d w2 T ∧ Dsk base w w2) := fun q w2 ho ht => by
    have hq : DiskAt Try.prog base K d (w.drewN q) S := h.below ⟨rfl, rfl, rfl, Nat.le_refl _, fun _ _ => rfl⟩
    obtain ⟨k1, k2⟩ := hq.gone hmb hn name.data.toList ho ht
    refine ⟨S.withF (del WF.nm name.data.toList S.fs), ?_, rfl, k1.mono (Nat.le_succ _) hl, ⟨k2.os, k2.tape, k2.output, k2.size, k2.block⟩⟩
    unfold WD.counted WD.withF A.left
    simp only
    rw [map_del (na := WF.nm) (nb := AF.name) WF.a (fun _ => rfl), h.same]
  have HO : Hid (∀ q, (w.drewN q).ownsMap Try.prog 9 Rp b n (Dfs S.fs)) := fun q => hown
  clear h hrow b0 b1 hown hm hnm hf
  go_enter Try.func50, Try.ntmps50
  refine QTail.wp_region_tail (fun w' => ∃ n, w' = w.drewN n) 5 (by kernel_rfl) (by kernel_rfl) ⟨1, rfl⟩ ?_
  simp only [List.take_succ_cons, List.take_zero, List.drop_succ_cons, List.drop_zero]
  repeat (first | go_big_quiet_step (fail) | quiet_step (fail))
  refine wpQuiet_nil ?_
  rintro _ ⟨nq, rfl⟩
  go_wp2_with (first
    | (at_delete; refine wpList_delete_own _ rfl _ _ 72 9 rfl 68 law9 Try.underlying72 _ b n _ rfl (HO.out nq) _ _ rfl hkey ?_; intro w2 hown2 hturn2)
    | go_in)
  go_end0
  exact ⟨rfl, HFin.out nq w2 hown2 hturn2⟩
/-- What may be found under a name, told as an error. -/
theorem remove_err (base K d : Nat) (S : WD) (name : ByteArray) (r : Int) (w : World) (h : DiskAt Try.prog base K d w S) (hs : name.size ≤ maxLen) (h0 : r ≠ 0)
    (hr : ableOf S.a name.data.toList = r ∨ (ableOf S.a name.data.toList = 0 ∧ seek WF.nm name.data.toList S.fs = none ∧ r = 2)) :
    Calls Try.prog 28 #[.pointer (some ⟨d, 0, none⟩), .string name] w fun e w' => e = .returned (.int .i64 r) ∧ Below w.heap.size w w' := by
  have HF : Hid (∀ w1, Below w.heap.size w w1 → Calls Try.prog 42 #[.pointer (some ⟨d, 0, none⟩), .string name] w1 fun e w' => e = .returned (.tuple #[.pointer none, .int .i64 r]) ∧ w' = w1) := fun w1 hb => by
    rcases hr with hr | ⟨h1, h2, rfl⟩
    · exact find_err base K d S name r w1 (h.below hb) hs hr h0
    · exact find_none base K d S name w1 (h.below hb) hs h1 h2
  have hne : (r != 0) = true := by simpa using h0
  clear h hr
  go_enter Try.func28, Try.ntmps28
  go_wp2_with (go_at_call 42; refine (HF.out _ (((Below.refl _ _).alloc (Nat.le_refl _) _).alloc (by simp) _)).mono ?_; rintro e w' ⟨rfl, rfl⟩)
  go_ret
  exact ⟨rfl, ((Below.refl _ _).alloc (Nat.le_refl _) _).alloc (by simp) _⟩
set_option maxHeartbeats 1000000 in
theorem remove_some (base K d : Nat) (S : WD) (name : ByteArray) (w : World) (h : DiskAt Try.prog base K d w S) (hs : name.size ≤ maxLen) (ha : ableOf S.a name.data.toList = 0) (F : WF) (hf : seek WF.nm name.data.toList S.fs = some F) (r : Int) (R : World → Prop)
    (hch : ∀ w1, Below w.heap.size w w1 → w1.heap[w.heap.size]? = some (.cells #[.pointer (some ⟨d, 0, none⟩)] 23 (0, 0)) → w1.heap[w.heap.size + 1]? = some (.cells #[.string name] 9 (0, 0)) →
      Calls Try.prog 43 #[.pointer (some ⟨d, 0, none⟩), .func (.func 50) #[] #[.pointer (some ⟨w.heap.size, 0, none⟩), .pointer (some ⟨w.heap.size + 1, 0, none⟩)]] w1 fun e w' => e = .returned (.int .i64 r) ∧ R w') :
    Calls Try.prog 28 #[.pointer (some ⟨d, 0, none⟩), .string name] w fun e w' => e = .returned (.int .i64 r) ∧ R w' := by
  have HF : Hid (∀ w1, Below w.heap.size w w1 → Calls Try.prog 42 #[.pointer (some ⟨d, 0, none⟩), .string name] w1 fun e w' => e = .returned (.tuple #[.pointer (some ⟨F.blk, 0, none⟩), .int .i64 0]) ∧ w' = w1) := fun w1 hb => find_some base K d S name F w1 (h.below hb) hs ha hf
  have HC := hide (hch ((w.alloc (.cells #[.pointer (some ⟨d, 0, none⟩)] 23)).alloc (.cells #[.string name] 9)) (((Below.refl _ _).alloc (Nat.le_refl _) _).alloc (by simp) _)
    ((heap_alloc_old _ _ (by simp)).trans (heap_alloc_new w _)) (by have := heap_alloc_new (w.alloc (.cells #[.pointer (some ⟨d, 0, none⟩)] 23)) (.cells #[.string name] 9); simpa using this))
  clear h hch hf
  generalize F.blk = B at *
  go_enter Try.func28, Try.ntmps28
  go_wp2_with (first
    | (go_at_call 42; refine (HF.out _ (((Below.refl _ _).alloc (Nat.le_refl _) _).alloc (by simp) _)).mono ?_; rintro e w' ⟨rfl, rfl⟩)
    | (go_at_call 43; refine HC.out.mono ?_; rintro e w2 ⟨rfl, hR⟩))
  go_ret
  exact ⟨rfl, hR⟩
end Go.Proofs.Ytnjkahoaogeecaa
