/- Contract: a fall is laid. -/
import Derived.Test.YtnjkahoaogeecaaDiskStruck
namespace Go.Dk
open Go.RowKit
variable {P : Program} {base K d : Nat} {w w1 : World} {S : WD}
theorem DiskAt.replan (h : DiskAt P base K d w S) (hbase : base ≤ w.heap.size) (hb : Below w.heap.size w w1) (v : Value) (fo : Option Fall) (hrow : w1.ownsRow w.heap.size 34 3 v (flen fo) (fcells fo)) :
    DiskAt P base K d (w1.setCell ⟨d, 1, none⟩ v) { S with a := { S.a with fall := fo }, pv := v } ∧ Dsk base w (w1.setCell ⟨d, 1, none⟩ v) := by
  have h1 := h.below hb
  have t : Tch (· = d) w1 (w1.setCell ⟨d, 1, none⟩ v) := .set _ _ _ _ rfl
  refine ⟨⟨?_, h.ge, h.rm, ?_, ?_, ?_, h.same, h.small, h.count, h.chg, h.lim⟩, Dsk.trans (.of_below hb) (t.mono fun b e => e ▸ h1.mine_d)⟩
  · rw [heap_setCell_same _ _ _ _ _ _ h1.row]
    rfl
  · refine ownsRow_kept (ownsRow_base hrow hbase) fun g hg => ?_
    obtain ⟨cur, hc⟩ := ownsRow_tag hrow hg
    refine t.block g (block_lt hc) fun e => ?_
    rw [e, h1.row] at hc
    cases hc
  · refine h1.map.kept fun b hb' => ?_
    obtain ⟨_, es, cl, h2⟩ := h1.map.kind hb'
    refine t.block b (block_lt h2) fun e => ?_
    rw [e, h1.row] at h2
    cases h2
  · exact h1.files.touch t fun F hF b hb' e => (h1.files.files F hF).not_d h1.row (e ▸ hb')
end Go.Dk
namespace Go.Proofs.Ytnjkahoaogeecaa
open Go.RowKit Go.Dk
theorem slice_some (g c : Nat) (w : World) : (binOp .eql 57 (.slice (some ⟨g, 0, none⟩) 1 c) (.slice none 0 0)).run Try.prog w = .ok (.bool false) w := by kernel_rfl
set_option maxRecDepth 100000 in
set_option maxHeartbeats 1000000 in
theorem clone_one (g c : Nat) (f : Fall) (w : World) (hg : w.heap[g]? = some (.cells #[.int .i64 f.on, .int .i64 f.keep, .int .i64 f.torn] 34 (0, 0))) :
    Calls Try.prog 49 #[.slice (some ⟨g, 0, none⟩) 1 c] w fun e w' => ∃ a k, e = .returned (.slice a 1 k) ∧ w'.ownsRow w.heap.size 34 3 (.slice a 1 k) 1 [.int .i64 f.on, .int .i64 f.keep, .int .i64 f.torn] ∧ Below w.heap.size w w' := by
  obtain ⟨i1, hj, hy0, hy1, hy2⟩ := info_parts infoF
  have hown : (w.alloc (.cells #[] 34)).ownsRow w.heap.size 34 3 (.slice (some ⟨w.heap.size, 0, none⟩) 0 0) 0 [] := ⟨rfl, .inr ⟨w.heap.size, 0, #[], rfl, Nat.le_refl _, heap_alloc_new w _, Nat.le_refl _, Nat.zero_le _, rfl, rfl⟩⟩
  have HN : Hid (∀ j u, ([.int .i64 f.on, .int .i64 f.keep, .int .i64 f.torn] : List Value)[j]? = some u → (w.alloc (.cells #[] 34)).cell? ((⟨g, 0, none⟩ : Addr).add j) = some u) := World.news_of_block ((heap_alloc_old w _ (block_lt hg)).trans hg)
  have HO := hide hown
  have hsn := slice_some g c w
  clear hown hg
  go_enter Try.func49, Try.ntmps49
  go_wp2_with (first
    | (at_builtin; refine wpList_append_lies _ rfl _ _ 57 rfl w.heap.size 34 i1 (.agg #[.int .i64 0, .int .i64 0, .int .i64 0]) 3 24 Try.underlying57 hj hy0 hy1 hy2 rfl (by decide) _ 0 [] rfl HO.out ⟨g, 0, none⟩ 1 c _ rfl rfl HN.out (by simp [Value.oneCell']) (by decide) (by unfold maxLen; decide) (by decide) (by simp) _ rfl ?_; intro g2 cap2 w2 hown2 hgrow2 hat2 hlt2)
    | go_in)
  go_ret
  exact ⟨_, _, rfl, hown2, ((Below.refl _ _).alloc (Nat.le_refl _) _).trans ⟨hgrow2.os, hgrow2.tape, hgrow2.output, hgrow2.size, fun k hk => hgrow2.block k (by simp; omega) (fun e => by have e' : some k = some w.heap.size := e; cases e'; omega)⟩⟩
set_option maxHeartbeats 1000000 in
theorem plan_any (base K d g c : Nat) (S : WD) (f : Fall) (w : World) (h : DiskAt Try.prog base K d w S) (hbase : base ≤ w.heap.size) (hg : w.heap[g]? = some (.cells #[.int .i64 f.on, .int .i64 f.keep, .int .i64 f.torn] 34 (0, 0))) :
    Calls Try.prog 24 #[.pointer (some ⟨d, 0, none⟩), .slice (some ⟨g, 0, none⟩) 1 c] w fun e w' => e = .returned (.tuple #[]) ∧ ∃ T : WD, T.a = { S.a with fall := some f } ∧ DiskAt Try.prog base K d w' T ∧ Dsk base w w' := by
  have HC := hide (clone_one g c f w hg)
  have HR : Hid (∀ w1 v, Below w.heap.size w w1 → w1.ownsRow w.heap.size 34 3 v 1 [.int .i64 f.on, .int .i64 f.keep, .int .i64 f.torn] → DiskAt Try.prog base K d (w1.setCell ⟨d, 1, none⟩ v) { S with a := { S.a with fall := some f }, pv := v } ∧ Dsk base w (w1.setCell ⟨d, 1, none⟩ v)) := fun w1 v hb hr => h.replan hbase hb v (some f) hr
  have HD : Hid (∀ w1, Below w.heap.size w w1 → ∃ u, w1.cell? ⟨d, 1, none⟩ = some u ∧ w1.frozen? ⟨d, 1, none⟩ = false) := fun w1 hb => by
    have := (h.below hb).row
    unfold drow at this
    exact ⟨_, (cells6 this).2.1, (cells6 this).2.2.2.2.2.2 1⟩
  clear h hg
  go_enter Try.func24, Try.ntmps24
  go_wp2_with (go_at_call 49; refine HC.out.mono ?_; rintro e w1 ⟨a, k, rfl, hr1, k1⟩; obtain ⟨u, c1, f1⟩ := HD.out w1 k1)
  go_end0
  obtain ⟨k2, k3⟩ := HR.out w1 _ k1 hr1
  exact ⟨rfl, _, rfl, k2, k3⟩
end Go.Proofs.Ytnjkahoaogeecaa
