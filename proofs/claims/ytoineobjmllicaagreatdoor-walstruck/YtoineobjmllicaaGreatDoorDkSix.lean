/- Several texts in one: DiskPlan, DiskAwake. -/
import Derived.Test.YtoineobjmllicaaGreatDoorDkFive
import Derived.Test.YtoineobjmllicaaGreatDoorPutsOne
/- Contract: a fall is laid. -/
namespace Go.Dk
open Go.RowKit
variable {M : Nat → Prop}
variable {P : Program} {base K d : Nat} {w w1 : World} {S : WD}
theorem DiskAt.replan (hM : ∀ b, w.heap.size ≤ b → M b) (h : DiskAt P M base K d w S) (hbase : base ≤ w.heap.size) (hb : Below w.heap.size w w1) (v : Value) (fo : Option Fall) (hrow : w1.ownsRow w.heap.size 34 3 v (flen fo) (fcells fo)) :
    DiskAt P M base K d (w1.setCell ⟨d, 1, none⟩ v) { S with a := { S.a with fall := fo }, pv := v } ∧ Dsk M base w (w1.setCell ⟨d, 1, none⟩ v) := by
  have h1 := h.below hb
  have t : Tch (· = d) w1 (w1.setCell ⟨d, 1, none⟩ v) := .set _ _ _ _ rfl
  refine ⟨⟨?_, h.ge, h.rm, ?_, ?_, ?_, h.same, h.small, h.count, h.chg, h.lim, (fun b e => e.elim (fun e => h.own b (.inl e)) fun e => hM b (ownsRow_ge hrow e))⟩, Dsk.trans (.of_below hb) (t.mono fun b e => e ▸ h1.mine_d)⟩
  · rw [heap_setCell_same _ _ _ _ _ _ h1.row]
    rfl
  · refine ownsRow_kept (ownsRow_base hrow hbase) fun g hg => ?_
    obtain ⟨cur, hc⟩ := ownsRow_tag hrow hg
    refine t.block g (block_lt hc) fun e => ?_
    rw [e, h1.row] at hc
    cases hc
  · refine h1.map.kept fun b hb' => ?_
    obtain ⟨_, es, cl, h2⟩ := h1.map.kind hb'
    refine t.block b (block_lt h2) fun e => ?_
    rw [e, h1.row] at h2
    cases h2
  · exact h1.files.touch t fun F hF b hb' e => (h1.files.files F hF).not_d h1.row (e ▸ hb')
end Go.Dk
namespace Go.Proofs.YtoineobjmllicaaGreatDoor
open Go.RowKit Go.Dk
variable {M : Nat → Prop}
theorem slice_some (g c : Nat) (w : World) : (binOp .eql 48 (.slice (some ⟨g, 0, none⟩) 1 c) (.slice none 0 0)).run Tryz.prog w = .ok (.bool false) w := by kernel_rfl
set_option maxRecDepth 5000 in
set_option maxHeartbeats 1000000 in
theorem clone_one (g c : Nat) (f : Fall) (w : World) (hg : w.heap[g]? = some (.cells #[.int .i64 f.on, .int .i64 f.keep, .int .i64 f.torn] 34 (0, 0))) :
    Calls Tryz.prog 54 #[.slice (some ⟨g, 0, none⟩) 1 c] w fun e w' => ∃ a k, e = .returned (.slice a 1 k) ∧ w'.ownsRow w.heap.size 34 3 (.slice a 1 k) 1 [.int .i64 f.on, .int .i64 f.keep, .int .i64 f.torn] ∧ Below w.heap.size w w' := by
  obtain ⟨i1, hj, hy0, hy1, hy2⟩ := info_parts infoF
  have hown : (w.alloc (.cells #[] 34)).ownsRow w.heap.size 34 3 (.slice (some ⟨w.heap.size, 0, none⟩) 0 0) 0 [] := ⟨rfl, .inr ⟨w.heap.size, 0, #[], rfl, Nat.le_refl _, heap_alloc_new w _, Nat.le_refl _, Nat.zero_le _, rfl, rfl⟩⟩
  have HN : Hid (∀ j u, ([.int .i64 f.on, .int .i64 f.keep, .int .i64 f.torn] : List Value)[j]? = some u → (w.alloc (.cells #[] 34)).cell? ((⟨g, 0, none⟩ : Addr).add j) = some u) := World.news_of_block ((heap_alloc_old w _ (block_lt hg)).trans hg)
  have HO := hide hown
  have hsn := slice_some g c w
  clear hown hg
  go_enter Tryz.func54, Tryz.ntmps54
  go_wp2_with (first
    | (at_builtin; refine wpList_append_lies _ rfl _ _ 48 rfl w.heap.size 34 i1 (.agg #[.int .i64 0, .int .i64 0, .int .i64 0]) 3 24 Tryz.underlying48 hj hy0 hy1 hy2 rfl (by decide) _ 0 [] rfl HO.out ⟨g, 0, none⟩ 1 c _ rfl rfl HN.out (by simp [Value.oneCell']) (by decide) (by unfold maxLen; decide) (by decide) (by simp) _ rfl ?_; intro g2 cap2 w2 hown2 hgrow2 hat2 hlt2)
    | go_in)
  go_ret
  exact ⟨_, _, rfl, hown2, ((Below.refl _ _).alloc (Nat.le_refl _) _).trans ⟨hgrow2.os, hgrow2.tape, hgrow2.output, hgrow2.size, fun k hk => hgrow2.block k (by simp; omega) (fun e => by have e' : some k = some w.heap.size := e; cases e'; omega)⟩⟩
set_option maxHeartbeats 1000000 in
theorem plan_any (base K d g c : Nat) (S : WD) (f : Fall) (w : World) (hM : ∀ b, w.heap.size ≤ b → M b) (h : DiskAt Tryz.prog M base K d w S) (hbase : base ≤ w.heap.size) (hg : w.heap[g]? = some (.cells #[.int .i64 f.on, .int .i64 f.keep, .int .i64 f.torn] 34 (0, 0))) :
    Calls Tryz.prog 26 #[.pointer (some ⟨d, 0, none⟩), .slice (some ⟨g, 0, none⟩) 1 c] w fun e w' => e = .returned (.tuple #[]) ∧ ∃ T : WD, T.a = { S.a with fall := some f } ∧ DiskAt Tryz.prog M base K d w' T ∧ Dsk M base w w' := by
  have HC := hide (clone_one g c f w hg)
  have HR : Hid (∀ w1 v, Below w.heap.size w w1 → w1.ownsRow w.heap.size 34 3 v 1 [.int .i64 f.on, .int .i64 f.keep, .int .i64 f.torn] → DiskAt Tryz.prog M base K d (w1.setCell ⟨d, 1, none⟩ v) { S with a := { S.a with fall := some f }, pv := v } ∧ Dsk M base w (w1.setCell ⟨d, 1, none⟩ v)) := fun w1 v hb hr => h.replan hM hbase hb v (some f) hr
  have HD : Hid (∀ w1, Below w.heap.size w w1 → ∃ u, w1.cell? ⟨d, 1, none⟩ = some u ∧ w1.frozen? ⟨d, 1, none⟩ = false) := fun w1 hb => by
    have := (h.below hb).row
    unfold drow at this
    exact ⟨_, (cells6 this).2.1, (cells6 this).2.2.2.2.2.2 1⟩
  clear h hg
  go_enter Tryz.func26, Tryz.ntmps26
  go_wp2_with (go_at_call 54; refine HC.out.mono ?_; rintro e w1 ⟨a, k, rfl, hr1, k1⟩; obtain ⟨u, c1, f1⟩ := HD.out w1 k1)
  go_end0
  obtain ⟨k2, k3⟩ := HR.out w1 _ k1 hr1
  exact ⟨rfl, _, rfl, k2, k3⟩
end Go.Proofs.YtoineobjmllicaaGreatDoor
/- Contract of the laws' own look: of ten loose bytes eight are kept. -/
namespace Go.Dk
open Go.RowKit
variable {M : Nat → Prop}
/-- A disk without files. -/
def bare (room : Int) : WD := ⟨⟨[], room, none, 0, false⟩, 0, none, .slice none 0 0, []⟩
def ten : Bs := [48, 49, 50, 51, 52, 53, 54, 55, 56, 57]
def eight : Bs := [48, 49, 50, 51, 52, 53, 54, 55]
theorem awake_puts : (bare (-1)).a.puts ((bare (-1)).a.fileOf [97]) ⟨ten, false⟩ = ⟨[⟨[97], [], false, [⟨ten, false⟩]⟩], -1, none, 1, false⟩ := by rfl
theorem awake_falls : A.crash ⟨[⟨[97], [], false, [⟨ten, false⟩]⟩], -1, none, 1, false⟩ 0 1 = ⟨[⟨[97], eight, true, []⟩], -1, none, 1, true⟩ := by rfl
theorem seek_of {P : Program} {base K d : Nat} {w : World} {S : WD} (h : DiskAt P M base K d w S) {name : Bs} {f : AF} (hf : seek AF.name name S.a.files = some f) : ∃ F, seek WF.nm name S.fs = some F ∧ F.a = f := by
  have := h.seek name
  rw [hf] at this
  cases hs : seek WF.nm name S.fs with
  | none => rw [hs] at this; cases this
  | some F => rw [hs] at this; exact ⟨F, rfl, Option.some.inj this⟩
end Go.Dk
namespace Go.Proofs.YtoineobjmllicaaGreatDoor
open Go.RowKit Go.Dk
variable {M : Nat → Prop}
theorem fresh_disk (base d : Nat) (w : World) (hb : base ≤ d) (hr : w.heap[d]? = some (.cells (dcells none (.slice none 0 0) 0 false 0 false) 67 (0, 0))) : DiskAt Tryz.prog M base 0 d w (bare (-1)) :=
  ⟨hr, hb, fun h => absurd h (by decide), World.ownsRow_nil _ _ _ _, .inl ⟨rfl, rfl⟩, FilesAt.nil _ _, rfl, fun F hF => (List.not_mem_nil hF).elim, Nat.le_refl _, Nat.le_refl _, by decide, fun _ e => by rcases e with e | e <;> cases e⟩
/-- Up, of a disk without power. -/
theorem up_any (base K d : Nat) (S : WD) (w : World) (h : DiskAt Tryz.prog M base K d w S) (hd : S.a.down = true) :
    Calls Tryz.prog 17 #[.pointer (some ⟨d, 0, none⟩)] w fun e w' => e = .returned (.bool true) ∧ DiskAt Tryz.prog M base K d w' { S with a := { S.a with down := false } } ∧ Dsk M base w w' := by
  have hrow := h.row
  unfold drow at hrow
  rw [hd] at hrow
  refine (up_off d _ _ _ _ _ w hrow).mono ?_
  rintro e w' ⟨rfl, hr, t⟩
  exact ⟨rfl, h.reset hr t rfl rfl rfl rfl rfl h.rm h.chg (Nat.le_refl _) h.lim⟩
end Go.Proofs.YtoineobjmllicaaGreatDoor
