/- Contract of what puts bytes into a file. -/
import Derived.Test.YtnjkahoaogeecaaDiskNow
import Derived.Deep.RegionLaw
import Derived.Deep.DrawnRows
import Derived.Deep.AppendLies
namespace Go.Dk
/-- What a put leaves of a file. -/
def PutTo (base : Nat) (w w' : World) (F : WF) (p : Pt) : Prop := ∃ F' : WF, F'.a = F.a.put p ∧ F'.blk = F.blk ∧ FileAt base w' F' ∧ Tch F.foot w w' ∧ ∀ b, F'.foot b → F.foot b ∨ w.heap.size ≤ b
end Go.Dk
namespace Go.Proofs.Ytnjkahoaogeecaa
open Go.RowKit Go.Dk
theorem infoB : (Try.prog.info? 5).map (fun i => (i.zero, i.size, i.bytes)) = some (some (.int .u8 0), 1, 1) := by kernel_rfl
theorem infoP : (Try.prog.info? 101).map (fun i => (i.zero, i.size, i.bytes)) = some (some (.agg #[.slice none 0 0, .int .i64 0]), 2, 32) := by kernel_rfl
attribute [local go_sem ↓] Go.wp_at_zero Go.wp_at_succ
set_option maxHeartbeats 2000000 in
theorem fput_any (base : Nat) (F : WF) (w : World) (h : FileAt base w F) (hbase : base ≤ w.heap.size) (whole : Bool) (stay : Value) (hstay : (whole = true ∧ stay = .slice none 0 0) ∨ (whole = false ∧ stay = F.nowV)) (s : ByteArray)
    (hn : F.cs.length ≤ 1000000) (hl : F.a.bytes.length + s.size ≤ 1000000000) :
    Calls Try.prog 60 #[.pointer (some ⟨F.blk, 0, none⟩), stay, .string s] w fun e w' => e = .returned (.tuple #[]) ∧ PutTo base w w' F ⟨s.data.toList, whole⟩ := by
  obtain ⟨i0, hi, hz0, hz1, hz2⟩ := info_parts infoB
  obtain ⟨i1, hj, hy0, hy1, hy2⟩ := info_parts infoP
  have hrow : Row base w stay (if whole = true then [] else F.a.bytes) := by
    rcases hstay with ⟨rfl, rfl⟩ | ⟨rfl, rfl⟩
    · exact Row.nil _ _
    · exact h.now
  have hfin : ∀ (v lv : Value) (w1 w2 w' : World), Row base w1 v ((if whole = true then [] else F.a.bytes) ++ s.data.toList) → w.grownBy w1 stay.ownBlock → (v.ownBlock = stay.ownBlock ∨ v.ownBlock = none ∨ v.ownBlock = some w.heap.size) →
      (∀ u l, Row base w u l → u.ownBlock = stay.ownBlock → l.length ≤ (if whole = true then [] else F.a.bytes).length → Row base w1 u l) → Tch (fun _ => False) w1 w2 → Tch (fun b => F.lv.ownBlock = some b ∨ b = F.blk) w2 w' →
      w'.ownsRow base 101 2 lv (F.cs.length + 1) (F.cs.flatMap Pc.cells ++ [v, .int .i64 (((if whole = true then [] else F.a.bytes).length : Nat) : Int)]) → (lv.ownBlock = F.lv.ownBlock ∨ ∃ g, lv.ownBlock = some g ∧ w.heap.size ≤ g) →
      w'.heap[F.blk]? = some (.cells #[.bool F.a.settled, F.sv, lv] 82 (0, 0)) → PutTo base w w' F ⟨s.data.toList, whole⟩ := by
    intro v lv w1 w2 w' hv g1 l1 k1 t12 t2 hl l2 hr
    have e1 : (if whole = true then [] else F.a.bytes) ++ s.data.toList = app F.a.bytes ⟨s.data.toList, whole⟩ := by cases whole <;> rfl
    have e2 : (if whole = true then [] else F.a.bytes).length = if whole = true then 0 else F.a.bytes.length := by cases whole <;> rfl
    rw [e1] at hv
    rw [e2] at hl
    exact h.put ⟨s.data.toList, whole⟩ stay hstay v lv hv g1 (l1.imp id (Or.imp id fun e => ⟨_, e, Nat.le_refl _⟩)) (fun u l hu e hl => k1 u l hu e (by rw [e2]; exact hl)) t12 t2 hl l2 hr
  have hlen : (if whole = true then [] else F.a.bytes).length + s.size ≤ 1000000000 := by cases whole <;> simp_all; omega
  obtain ⟨c0, c1, c2, fz⟩ := cells3 h.row
  have f2 := fz 2
  have HF : Hid (w.heap[F.blk]? = some (.cells #[.bool F.a.settled, F.sv, F.lv] 82 (0, 0))) := h.row
  have HL : Hid (w.ownsRow base 101 2 F.lv F.cs.length (F.cs.flatMap Pc.cells)) := h.loose
  have HB : Hid (∀ g, stay.ownBlock = some g → g ≠ F.blk ∧ F.lv.ownBlock ≠ some g) := by
    intro g hg
    obtain ⟨cur, hc⟩ := ownsRow_tag hrow hg
    refine ⟨fun e => ?_, fun e => ?_⟩
    · rw [e, h.row] at hc; cases hc
    · obtain ⟨cur', hc'⟩ := ownsRow_tag h.loose e
      rw [hc] at hc'; cases hc'
  have HLB : Hid (F.lv.ownBlock ≠ some F.blk) := fun e => by
    obtain ⟨cur', hc'⟩ := ownsRow_tag h.loose e
    rw [h.row] at hc'; cases hc'
  have hfb : F.blk < w.heap.size := block_lt h.row
  obtain ⟨L, hL⟩ : ∃ L, (if whole = true then [] else F.a.bytes) = L := ⟨_, rfl⟩
  rw [hL] at hrow hfin hlen
  have HFin := (show Hid _ from hfin)
  have HR : Hid (Row base w stay L) := hrow
  clear hfin hrow hL fz hstay h hl c0 c1
  obtain ⟨a0, k0, hst⟩ := HR.out.form
  obtain ⟨lv, hlv⟩ : ∃ lv, F.lv = lv := ⟨_, rfl⟩
  rw [hlv] at c2 HF HL HB HLB HFin
  subst hst
  generalize F.a.settled = st at *
  generalize F.sv = sv at *
  generalize F.cs.flatMap Pc.cells = xs at *
  generalize F.cs.length = m at *
  generalize F.blk = B at *
  obtain ⟨N, hN⟩ : ∃ N, (L ++ s.data.toList).length = N := ⟨_, rfl⟩
  have HN := (show Hid _ from hN)
  clear hN
  have HX : Hid (∀ w1 : World, w.grownBy w1 (Value.slice a0 L.length k0).ownBlock → w1.cell? ⟨B, 2, none⟩ = some lv ∧ (∀ o, (w1.alloc o).ownsRow base 101 2 lv m xs) ∧ w.heap.size ≤ w1.heap.size) := fun w1 g1 =>
    ⟨g1.cell (a := ⟨B, 2, none⟩) c2 (fun e => (HB.out B e.symm).1 rfl), fun o => (ownsRow_kept HL.out (fun g hg => g1.block g (by obtain ⟨cur, hc⟩ := ownsRow_tag HL.out hg; exact block_lt hc) (fun e => (HB.out g e.symm).2 hg))).alloc o, g1.size⟩
  have HY : Hid (∀ (w1 : World) (o : Obj) (w2 : World), w.grownBy w1 (Value.slice a0 L.length k0).ownBlock → (w1.alloc o).grownBy w2 lv.ownBlock → w2.heap[B]? = some (.cells #[.bool st, sv, lv] 82 (0, 0))) := fun w1 o w2 g1 g2 => by
    have e1 := g1.block B hfb (fun e => (HB.out B e.symm).1 rfl)
    have e2 := heap_alloc_old w1 o (Nat.lt_of_lt_of_le hfb g1.size)
    rw [g2.block B (by simp; have := g1.size; omega) (fun e => HLB.out e.symm), e2, e1]
    exact HF.out
  go_enter Try.func60, Try.ntmps60
  go_region_law
    (first
      | (refine step_append_str _ (by rfl) _ _ 70 9 (by rfl) i0 Try.underlying70 Try.underlying9 hi hz0 hz1 hz2 base _ L (by rfl) HR.out s (by rfl) (by omega) hbase ?_
         intro v1 w1 r1 g1 l1 k1
         obtain ⟨a1, k9, hv1⟩ := r1.form
         rw [HN.out] at hv1
         subst hv1
         have g1' : w.grownBy w1 (Value.slice a0 L.length k0).ownBlock := ⟨g1.os, g1.tape, g1.output, g1.size, g1.block⟩
         obtain ⟨c21, HL1, hsz1⟩ := HX.out w1 g1'
         have c2a : ∀ o, (w1.alloc o).cell? ⟨B, 2, none⟩ = some lv := fun o => (((Below.refl _ w1).alloc (Nat.le_refl _) o).cell (p := ⟨B, 2, none⟩) (Nat.lt_of_lt_of_le hfb hsz1)).trans c21
         have HG := (show Hid _ from And.intro r1 (And.intro g1' (And.intro l1 k1)))
         clear r1 g1 g1' l1 k1)
      | (refine step_append_lies _ (by rfl) _ _ 80 (by rfl) base 101 i1 (.agg #[.slice none 0 0, .int .i64 0]) 2 32 Try.underlying80 hj hy0 hy1 hy2 rfl (by decide) lv m xs (by rfl) (HL1 _) ⟨w1.heap.size, 0, none⟩ 1 1 [.slice a1 N k9, .int .i64 L.length] (by rfl) (by rfl) (World.news_of_block (heap_alloc_new w1 _)) (by simp [Value.oneCell']) (by decide) (by unfold maxLen; omega) (by omega) (by simp; omega) _ rfl ?_
         intro g cap w2 hown2 hgrow2 hat2 hlt2
         have h2B := (show Hid _ from HY.out w1 _ w2 HG.out.2.1 hgrow2)
         have c22 := (cells3 h2B.out).2.2.1
         have f22 := (cells3 h2B.out).2.2.2 2
         have HG2 := (show Hid _ from And.intro hown2 (And.intro hgrow2 hat2))
         clear hown2 hgrow2 hat2 HL1))
  all_goals
    go_end0
    have hgB : g ≠ B := fun e => by
      obtain ⟨cur, hc⟩ := ownsRow_tag HG2.out.1 (g := g) rfl
      have h2 := h2B.out
      rw [← e, hc] at h2
      cases h2
    refine ⟨rfl, HFin.out _ (.slice (some ⟨g, 0, none⟩) (m + 1) cap) w1 _ _ HG.out.1 HG.out.2.1 HG.out.2.2.1 HG.out.2.2.2 (.alloc _ _ _) ((Tch.of_grown HG2.out.2.1 (fun b e => .inl e)).and (.set _ _ _ _ (.inr rfl))) (ownsRow_kept HG2.out.1 fun g' e => ?_) (HG2.out.2.2.imp (fun e => e.symm) fun e => ⟨g, rfl, ?_⟩) ?_⟩
    · cases e
      exact Deep.blk_setCell_other _ _ _ _ hgB
    · rw [e]
      simp
      omega
    · rw [heap_setCell_same _ _ _ _ _ _ h2B.out]
      rfl
end Go.Proofs.Ytnjkahoaogeecaa
